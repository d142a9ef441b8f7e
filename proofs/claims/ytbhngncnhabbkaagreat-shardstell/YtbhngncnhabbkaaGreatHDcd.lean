/- The walk of shards.Decode. -/
import Derived.Test.YtbhngncnhabbkaaGreatHRd4
import Derived.Laws.ResultCell
namespace Go.Proofs.YtbhngncnhabbkaaGreat
open Go.RowKit

namespace Sh
theorem dec_short {b : List UInt8} (h : b.length < 4) : dec b = none := by
  unfold dec bodyOf
  rw [if_neg (by omega)]
theorem dec_sum {b : List UInt8} (h : b.drop (b.length - 4) ≠ Cr.four (Cr.sum (b.take (b.length - 4)))) : dec b = none := by
  unfold dec bodyOf
  rw [if_neg (fun hh => h hh.2)]
theorem dec_body {b t : List UInt8} (h4 : 4 ≤ b.length) (ht : b.take (b.length - 4) = t) (h : b.drop (b.length - 4) = Cr.four (Cr.sum t)) :
    dec b = if (shR (t, false)).1 = ([], false) ∧ may (shR (t, false)).2 = true then some (shR (t, false)).2 else none := by
  unfold dec bodyOf
  rw [ht, if_pos ⟨h4, h⟩]
theorem decE_none {b : List UInt8} (h : dec b = none) : decE b = 10 := by unfold decE; rw [h]; rfl
theorem decS_none {b : List UInt8} (h : dec b = none) : decS b = none_ := by unfold decS; rw [h]; rfl
theorem decE_some {b : List UInt8} {s : Shard} (h : dec b = some s) : decE b = 0 := by unfold decE; rw [h]; rfl
theorem decS_some {b : List UInt8} {s : Shard} (h : dec b = some s) : decS b = s := by unfold decS; rw [h]; rfl
theorem shR_fit (b : List UInt8) (f : Bool) (hb : b.length ≤ 1000000) : (shR (b, f)).2.2.length ≤ 65536 ∧ (∀ l ∈ (shR (b, f)).2.2, l.length ≤ 1000000 ∧ Gp.Fit l) ∧ 0 ≤ (shR (b, f)).2.1.1 ∧ (shR (b, f)).2.1.1 ≤ (shR (b, f)).2.1.2 ∧ (shR (b, f)).2.1.2 ≤ 256 := by
  unfold shR outR headR
  dsimp only
  have s1 := (textR_short (b, f) 2).2
  generalize textR (b, f) 2 = x1 at *
  have s2 := wantR_short x1.1 (decide (x1.2 = [115, 104]))
  generalize wantR x1.1 (decide (x1.2 = [115, 104])) = r2 at *
  have s3 := partR_short r2
  generalize partR r2 = x3 at *
  have s4 := degR_short x3.1 (x3.2.2 - x3.2.1).toNat
  generalize degR x3.1 (x3.2.2 - x3.2.1).toNat = x4 at *
  have s5 := lstsR_short x4.2 x4.1
  have s6 := lstsR_len x4.2 x4.1
  generalize lstsR x4.1 x4.2 = x5 at *
  dsimp only at s1
  refine ⟨by omega, fun l hl => ?_, s3.2⟩
  obtain ⟨h1, h2⟩ := s5.2 l hl
  exact ⟨by omega, h1⟩
end Sh

set_option maxHeartbeats 2000000 in
set_option maxRecDepth 100000 in
theorem sdec_any (b : ByteArray) (w : World) (hs : b.size ≤ 1000000) :
    Calls Tryz.prog 10 #[.string b] w fun e w' => ∃ u, e = .returned (.tuple #[u, .int .i64 (Sh.decE b.data.toList)]) ∧ Shd w' u (Sh.decS b.data.toList) ∧ Below w.heap.size w w' := by
  obtain ⟨wa, hwa⟩ : ∃ wa, w.alloc (.cells #[.int .i64 0, .int .i64 0, .slice none 0 0] 26) = wa := ⟨_, rfl⟩
  have hba : Below w.heap.size w wa := by rw [← hwa]; exact (Below.refl _ w).alloc (Nat.le_refl _) _
  have hP : wa.heap[w.heap.size]? = some (.cells #[.int .i64 0, .int .i64 0, .slice none 0 0] 26 (0, 0)) := by rw [← hwa]; exact heap_alloc_new _ _
  have HP : Hid _ := hP
  have HBA : Hid (Below w.heap.size w wa) := hba
  have hbl : b.data.toList.length = b.size := Array.length_toList
  have hsome := Later.some wa
  obtain ⟨DE, HDE⟩ : ∃ x, Hid (Sh.decE b.data.toList = x) := ⟨_, rfl⟩
  obtain ⟨DS, HDS⟩ : ∃ x, Hid (Sh.decS b.data.toList = x) := ⟨_, rfl⟩
  rw [HDE.out, HDS.out]
  clear hba
  by_cases h4 : b.size < 4
  · have HN : Hid (DE = 10 ∧ DS = Sh.none_) := by
      have h := Sh.dec_short (b := b.data.toList) (by omega)
      exact ⟨by rw [← HDE.out]; exact Sh.decE_none h, by rw [← HDS.out]; exact Sh.decS_none h⟩
    have hd : decide ((b.size : Int) - 4 < 0) = true := by simp; omega
    have hd1 : (b.size : Int) - 4 < 0 := by omega
    go_enter Tryz.func10, Tryz.ntmps10
    go_wp2_with fail
    refine wp_region_later (by kernel_rfl) (by kernel_rfl) ?_
    repeat (go_big_quiet_step (fail))
    refine wpQuiet_nil ?_
    intro w2 hw2
    obtain ⟨⟨w3, hb3⟩, rfl⟩ := hw2
    obtain ⟨p0, p1, p2, f0, f1, f2⟩ := three_cells (blk_later HP.out hb3)
    have HB3 : Hid (Below w.heap.size w w2) := bnext HBA.out hb3
    clear hb3
    go_wp2
    refine bodyPost_ret (v := .tuple #[.agg #[.int .i64 0, .int .i64 0, .slice none 0 0], .int .i64 10]) ?_ rfl ⟨_, by rw [HN.out.1], by rw [HN.out.2]; exact ⟨_, rfl, lists_nil _⟩, ?_⟩
    · rw [results_cell_tmp rfl]
      go_simp
    · exact ((HB3.out.setCell (Nat.le_refl _) _).setCell (Nat.le_refl _) _).setCell (Nat.le_refl _) _
  · obtain ⟨n, hn⟩ : ∃ n, b.size = n + 4 := ⟨b.size - 4, by omega⟩
    have hn2 : (b.size : Int) - 4 = (n : Int) := by omega
    have hd : decide ((n : Int) < 0) = false := by simp
    have hnb : n ≤ b.size := by omega
    have hTB : (b.extract 0 n).data.toList = b.data.toList.take (b.data.toList.length - 4) := by rw [extract_take, hbl, hn, Nat.add_sub_cancel]
    have hEB : (b.extract n b.size).data.toList = b.data.toList.drop (b.data.toList.length - 4) := by rw [extract_drop, hbl, hn, Nat.add_sub_cancel]
    have hts : (b.extract 0 n).size ≤ 1000000 := by rw [ByteArray.size_extract]; omega
    obtain ⟨t, ht⟩ : ∃ t, b.data.toList.take (b.data.toList.length - 4) = t := ⟨_, rfl⟩
    have htl : t.length ≤ 1000000 := by rw [← ht, List.length_take]; omega
    rw [ht] at hTB
    have HSM : Hid (∀ W : World, Calls Tryz.prog 28 #[.string (b.extract 0 n)] W fun e w' => e = .returned (.string ⟨(Cr.four (Cr.sum t)).toArray⟩) ∧ Below W.heap.size W w') := fun W => by
      rw [← hTB]; exact sumB_any _ W (by omega)
    have hTe : b.extract 0 n = ⟨t.toArray⟩ := text_eq hTB
    have HTE : Hid (b.extract 0 n = ⟨t.toArray⟩) := hTe
    by_cases hc : b.data.toList.drop (b.data.toList.length - 4) = Cr.four (Cr.sum t)
    · have HDB := Sh.dec_body (b := b.data.toList) (by omega) ht hc
      have hEF : (ByteArray.toList (b.extract n b.size) == ByteArray.toList ⟨(Cr.four (Cr.sum t)).toArray⟩) = true := by
        rw [ByteArray.toList_eq, ByteArray.toList_eq, beq_iff_eq, hEB]; exact hc
      have HSH : Hid (∀ (W : World) (B : Nat), RBlk W B (t, false) → Calls Tryz.prog 34 #[.pointer (some ⟨B, 0, none⟩)] W fun e w' => ∃ u, e = .returned (.agg (scells (Sh.shR (t, false)).2 u)) ∧ ListsF W.heap.size w' u (Sh.shR (t, false)).2.2 ∧ RBlk w' B (Sh.shR (t, false)).1 ∧ Oth B W w') := fun W B h => rshard_any B (t, false) W h htl
      have HFT := Sh.shR_fit t false htl
      clear hTe hTB hEB ht hts htl hc
      rw [hn] at hEF
      generalize Sh.shR (t, false) = x at *
      obtain ⟨⟨rest, fl⟩, ⟨q1, q2⟩, o⟩ := x
      dsimp only at HDB HSH HFT
      have HCK : Hid (∀ (W : World) (u : Value), Lists W u o → Calls Tryz.prog 12 #[.agg (scells ((q1, q2), o) u)] W fun e w' => e = .returned (.int .i64 (Sh.chk ((q1, q2), o))) ∧ Below W.heap.size W w') := fun W u h => schk_any ((q1, q2), o) u W h ⟨by dsimp only; omega, HFT.2.1⟩ ⟨⟨by dsimp only; omega, by dsimp only; omega⟩, by dsimp only; omega, by dsimp only; omega⟩
      unfold scells at HSH HCK
      dsimp only at HSH HCK
      generalize hE : b.extract n (n + 4) = E at *
      generalize hT : b.extract 0 n = T at *
      generalize (⟨(Cr.four (Cr.sum t)).toArray⟩ : ByteArray) = F at *
      have HNO : Hid (¬ (rest = [] ∧ fl = false ∧ Sh.may ((q1, q2), o) = true) → DE = 10 ∧ DS = Sh.none_) := fun hh => by
        have h : Sh.dec b.data.toList = none := by
          rw [HDB, if_neg]
          rintro ⟨h1, h2⟩
          simp only [Prod.mk.injEq] at h1
          exact hh ⟨h1.1, h1.2, h2⟩
        exact ⟨by rw [← HDE.out]; exact Sh.decE_none h, by rw [← HDS.out]; exact Sh.decS_none h⟩
      have HYES : Hid (rest = [] → fl = false → Sh.may ((q1, q2), o) = true → DE = 0 ∧ DS = ((q1, q2), o)) := fun h1 h2 h3 => by
        have h : Sh.dec b.data.toList = some ((q1, q2), o) := by rw [HDB, if_pos ⟨by rw [h1, h2], h3⟩]
        exact ⟨by rw [← HDE.out]; exact Sh.decE_some h, by rw [← HDS.out]; exact Sh.decS_some h⟩
      clear HDB HFT HDE HDS
      go_enter Tryz.func10, Tryz.ntmps10
      go_wp2_with fail
      refine wp_region_later (by kernel_rfl) (by kernel_rfl) ?_
      repeat (go_big_quiet_step (first | (go_at_call 28; exact Later.made (HSM.out _))))
      refine wpQuiet_nil ?_
      intro w2 hw2
      obtain ⟨⟨w3, hb3⟩, rfl⟩ := hw2
      have HP2 : Hid _ := blk_later HP.out hb3
      have HB2 : Hid (Below w.heap.size w w2) := bnext HBA.out hb3
      have hPlt : w.heap.size < w2.heap.size := by have := hb3.size; have := (Array.getElem?_eq_some_iff.1 HP.out).1; omega
      clear hb3 HP HBA hsome HSM
      go_wp2_with fail
      have hRB : RBlk (w2.alloc (.cells #[.string T, .bool false] 69)) w2.heap.size (t, false) := by
        rw [HTE.out]; exact heap_alloc_new w2 _
      refine Calls.mono (HSH.out _ _ hRB) ?_
      rintro e w4 ⟨u, rfl, hl4, hr4, ho4⟩
      obtain ⟨ua, uc, rfl, _, _⟩ := id hl4.lists
      have hb24 : Below w2.heap.size w2 (w2.alloc (.cells #[.string T, .bool false] 69)) := (Below.refl _ w2).alloc (Nat.le_refl _) _
      have hb4 : Below w2.heap.size w2 w4 := hb24.trans (ho4.below (Nat.le_refl _) hb24.size)
      obtain ⟨w5, hw5⟩ : ∃ w5, w4.alloc (.cells #[.int .i64 q1, .int .i64 q2, .slice ua o.length uc] 26) = w5 := ⟨_, rfl⟩
      have hb45 : Below w4.heap.size w4 w5 := by rw [← hw5]; exact (Below.refl _ w4).alloc (Nat.le_refl _) _
      have hS5 : w5.heap[w4.heap.size]? = some (.cells #[.int .i64 q1, .int .i64 q2, .slice ua o.length uc] 26 (0, 0)) := by rw [← hw5]; exact heap_alloc_new w4 _
      obtain ⟨s0, s1, s2, _, _, _⟩ := three_cells hS5
      have hr5 : RBlk w5 w2.heap.size (rest, fl) := hr4.later hb45
      have hr5x := RBx.of hr5
      have r0 := hr5x.c0
      have r1 := hr5x.c1
      have HB5 : Hid (Below w.heap.size w w5) := (HB2.out.trans (hb4.mono (by omega))).trans (hb45.mono (by have := hb4.size; omega))
      have HP5 : Hid _ := blk_later (blk_later HP2.out hb4) hb45
      have HL5 : Hid (ListsF (w.heap.size + 1) w5 (.slice ua o.length uc) o) := (hl4.mono (by have := hb24.size; omega)).later hb45
      obtain ⟨p0, p1, p2, f0, f1, f2⟩ := three_cells HP5.out
      have HS5 : Hid _ := hS5
      clear hRB hl4 hr4 ho4 hb24 hb4 hb45 hr5 hr5x HSH HP2 HB2 hS5
      cases fl with
      | true =>
        have HN : Hid (DE = 10 ∧ DS = Sh.none_) := HNO.out (by simp)
        clear HNO HYES
        go_wp2
        refine bodyPost_ret (v := .tuple #[.agg #[.int .i64 0, .int .i64 0, .slice none 0 0], .int .i64 10]) ?_ rfl ⟨_, by rw [HN.out.1], by rw [HN.out.2]; exact ⟨_, rfl, lists_nil _⟩, ?_⟩
        · rw [results_cell_tmp rfl]
          go_simp
        · exact ((HB5.out.setCell (Nat.le_refl _) _).setCell (Nat.le_refl _) _).setCell (Nat.le_refl _) _
      | false =>
        cases rest with
        | cons y l =>
          have HN : Hid (DE = 10 ∧ DS = Sh.none_) := HNO.out (by simp)
          clear HNO HYES
          go_wp2
          refine bodyPost_ret (v := .tuple #[.agg #[.int .i64 0, .int .i64 0, .slice none 0 0], .int .i64 10]) ?_ rfl ⟨_, by rw [HN.out.1], by rw [HN.out.2]; exact ⟨_, rfl, lists_nil _⟩, ?_⟩
          · rw [results_cell_tmp rfl]
            go_simp
          · exact ((HB5.out.setCell (Nat.le_refl _) _).setCell (Nat.le_refl _) _).setCell (Nat.le_refl _) _
        | nil =>
          have HCK5 := HCK.out w5 _ HL5.out.lists
          cases hm : Sh.may ((q1, q2), o) with
          | true =>
            rw [Sh.chk_yes hm] at HCK5
            have HY : Hid (DE = 0 ∧ DS = ((q1, q2), o)) := HYES.out rfl rfl hm
            replace HCK5 : Hid _ := HCK5
            clear HNO HYES hm HCK
            go_wp2_with fail
            refine Calls.mono HCK5.out ?_
            rintro e w6 ⟨rfl, hb6⟩
            obtain ⟨p0, p1, p2, f0, f1, f2⟩ := three_cells (blk_later HP5.out hb6)
            obtain ⟨s0, s1, s2, _, _, _⟩ := three_cells (blk_later HS5.out hb6)
            have HB6 : Hid (Below w.heap.size w w6) := bnext HB5.out hb6
            have HL6 : Hid (ListsF (w.heap.size + 1) w6 (.slice ua o.length uc) o) := HL5.out.later hb6
            clear hb6 HCK5 HP5 HS5 HL5 HB5
            go_wp2
            refine bodyPost_ret (v := .tuple #[.agg #[.int .i64 q1, .int .i64 q2, .slice ua o.length uc], .int .i64 0]) ?_ rfl ⟨_, by rw [HY.out.1], by rw [HY.out.2]; exact ⟨_, rfl, (((HL6.out.past (Nat.lt_succ_self _) (oth_set _ _ _ _)).past (Nat.lt_succ_self _) (oth_set _ _ _ _)).past (Nat.lt_succ_self _) (oth_set _ _ _ _)).lists⟩, ?_⟩
            · rw [results_cell_tmp rfl]
              go_simp
            · exact ((HB6.out.setCell (Nat.le_refl _) _).setCell (Nat.le_refl _) _).setCell (Nat.le_refl _) _
          | false =>
            rw [Sh.chk_no (by rw [hm]; simp)] at HCK5
            have HN : Hid (DE = 10 ∧ DS = Sh.none_) := HNO.out (by rw [hm]; simp)
            replace HCK5 : Hid _ := HCK5
            clear HNO HYES hm HCK
            go_wp2_with fail
            refine Calls.mono HCK5.out ?_
            rintro e w6 ⟨rfl, hb6⟩
            obtain ⟨p0, p1, p2, f0, f1, f2⟩ := three_cells (blk_later HP5.out hb6)
            have HB6 : Hid (Below w.heap.size w w6) := bnext HB5.out hb6
            clear hb6 HCK5 HP5 HS5 HL5 HB5
            go_wp2
            refine bodyPost_ret (v := .tuple #[.agg #[.int .i64 0, .int .i64 0, .slice none 0 0], .int .i64 10]) ?_ rfl ⟨_, by rw [HN.out.1], by rw [HN.out.2]; exact ⟨_, rfl, lists_nil _⟩, ?_⟩
            · rw [results_cell_tmp rfl]
              go_simp
            · exact ((HB6.out.setCell (Nat.le_refl _) _).setCell (Nat.le_refl _) _).setCell (Nat.le_refl _) _
    · have HN : Hid (DE = 10 ∧ DS = Sh.none_) := by
        have h := Sh.dec_sum (b := b.data.toList) (by rw [ht]; exact hc)
        exact ⟨by rw [← HDE.out]; exact Sh.decE_none h, by rw [← HDS.out]; exact Sh.decS_none h⟩
      have hEF : (ByteArray.toList (b.extract n b.size) == ByteArray.toList ⟨(Cr.four (Cr.sum t)).toArray⟩) = false := by
        rw [ByteArray.toList_eq, ByteArray.toList_eq, beq_eq_false_iff_ne, hEB]; exact hc
      clear hTe hTB hEB ht hts htl hc
      rw [hn] at hEF
      generalize hE : b.extract n (n + 4) = E at *
      generalize hT : b.extract 0 n = T at *
      generalize (⟨(Cr.four (Cr.sum t)).toArray⟩ : ByteArray) = F at *
      go_enter Tryz.func10, Tryz.ntmps10
      go_wp2_with fail
      refine wp_region_later (by kernel_rfl) (by kernel_rfl) ?_
      repeat (go_big_quiet_step (first | (go_at_call 28; exact Later.made (HSM.out _))))
      refine wpQuiet_nil ?_
      intro w2 hw2
      obtain ⟨⟨w3, hb3⟩, rfl⟩ := hw2
      obtain ⟨p0, p1, p2, f0, f1, f2⟩ := three_cells (blk_later HP.out hb3)
      have HB3 : Hid (Below w.heap.size w w2) := bnext HBA.out hb3
      clear hb3 hn hn2 hnb h4
      go_wp2
      refine bodyPost_ret (v := .tuple #[.agg #[.int .i64 0, .int .i64 0, .slice none 0 0], .int .i64 10]) ?_ rfl ⟨_, by rw [HN.out.1], by rw [HN.out.2]; exact ⟨_, rfl, lists_nil _⟩, ?_⟩
      · rw [results_cell_tmp rfl]
        go_simp
      · exact ((HB3.out.setCell (Nat.le_refl _) _).setCell (Nat.le_refl _) _).setCell (Nat.le_refl _) _

end Go.Proofs.YtbhngncnhabbkaaGreat
