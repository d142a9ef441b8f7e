/- The walk of the document's own Decode of graphs. -/
import Derived.Test.YtmekaofjcjmklaaMRef
import Derived.Deep.RegionLaw
import Derived.Deep.AppendLies
namespace Go.Proofs.Ytmekaofjcjmklaa
open Go.RowKit

theorem oth_append {S : Nat} {w3 wr wx w5 : World} {r : Option Nat} (h : Oth S w3 wr) (hb : Below wr.heap.size wr wx) (hg : wx.grownBy w5 r) (hr : ∀ q, r = some q → w3.heap.size ≤ q) : Oth S w3 w5 :=
  ⟨hg.os.trans (hb.os.trans h.os), hg.tape.trans (hb.tape.trans h.tape), hg.output.trans (hb.output.trans h.output), Nat.le_trans h.size (Nat.le_trans hb.size hg.size), fun k hk hne =>
    (hg.block k (Nat.lt_of_lt_of_le hk (Nat.le_trans h.size hb.size)) (fun e => by have := hr k e.symm; omega)).trans ((hb.block k (Nat.lt_of_lt_of_le hk h.size)).trans (h.block k hk hne))⟩
theorem oth_below {S B : Nat} {w w' : World} (h : Oth S w w') (h0 : B ≤ S) (hs : B ≤ w.heap.size) : Below B w w' :=
  ⟨h.os, h.tape, h.output, h.size, fun k hk => h.block k (by omega) (fun e => by simp at e; omega)⟩
theorem oth_blk {W W' : World} {B C : Nat} {o : Obj} (h : W.heap[B]? = some o) (ho : Oth C W W') (hne : B ≠ C) : W'.heap[B]? = some o := by
  rw [ho.block B (Array.getElem?_eq_some_iff.1 h).1 (fun e => hne (by simpa using e))]; exact h
theorem oth_cell {W W' : World} {C b o : Nat} {v : Value} (h : W.cell? ⟨b, o, none⟩ = some v) (ho : Oth C W W') (hne : b ≠ C) : W'.cell? ⟨b, o, none⟩ = some v :=
  ho.cell h (fun e => hne (by simpa using e))

theorem own_set {B k i n size : Nat} {e : TypeId} {W : World} {u x : Value} {xs : List Value} (h : W.ownsRow B e size u n xs) (hk : k < B) : (W.setCell ⟨k, i, none⟩ x).ownsRow B e size u n xs :=
  h.kept (oth_set W k i x) (by
    cases hv : u.ownBlock with
    | none => exact .inl rfl
    | some q => exact .inr fun e => by have := (h.lt q hv).1; simp at e; omega)

set_option maxHeartbeats 2000000 in
set_option maxRecDepth 100000 in
theorem mrdec_any (b : ByteArray) (w : World) (hs : b.size ≤ 1000000) :
    Calls Try.prog 10 #[.string b] w fun e w' => ∃ u, e = .returned (.tuple #[.agg (gcells (Mf.decS b.data.toList) u), .int .i64 (Mf.decE b.data.toList)]) ∧ Prt w' u (Mf.decS b.data.toList).2 ∧ Below w.heap.size w w' := by
  obtain ⟨i0, hi0, hz0, hz1, hz2⟩ := info_parts Try.partInfo
  obtain ⟨wa, hwa⟩ : ∃ wa, w.alloc (.cells #[.int .i64 0, .int .i64 0, .slice none 0 0] 24) = wa := ⟨_, rfl⟩
  obtain ⟨wb, hwb⟩ : ∃ wb, wa.alloc (.cells #[.int .i64 0, .int .i64 0, .slice none 0 0] 24) = wb := ⟨_, rfl⟩
  have hba : Below w.heap.size w wa := by rw [← hwa]; exact (Below.refl _ w).alloc (Nat.le_refl _) _
  have hab : Below wa.heap.size wa wb := by rw [← hwb]; exact (Below.refl _ wa).alloc (Nat.le_refl _) _
  have RX : Hid (GBlk wb w.heap.size 0 0 (.slice none 0 0)) := blk_later (by rw [← hwa]; exact heap_alloc_new _ _) hab
  have SX : Hid (GBlk wb wa.heap.size 0 0 (.slice none 0 0)) := by rw [Hid, ← hwb]; exact heap_alloc_new _ _
  have HRA : Hid (w.heap.size < wa.heap.size) := by rw [Hid, ← hwa]; simp
  have HBB : Hid (Below w.heap.size w wb) := bnext hba hab
  have hbl : b.data.toList.length = b.size := Array.length_toList
  unfold gcells
  have HNO : Hid (Mf.decE b.data.toList = 10 ∧ Mf.decS b.data.toList = Mf.none_ → ∀ W, Below w.heap.size w W → ∃ u, Ending.returned (.tuple #[.agg #[.int .i64 0, .int .i64 0, .slice none 0 0], .int .i64 10]) = Ending.returned (.tuple #[.agg #[.int .i64 (Mf.decS b.data.toList).1.1, .int .i64 (Mf.decS b.data.toList).1.2, u], .int .i64 (Mf.decE b.data.toList)]) ∧ Prt (((W.setCell ⟨w.heap.size, 0, none⟩ (.int .i64 0)).setCell ⟨w.heap.size, 1, none⟩ (.int .i64 0)).setCell ⟨w.heap.size, 2, none⟩ (.slice none 0 0)) u (Mf.decS b.data.toList).2 ∧ Below w.heap.size w (((W.setCell ⟨w.heap.size, 0, none⟩ (.int .i64 0)).setCell ⟨w.heap.size, 1, none⟩ (.int .i64 0)).setCell ⟨w.heap.size, 2, none⟩ (.slice none 0 0))) := fun h W hb => by
    rw [h.1, h.2]
    exact ⟨_, rfl, prt_nil _, below_stored hb⟩
  have HGT := rget_any b 3 wb (by omega)
  replace HGT : Hid _ := HGT
  clear hba hab
  go_enter Try.func10, Try.ntmps10
  go_wp2_with fail
  refine Calls.mono HGT.out ?_
  rintro e w1 ⟨n1, x1, o1, rfl, HG1, hb1⟩
  replace RX : Hid (GBlk w1 w.heap.size 0 0 (.slice none 0 0)) := blk_later RX.out hb1
  replace SX : Hid (GBlk w1 wa.heap.size 0 0 (.slice none 0 0)) := blk_later SX.out hb1
  replace HBB : Hid (Below w.heap.size w w1) := bnext HBB.out hb1
  obtain ⟨s0, s1, s2, f0, f1, f2⟩ := three_cells SX.out
  obtain ⟨w2, hw2⟩ : ∃ w2, w1.setCell ⟨wa.heap.size, 0, none⟩ (.int .i64 n1) = w2 := ⟨_, rfl⟩
  have SX2 : Hid (GBlk w2 wa.heap.size n1 0 (.slice none 0 0)) := by rw [Hid, ← hw2]; exact blk_set SX.out
  have RX2 : Hid (GBlk w2 w.heap.size 0 0 (.slice none 0 0)) := by rw [Hid, ← hw2]; exact (blk_other (Nat.ne_of_lt HRA.out)).trans RX.out
  have HB2 : Hid (Below w.heap.size w w2) := by rw [Hid, ← hw2]; exact HBB.out.setCell (Nat.le_of_lt HRA.out) _
  clear HGT hb1 hwa hwb RX SX HBB
  cases o1 with
  | false =>
    obtain ⟨r0, r1, r2, r3, r4, r5⟩ := three_cells RX2.out
    have HN : Hid _ := Mf.told_no (Mf.dec_unread (Mf.read_first HG1.out))
    go_wp2
    refine bodyPost_ret (v := .tuple #[.agg #[.int .i64 0, .int .i64 0, .slice none 0 0], .int .i64 10]) ?_ rfl (HNO.out HN.out _ HB2.out)
    rw [results_cell_tmp rfl]
    go_simp
  | true =>
    go_wp2_with fail
    refine (rget_any b x1 w2 (by omega)).mono ?_
    rintro e w3 ⟨n2, x2, o2, rfl, HG2, hb3⟩
    replace RX2 : Hid (GBlk w3 w.heap.size 0 0 (.slice none 0 0)) := blk_later RX2.out hb3
    replace SX2 : Hid (GBlk w3 wa.heap.size n1 0 (.slice none 0 0)) := blk_later SX2.out hb3
    replace HB2 : Hid (Below w.heap.size w w3) := bnext HB2.out hb3
    clear s0 s1 s2 f0 f1 f2 hw2
    obtain ⟨s0, s1, s2, f0, f1, f2⟩ := three_cells SX2.out
    obtain ⟨w4, hw4⟩ : ∃ w4, w3.setCell ⟨wa.heap.size, 1, none⟩ (.int .i64 n2) = w4 := ⟨_, rfl⟩
    have SX4 : Hid (GBlk w4 wa.heap.size n1 n2 (.slice none 0 0)) := by rw [Hid, ← hw4]; exact blk_set SX2.out
    have RX4 : Hid (GBlk w4 w.heap.size 0 0 (.slice none 0 0)) := by rw [Hid, ← hw4]; exact (blk_other (Nat.ne_of_lt HRA.out)).trans RX2.out
    have HB4 : Hid (Below w.heap.size w w4) := by rw [Hid, ← hw4]; exact HB2.out.setCell (Nat.le_of_lt HRA.out) _
    clear hb3 RX2 SX2 HB2
    cases o2 with
    | false =>
      obtain ⟨r0, r1, r2, r3, r4, r5⟩ := three_cells RX4.out
      have HN : Hid _ := Mf.told_no (Mf.dec_unread (Mf.read_second HG1.out HG2.out))
      go_wp2
      refine bodyPost_ret (v := .tuple #[.agg #[.int .i64 0, .int .i64 0, .slice none 0 0], .int .i64 10]) ?_ rfl (HNO.out HN.out _ HB4.out)
      rw [results_cell_tmp rfl]
      go_simp
    | true =>
      go_wp2_with fail
      refine (rdecode_own b x2 w4 (by omega)).mono ?_
      rintro e w5 ⟨v, nx, er, rfl, HT, hb5⟩
      have RX5 : Hid (GBlk w5 w.heap.size 0 0 (.slice none 0 0)) := blk_later RX4.out hb5
      have SX5 : Hid (GBlk w5 wa.heap.size n1 n2 (.slice none 0 0)) := blk_later SX4.out hb5
      have HB5 : Hid (Below w.heap.size w w5) := bnext HB4.out hb5
      have HS4 : Hid (wa.heap.size < w4.heap.size) := (Array.getElem?_eq_some_iff.1 SX4.out).1
      have HS5 : Hid (wa.heap.size < w5.heap.size) := (Array.getElem?_eq_some_iff.1 SX5.out).1
      clear hb5 RX4 SX4 HB4 s0 s1 s2 f0 f1 f2 hw4
      cases hd : Gp.dec b.data.toList x2 with
      | none =>
        rw [hd] at HT
        obtain ⟨rfl, rfl, rfl⟩ := HT
        obtain ⟨r0, r1, r2, r3, r4, r5⟩ := three_cells RX5.out
        have HN : Hid _ := Mf.told_no (Mf.dec_unread (Mf.read_ends HG1.out HG2.out hd))
        clear hd
        go_wp2
        refine bodyPost_ret (v := .tuple #[.agg #[.int .i64 0, .int .i64 0, .slice none 0 0], .int .i64 10]) ?_ rfl (HNO.out HN.out _ HB5.out)
        rw [results_cell_tmp rfl]
        go_simp
      | some lx =>
        obtain ⟨l, x'⟩ := lx
        rw [hd] at HT
        obtain ⟨⟨mm, hown⟩, rfl, rfl⟩ := HT
        obtain ⟨-, -, -, -, -, -, -, g8⟩ := Gp.enc_dec _ _ _ _ hd
        have hll : l.length ≤ 1000000 := by omega
        have HRD : Hid (Mf.dec b.data.toList = if Mf.chk ((n1, n2), Mf.fro 0 l) = 0 ∧ Mf.enc ((n1, n2), Mf.fro 0 l) = b.data.toList then some ((n1, n2), Mf.fro 0 l) else none) := Mf.dec_read (Mf.read_all HG1.out HG2.out hd)
        have hi := Ints.of_own hown
        have hlt := hown.lt
        obtain ⟨va, vc, rfl, hh⟩ := hi
        have HC : Hid (∀ k, k < l.length → ∃ g off, va = some ⟨g, off, none⟩ ∧ g ≠ wa.heap.size ∧ w5.cell? ⟨g, off + k, none⟩ = some (.int .i64 (l.getD k 0))) := fun k hk => by
          rcases hh with h0 | ⟨g, off, rfl, hgl, hc⟩
          · rw [h0] at hk; simp at hk
          · refine ⟨g, off, rfl, ?_, hc k hk⟩
            have := (hlt g rfl).1
            have := HS4.out
            omega
        clear hd hh hlt hown g8
        by_cases h16 : 16 < l.length
        · have HN : Hid _ := Mf.told_no (s := b.data.toList) (by
            rw [HRD.out, if_neg]
            rintro ⟨h1, _⟩
            have h2 := (Mf.chk_iff.1 h1).2.2.1
            dsimp only at h2
            rw [Mf.fro_len] at h2
            omega)
          obtain ⟨r0, r1, r2, r3, r4, r5⟩ := three_cells RX5.out
          clear HC HRD
          go_wp2
          refine bodyPost_ret (v := .tuple #[.agg #[.int .i64 0, .int .i64 0, .slice none 0 0], .int .i64 10]) ?_ rfl (HNO.out HN.out _ HB5.out)
          rw [results_cell_tmp rfl]
          go_simp
        · have HLN : Hid (∀ k, k < l.length → Mf.lst 0 (l.take (k + 1)) = l.getD k 0 ∧ Mf.fro 0 (l.take (k + 1)) = Mf.fro 0 (l.take k) ++ [(Mf.lst 0 (l.take k), l.getD k 0)]) := fun k hk => Mf.lst_take hk
          have HFL : Hid ((Mf.fro 0 l).length = l.length) := Mf.fro_len 0 l
          go_wp2_with fail
          go_loopw [11, 12] (fun fr i wr => ∃ k : Nat, k ≤ l.length ∧ i = .int .i64 k ∧ fr = .int .i64 (Mf.lst 0 (l.take k)) ∧ Hid (∃ vo, GBlk wr wa.heap.size n1 n2 vo ∧ wr.ownsRow w5.heap.size 49 2 vo k (pcells (Mf.fro 0 (l.take k)))) ∧ Hid (Oth wa.heap.size w5 wr)) (fun _ i _ => l.length - (intOf i).toNat)
          case atStart => exact ⟨0, Nat.zero_le _, rfl, rfl, ⟨_, SX5.out, World.ownsRow_nil _ _ _ _⟩, ⟨rfl, rfl, rfl, Nat.le_refl _, fun _ _ _ => rfl⟩⟩
          case round =>
            obtain ⟨k, hk, rfl, rfl, HST, HOT⟩ := hrel
            obtain ⟨wo, rfl⟩ : ∃ wo, wo = wr := ⟨wr, rfl⟩
            obtain ⟨vo, hso, hoo⟩ := HST.out
            have HSO : Hid (GBlk wo wa.heap.size n1 n2 vo) := hso
            have HOO : Hid (wo.ownsRow w5.heap.size 49 2 vo k (pcells (Mf.fro 0 (l.take k)))) := hoo
            clear HST hso hoo
            by_cases hlt : k < l.length
            · obtain ⟨g, off, rfl, hgs, hcl⟩ := HC.out k hlt
              have hc1 := oth_cell hcl HOT.out hgs
              obtain ⟨hl1, hl2⟩ := HLN.out k hlt
              have HL1 : Hid _ := hl1
              have HL2 : Hid _ := hl2
              obtain ⟨s0, s1, s2, f0, f1, f2⟩ := three_cells HSO.out
              clear hl1 hl2
              generalize l.getD k 0 = z at *
              generalize Mf.lst 0 (l.take k) = y at *
              generalize Mf.fro 0 (l.take k) = F at *
              have hc1d : wo.drew.cell? ⟨g, off + k, none⟩ = some (.int .i64 z) := hc1
              have s2d : wo.drew.cell? ⟨wa.heap.size, 2, none⟩ = some vo := s2
              have hbx : Below wo.heap.size wo (wo.drew.alloc (.cells #[.int .i64 y, .int .i64 z] 49)) := ((Below.refl _ wo).drew).alloc (Nat.le_refl _) _
              have s2a := cell_after hbx s2
              have hc1a := cell_after hbx hc1
              have s2b := cell_after (alloc_below wo (.cells #[.int .i64 y, .int .i64 z] 49)) s2
              have hc1b := cell_after (alloc_below wo (.cells #[.int .i64 y, .int .i64 z] 49)) hc1
              have HO1 : Hid ((wo.drew.alloc (.cells #[.int .i64 y, .int .i64 z] 49)).ownsRow w5.heap.size 49 2 vo k (pcells F)) := HOO.out.drew.alloc _
              have HBX : Hid _ := hbx
              have hsz : w5.heap.size ≤ wo.heap.size := HOT.out.size
              clear hbx
              go_wp2_with fail
              go_region_law
                (first
                | (refine step_append_own (w := wo.drew.alloc (.cells #[.int .i64 y, .int .i64 z] 49)) (by rfl) _ _ 22 (by rfl) w5.heap.size 49 i0 (.agg #[.int .i64 0, .int .i64 0]) 2 16 Try.underlying22 hi0 hz0 hz1 hz2 rfl (by omega) vo k (pcells F) (by simp [Act.eval]) HO1.out (some ⟨wo.drew.heap.size, 0, none⟩) _ rfl 1 1 [.int .i64 y, .int .i64 z] (by simp [Act.eval]) rfl (cell_two_new _ _ _ _) (by simp [Value.oneCell']) (by unfold maxLen; omega) (by omega) (by simp; omega) ?_; intro v7 w7 hown7 hgrow7; obtain ⟨g7, c7, rfl, _, _⟩ := hown7.form (by omega); have HS7 : Hid (GBlk w7 wa.heap.size n1 n2 vo) := (hgrow7.block _ (by have := HS5.out; simp; omega) (fun e => by have := (HO1.out.lt _ e.symm).1; have := HS5.out; omega)).trans (blk_later HSO.out HBX.out); obtain ⟨t0, t1, t2, u0, u1, u2⟩ := three_cells HS7.out)
                | fail)
              all_goals
                have HO7 : Hid (w7.ownsRow w5.heap.size 49 2 (.slice (some ⟨g7, 0, none⟩) (k + 1) c7) (k + 1) (pcells (Mf.fro 0 (l.take (k + 1))))) := by rw [Hid, HL2.out, ← pcells_snoc]; exact hown7
                have HOT8 : Hid (Oth wa.heap.size w5 (w7.setCell ⟨wa.heap.size, 2, none⟩ (.slice (some ⟨g7, 0, none⟩) (k + 1) c7))) := grown_trans (oth_append HOT.out HBX.out hgrow7 (fun q e => (HO1.out.lt q e).1)) (oth_set _ _ _ _)
                have HE8 : Hid (∃ vo, GBlk (w7.setCell ⟨wa.heap.size, 2, none⟩ (.slice (some ⟨g7, 0, none⟩) (k + 1) c7)) wa.heap.size n1 n2 vo ∧ (w7.setCell ⟨wa.heap.size, 2, none⟩ (.slice (some ⟨g7, 0, none⟩) (k + 1) c7)).ownsRow w5.heap.size 49 2 vo (k + 1) (pcells (Mf.fro 0 (l.take (k + 1))))) := ⟨_, blk_set HS7.out, own_set HO7.out HS5.out⟩
                have hc8 := oth_cell hcl HOT8.out hgs
                clear hown7 hgrow7 HO1 HBX hc1 hc1d hc1a hc1b s2 s2d s2a s2b s0 s1 f0 f1 f2 t0 t1 t2 u0 u1 u2 HS7 HO7 HSO HOO HOT
                go_wp2
                go_roundw
                case rel => exact ⟨k + 1, by omega, by go_num, by rw [HL1.out], HE8, HOT8⟩
                case measure => simp [intOf]; omega
            · obtain rfl : k = l.length := by omega
              rw [List.take_length] at HOO
              have HBO : Hid (Below w.heap.size w wo) := HB5.out.trans (oth_below HOT.out (Nat.le_of_lt HRA.out) HB5.out.size)
              have HRX : Hid (GBlk wo w.heap.size 0 0 (.slice none 0 0)) := oth_blk RX5.out HOT.out (Nat.ne_of_lt HRA.out)
              have HLT : Hid (w.heap.size < w5.heap.size) := Nat.lt_trans HRA.out HS5.out
              have HP : Hid (PrtF w5.heap.size wo vo (Mf.fro 0 l)) := ⟨_, HOO.out⟩
              obtain ⟨pa, pn, pc, rfl⟩ := prtF_slice HP.out
              obtain ⟨s0, s1, s2, _, _, _⟩ := three_cells HSO.out
              have HEN := mrenc_any ((n1, n2), Mf.fro 0 l) (.slice pa pn pc) wo HP.out.prt (by dsimp only; rw [HFL.out]; omega)
              unfold gcells at HEN
              dsimp only at HEN
              have HUP : Hid (Mf.dec b.data.toList = none ∨ (Mf.chk ((n1, n2), Mf.fro 0 l) = 0 ∧ Mf.enc ((n1, n2), Mf.fro 0 l) = b.data.toList ∧ Mf.dec b.data.toList = some ((n1, n2), Mf.fro 0 l))) := by
                by_cases c : Mf.chk ((n1, n2), Mf.fro 0 l) = 0 ∧ Mf.enc ((n1, n2), Mf.fro 0 l) = b.data.toList
                · exact .inr ⟨c.1, c.2, by rw [HRD.out, if_pos c]⟩
                · exact .inl (by rw [HRD.out, if_neg c])
              clear HC HLN HOO HOT hk hlt
              by_cases hcc : Mf.chk ((n1, n2), Mf.fro 0 l) = 0
              · rw [Mf.encS_yes hcc, hcc] at HEN
                by_cases he : Mf.enc ((n1, n2), Mf.fro 0 l) = b.data.toList
                · have hd : Mf.dec b.data.toList = some ((n1, n2), Mf.fro 0 l) := by rw [HRD.out, if_pos ⟨hcc, he⟩]
                  have HD : Hid _ := Mf.told_yes hd
                  rw [he, show (⟨b.data.toList.toArray⟩ : ByteArray) = b by simp] at HEN
                  replace HEN : Hid _ := HEN
                  clear hcc he hd HRD HUP
                  go_wp2_with fail
                  refine Calls.mono HEN.out ?_
                  rintro e w6 ⟨rfl, hb6⟩
                  obtain ⟨r0, r1, r2, r3, r4, r5⟩ := three_cells (blk_later HRX.out hb6)
                  obtain ⟨q0, q1, q2, _, _, _⟩ := three_cells (blk_later HSO.out hb6)
                  have HB6 : Hid (Below w.heap.size w w6) := bnext HBO.out hb6
                  have HP6 : Hid (PrtF w5.heap.size w6 (.slice pa pn pc) (Mf.fro 0 l)) := HP.out.later hb6
                  clear hb6 HEN s0 s1 s2
                  go_wp2
                  refine bodyPost_ret (v := .tuple #[.agg #[.int .i64 n1, .int .i64 n2, .slice pa pn pc], .int .i64 0]) ?rw rfl ⟨.slice pa pn pc, by rw [HD.out.1, HD.out.2], by rw [HD.out.2]; exact (HP6.out.stored HLT.out).prt, below_stored HB6.out⟩
                  case rw =>
                    rw [results_cell_tmp rfl]
                    go_simp
                · have HN : Hid _ := Mf.told_no (s := b.data.toList) (by rw [HRD.out, if_neg (fun c => he c.2)])
                  have hne : ((ByteArray.toList ⟨(Mf.enc ((n1, n2), Mf.fro 0 l)).toArray⟩) == b.toList) = false := by
                    rw [ByteArray.toList_eq, ByteArray.toList_eq]
                    simpa using he
                  clear hcc he HRD HUP
                  generalize (⟨(Mf.enc ((n1, n2), Mf.fro 0 l)).toArray⟩ : ByteArray) = f at *
                  replace HEN : Hid _ := HEN
                  go_wp2_with fail
                  refine Calls.mono HEN.out ?_
                  rintro e w6 ⟨rfl, hb6⟩
                  obtain ⟨r0, r1, r2, r3, r4, r5⟩ := three_cells (blk_later HRX.out hb6)
                  have HB6 : Hid (Below w.heap.size w w6) := bnext HBO.out hb6
                  clear hb6 HEN s0 s1 s2
                  go_wp2
                  refine bodyPost_ret (v := .tuple #[.agg #[.int .i64 0, .int .i64 0, .slice none 0 0], .int .i64 10]) ?_ rfl (HNO.out HN.out _ HB6.out)
                  rw [results_cell_tmp rfl]
                  go_simp
              · have HN : Hid _ := Mf.told_no (s := b.data.toList) (by rw [HRD.out, if_neg (fun c => hcc c.1)])
                have hc2 : Mf.chk ((n1, n2), Mf.fro 0 l) = 2 := (Mf.chk_cases _).resolve_left hcc
                rw [hc2] at HEN
                clear hcc hc2 HRD HUP
                generalize (⟨(Mf.encS ((n1, n2), Mf.fro 0 l)).toArray⟩ : ByteArray) = f at *
                replace HEN : Hid _ := HEN
                go_wp2_with fail
                refine Calls.mono HEN.out ?_
                rintro e w6 ⟨rfl, hb6⟩
                obtain ⟨r0, r1, r2, r3, r4, r5⟩ := three_cells (blk_later HRX.out hb6)
                have HB6 : Hid (Below w.heap.size w w6) := bnext HBO.out hb6
                clear hb6 HEN s0 s1 s2
                go_wp2
                refine bodyPost_ret (v := .tuple #[.agg #[.int .i64 0, .int .i64 0, .slice none 0 0], .int .i64 10]) ?_ rfl (HNO.out HN.out _ HB6.out)
                rw [results_cell_tmp rfl]
                go_simp

end Go.Proofs.Ytmekaofjcjmklaa
