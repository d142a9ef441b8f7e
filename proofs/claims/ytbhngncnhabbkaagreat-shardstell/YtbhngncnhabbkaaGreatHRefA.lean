/- The walk of the document's own Check of shards. -/
import Derived.Test.YtbhngncnhabbkaaGreatHRefM
namespace Go.Proofs.YtbhngncnhabbkaaGreat
open Go.RowKit

set_option maxHeartbeats 1000000 in
set_option maxRecDepth 100000 in
theorem srchk_any (s : Sh.Shard) (v : Value) (w : World) (h : Lists w v s.2) (hf : FitS s.2) :
    Calls Tryz.prog 13 #[.agg (scells s v)] w fun e w' => e = .returned (.int .i64 (Sh.chk s)) ∧ Below w.heap.size w w' := by
  obtain ⟨p, o⟩ := s
  unfold scells
  dsimp only at h hf ⊢
  obtain ⟨a, cap, rfl, hcap, _⟩ := id h
  obtain ⟨wa, hwa⟩ : ∃ wa, w.alloc (.cells #[.int .i64 p.1, .int .i64 p.2, .slice a o.length cap] 26) = wa := ⟨_, rfl⟩
  have c0 : wa.cell? ⟨w.heap.size, 0, none⟩ = some (.int .i64 p.1) := by rw [← hwa]; simp
  have c1 : wa.cell? ⟨w.heap.size, 1, none⟩ = some (.int .i64 p.2) := by rw [← hwa]; simp
  have c2 : wa.cell? ⟨w.heap.size, 2, none⟩ = some (.slice a o.length cap) := by rw [← hwa]; simp
  have hba : Hid (Below w.heap.size w wa) := by rw [← hwa]; exact (Below.refl _ w).alloc (Nat.le_refl _) _
  have HL : Hid (Lists wa (.slice a o.length cap) o) := h.later hba.out
  have HF : Hid (FitS o) := hf
  have hol := hf.1
  have HM := rmayP_any p wa
  clear h hf
  have HCN : Hid (¬ Sh.may (p, o) = true → Sh.chk (p, o) = 2) := fun h => Sh.chk_no h
  have HCY : Hid (Sh.may (p, o) = true → Sh.chk (p, o) = 0) := fun h => Sh.chk_yes h
  generalize Sh.chk (p, o) = r at *
  cases hm : Sh.mayP p with
  | false =>
    rw [hm] at HM
    have HR : Hid (r = 2) := HCN.out fun hh => by have := (Sh.may_iff.1 hh).1; rw [hm] at this; cases this
    replace HM : Hid _ := HM
    clear hm
    go_enter Tryz.func13, Tryz.ntmps13
    go_wp2_with fail
    refine Calls.mono HM.out ?_
    rintro e w1 ⟨rfl, hb1⟩
    replace hb1 : Hid (Below wa.heap.size wa w1) := hb1
    clear HM
    go_wp2
    go_ret
    exact ⟨ret_int HR.out.symm, hba.out.trans (hb1.out.mono hba.out.size)⟩
  | true =>
    rw [hm] at HM
    have hmp := Sh.mayP_iff.1 hm
    replace HM : Hid _ := HM
    by_cases hlen : (o.length : Int) = p.2 - p.1
    · have HLEN : Hid ((o.length : Int) = p.2 - p.1) := hlen
      have hlb : ((o.length : Int) != p.2 - p.1) = false := by simpa using hlen
      have HMP : Hid (Sh.mayP p = true) := hm
      clear hm hlen
      go_enter Tryz.func13, Tryz.ntmps13
      go_wp2_with fail
      refine Calls.mono HM.out ?_
      rintro e w1 ⟨rfl, hb1⟩
      replace c0 := cell_after hb1 c0
      replace c1 := cell_after hb1 c1
      replace c2 := cell_after hb1 c2
      replace HL := Lists.hid HL hb1
      replace hb1 : Hid (Below w.heap.size w w1) := hba.out.trans (hb1.mono hba.out.size)
      clear HM hba hwa
      go_wp2_with fail
      have HMB : Hid (Sh.many o ≤ 1000000000000) := many_fit HF.out
      go_loopw [3, 4] (fun m i wr => ∃ k : Nat, k ≤ o.length ∧ i = .int .i64 k ∧ m = .int .i64 (Sh.many (o.take k)) ∧ Hid (Sh.okF p.1 (o.take k) = true) ∧ Hid (Below w1.heap.size w1 wr)) (fun _ i _ => o.length - (intOf i).toNat)
      case atStart => exact ⟨0, Nat.zero_le _, rfl, rfl, rfl, Below.refl _ _⟩
      case round =>
        obtain ⟨k, hk, rfl, rfl, HK, HB⟩ := hrel
        have e2 := cell_after HB.out c2
        by_cases hlt : k < o.length
        · obtain ⟨b, off, rfl, x, hx, hi⟩ := HL.out.at_ hlt
          obtain ⟨ax, cx, rfl, _⟩ := id hi
          replace hx := cell_after HB.out hx
          replace hi : Hid (Ints wr _ (o.getD k [])) := hi.later HB.out
          have hfl := HF.out.2 _ (getD_mem_o hlt)
          have HM1 : Hid (Sh.many (o.take (k + 1)) = Sh.many (o.take k) + (o.getD k []).length) := many_step hlt
          have HM2 : Hid (Sh.many (o.take (k + 1)) ≤ Sh.many o) := many_mono _
          have HO1 : Hid (Sh.okL (p.1 + k) (o.getD k []) = true → Sh.okF p.1 (o.take (k + 1)) = true) := fun h => by rw [Sh.okF_take _ _ _ hlt, HK.out, h]; rfl
          have HO2 : Hid (¬ Sh.okL (p.1 + k) (o.getD k []) = true → r = 2) := fun h => HCN.out fun hh => by
            have h1 := (Sh.may_iff.1 hh).2.2.1
            rw [Bool.not_eq_true] at h
            rw [Sh.okF_stop (k := k + 1) (by rw [Sh.okF_take _ _ _ hlt]; show (_ && Sh.okL (p.1 + k) (o.getD k [])) = false; rw [h, Bool.and_false])] at h1
            cases h1
          generalize o.getD k [] = l at *
          have hl6 := hfl.1
          have hmk : Sh.many (o.take k) + l.length ≤ 1000000000000 := by have := HM1.out; have := HM2.out; have := HMB.out; omega
          generalize Sh.many (o.take k) = m at *
          have hk256 : k < 256 := by have := HLEN.out; omega
          have HCK : Hid _ := rcheck_any _ l wr hi.out hfl.2 (by omega)
          cases hup : Gp.up (-1) l with
          | false =>
            have HE : Hid (Gp.err l = 2) := by unfold Gp.err; rw [Hid, if_neg (by rw [hup]; simp)]
            have HR : Hid (r = 2) := HO2.out fun h => by have := (Sh.okL_iff.1 h).1; rw [hup] at this; cases this
            rw [HE.out] at HCK
            go_wp2_with fail
            refine Calls.mono HCK.out ?_
            rintro e w2 ⟨rfl, hb2⟩
            replace hb2 : Hid (Below w.heap.size w w2) := hb1.out.trans ((bnext HB.out hb2).mono hb1.out.size)
            go_wp2
            go_ret
            exact ⟨ret_int HR.out.symm, hb2.out⟩
          | true =>
            have HE : Hid (Gp.err l = 0) := by unfold Gp.err; rw [Hid, if_pos hup]
            rw [HE.out] at HCK
            have HUP : Hid (Gp.up (-1) l = true) := hup
            clear hup
            go_wp2_with fail
            refine Calls.mono HCK.out ?_
            rintro e w2 ⟨rfl, hb2⟩
            have f2 := cell_after hb2 e2
            have fx := cell_after hb2 hx
            have f0 := cell_after (bnext HB.out hb2) c0
            have hi2 : Hid (Ints w2 _ l) := hi.out.later hb2
            replace hb2 : Hid (Below w1.heap.size w1 w2) := bnext HB.out hb2
            clear HCK HE e2 hx hi HB
            go_wp2_with fail
            go_loopw [3, 5] (fun m' j wr => ∃ q : Nat, q ≤ l.length ∧ j = .int .i64 q ∧ m' = .int .i64 ((m + q : Nat) : Int) ∧ Hid (∀ j, j < q → l.getD j 0 < 256 ∧ l.getD j 0 ≠ p.1 + k) ∧ Hid (Below w2.heap.size w2 wr)) (fun _ j _ => l.length - (intOf j).toNat)
            case atStart => exact ⟨0, Nat.zero_le _, rfl, by simp, fun j hj => by omega, Below.refl _ _⟩
            case round =>
              obtain ⟨q, hq, rfl, rfl, HJ, HB2⟩ := hrel
              by_cases hlt2 : q < l.length
              · obtain ⟨bl, ol, rfl, hcl⟩ := hi2.out.at_.resolve_left (by rintro rfl; simp at hlt2)
                have p2 := cell_after HB2.out f2
                have px := cell_after HB2.out fx
                have g2 := Later.cell p2
                have gx := Later.cell px
                have g0 := Later.cell (cell_after HB2.out f0)
                have gl := Later.cell (cell_after HB2.out (hcl q hlt2))
                have hsome := Later.some wr
                have HJ2 : Hid (l.getD q 0 < 256 → l.getD q 0 ≠ p.1 + k → ∀ j, j < q + 1 → l.getD j 0 < 256 ∧ l.getD j 0 ≠ p.1 + k) := fun h1 h2 j hj => by
                  by_cases e : j = q
                  · rw [e]; exact ⟨h1, h2⟩
                  · exact HJ.out j (by omega)
                have HBAD : Hid (¬ (l.getD q 0 < 256 ∧ l.getD q 0 ≠ p.1 + k) → r = 2) := fun h => HO2.out fun hh => h ((Sh.okL_iff.1 hh).2 q hlt2)
                clear hcl
                generalize l.getD q 0 = z at *
                by_cases hz1 : z < 256
                · have hd1 : decide ((256 : Int) ≤ z) = false := by simp; omega
                  by_cases hz2 : z = p.1 + k
                  · have HR : Hid (r = 2) := HBAD.out fun h => h.2 hz2
                    have hd2 : (z == p.1 + (k : Int)) = true := by simpa using hz2
                    clear hz1 hz2
                    go_wp2_with fail
                    refine wp_region_later (by kernel_rfl) (by kernel_rfl) ?_
                    repeat (go_big_quiet_step (fail))
                    refine wpQuiet_nil ?_
                    intro w3 hw3
                    obtain ⟨⟨w4, hb4⟩, rfl⟩ := hw3
                    have HB4 : Hid (Below w.heap.size w w3) := hb1.out.trans ((bnext hb2.out (bnext HB2.out hb4)).mono hb1.out.size)
                    go_wp2
                    go_ret
                    exact ⟨ret_int HR.out.symm, HB4.out⟩
                  · have hd2 : (z == p.1 + (k : Int)) = false := by simpa using hz2
                    have HJ3 : Hid _ := HJ2.out hz1 hz2
                    clear hz1 hz2
                    go_wp2_with fail
                    refine wp_region_later (by kernel_rfl) (by kernel_rfl) ?_
                    repeat (go_big_quiet_step (fail))
                    refine wpQuiet_nil ?_
                    intro w3 hw3
                    obtain ⟨⟨w4, hb4⟩, rfl⟩ := hw3
                    have HB4 : Hid (Below w2.heap.size w2 w3) := bnext HB2.out hb4
                    go_wp2
                    go_roundw
                    case rel => exact ⟨q + 1, by omega, by go_num, by go_num, HJ3, HB4⟩
                    case measure => simp [intOf]; omega
                · have HR : Hid (r = 2) := HBAD.out fun h => hz1 h.1
                  have hd1 : decide ((256 : Int) ≤ z) = true := by simp; omega
                  clear hz1
                  go_wp2_with fail
                  refine wp_region_later (by kernel_rfl) (by kernel_rfl) ?_
                  repeat (go_big_quiet_step (fail))
                  refine wpQuiet_nil ?_
                  intro w3 hw3
                  obtain ⟨⟨w4, hb4⟩, rfl⟩ := hw3
                  have HB4 : Hid (Below w.heap.size w w3) := hb1.out.trans ((bnext hb2.out (bnext HB2.out hb4)).mono hb1.out.size)
                  go_wp2
                  go_ret
                  exact ⟨ret_int HR.out.symm, HB4.out⟩
              · obtain rfl : q = l.length := by omega
                have HK2 : Hid (Sh.okF p.1 (o.take (k + 1)) = true) := HO1.out (Sh.okL_iff.2 ⟨HUP.out, HJ.out⟩)
                have e2 := cell_after HB2.out f2
                have ex := cell_after HB2.out fx
                go_wp2
                go_roundw
                case rel => exact ⟨k + 1, by omega, by go_num, by rw [HM1.out], HK2, bnext hb2.out HB2.out⟩
                case measure => simp [intOf]; omega
        · obtain rfl : k = o.length := by omega
          rw [List.take_length] at HK ⊢
          have HY : Hid (Sh.many o ≤ 4096 → r = 0) := fun h => HCY.out (Sh.may_iff.2 ⟨HMP.out, HLEN.out, HK.out, h⟩)
          have HN : Hid (¬ Sh.many o ≤ 4096 → r = 2) := fun h => HCN.out fun hh => h (Sh.may_iff.1 hh).2.2.2
          have hmb := HMB.out
          generalize Sh.many o = m at *
          have HBW : Hid (Below w.heap.size w wr) := hb1.out.trans (HB.out.mono hb1.out.size)
          by_cases h4 : m ≤ 4096
          · have HR : Hid (r = 0) := HY.out h4
            go_wp2
            go_ret
            exact ⟨ret_int HR.out.symm, HBW.out⟩
          · have HR : Hid (r = 2) := HN.out h4
            go_wp2
            go_ret
            exact ⟨ret_int HR.out.symm, HBW.out⟩
    · have HR : Hid (r = 2) := HCN.out fun hh => hlen (Sh.may_iff.1 hh).2.1
      have hlb : ((o.length : Int) != p.2 - p.1) = true := by simpa using hlen
      clear hm hlen
      go_enter Tryz.func13, Tryz.ntmps13
      go_wp2_with fail
      refine Calls.mono HM.out ?_
      rintro e w1 ⟨rfl, hb1⟩
      replace c0 := cell_after hb1 c0
      replace c1 := cell_after hb1 c1
      replace c2 := cell_after hb1 c2
      replace hb1 : Hid (Below wa.heap.size wa w1) := hb1
      clear HM
      go_wp2
      go_ret
      exact ⟨ret_int HR.out.symm, hba.out.trans (hb1.out.mono hba.out.size)⟩

end Go.Proofs.YtbhngncnhabbkaaGreat
