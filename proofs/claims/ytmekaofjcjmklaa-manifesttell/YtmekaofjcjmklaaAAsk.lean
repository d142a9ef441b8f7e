/- The walks of parts.Of and parts.Check. -/
import Derived.Test.YtmekaofjcjmklaaAWalk
namespace Go.Proofs.Ytmekaofjcjmklaa
open Go.RowKit


theorem chk_no {n : Int} {l : List (Int × Int)} (h : ¬ (Pt.many n = true ∧ l.length ≤ 16 ∧ Pt.run 0 l = some n)) : Pt.chk n l = 2 := by unfold Pt.chk; rw [if_neg h]
theorem chk_yes {n : Int} {l : List (Int × Int)} (h : Pt.many n = true ∧ l.length ≤ 16 ∧ Pt.run 0 l = some n) : Pt.chk n l = 0 := by unfold Pt.chk; rw [if_pos h]

set_option maxHeartbeats 400000 in
set_option maxRecDepth 100000 in
theorem chk_any (n : Int) (v : Value) (l : List (Int × Int)) (w : World) (h : Prt w v l) (hl : l.length ≤ 1000000000000) :
    Calls Try.prog 26 #[.int .i64 n, v] w fun e w' => e = .returned (.int .i64 (Pt.chk n l)) ∧ Below w.heap.size w w' := by
  have M := many_any n w
  obtain ⟨a, cap, rfl, _, h⟩ := h
  have HE : Hid _ := h
  clear h
  cases hm : Pt.many n with
  | false =>
    rw [hm] at M
    have HC : Hid (Pt.chk n l = 2) := chk_no (by rw [hm]; simp)
    rw [HC.out]
    have HM : Hid _ := M
    clear M hm
    go_enter Try.func26, Try.ntmps26
    go_wp2_with fail
    refine Calls.mono HM.out ?_
    rintro e w' ⟨rfl, rfl⟩
    go_wp2
    go_ret
    exact ⟨rfl, Below.refl _ _⟩
  | true =>
    rw [hm] at M
    have HM : Hid _ := M
    clear M
    by_cases h16 : 16 < l.length
    · have HC : Hid (Pt.chk n l = 2) := chk_no (by omega)
      rw [HC.out]
      clear hm
      go_enter Try.func26, Try.ntmps26
      go_wp2_with fail
      refine Calls.mono HM.out ?_
      rintro e w' ⟨rfl, rfl⟩
      go_wp2
      go_ret
      exact ⟨rfl, Below.refl _ _⟩
    · have HCN : Hid (Pt.run 0 l ≠ some n → Pt.chk n l = 2) := fun h => chk_no fun hh => h hh.2.2
      have HCY : Hid (Pt.run 0 l = some n → Pt.chk n l = 0) := fun h => chk_yes ⟨hm, by omega, h⟩
      generalize Pt.chk n l = r at *
      clear hm
      go_enter Try.func26, Try.ntmps26
      go_wp2_with fail
      refine Calls.mono HM.out ?_
      rintro e w' ⟨rfl, rfl⟩
      clear HM
      go_wp2
      go_loopw [5, 18] (fun u i wr => ∃ (k : Nat) (e : Int), k ≤ l.length ∧ i = .int .i64 k ∧ u = .int .i64 e ∧ Hid (Pt.run 0 (l.take k) = some e) ∧ Hid (Below w'.heap.size w' wr)) (fun _ i _ => l.length - (intOf i).toNat)
      case atStart => exact ⟨0, 0, Nat.zero_le _, rfl, rfl, rfl, Below.refl _ _⟩
      case round =>
        obtain ⟨k, e, hk, rfl, rfl, HT, HB⟩ := hrel
        by_cases hlt : k < l.length
        · obtain ⟨b, off, rfl, hc⟩ := HE.out.resolve_left (by rintro rfl; simp at hlt)
          have c1 := cell_after HB.out (hc k hlt).1
          have c2 := cell_after HB.out (hc k hlt).2
          clear hc
          have HX : Hid (Pt.run 0 (l.take (k + 1)) = if (l.getD k p0).1 = e ∧ (l.getD k p0).1 < (l.getD k p0).2 then some (l.getD k p0).2 else none) := Pt.run_take hlt HT.out
          generalize l.getD k p0 = p at *
          by_cases h1 : p.1 = e
          · by_cases h2 : p.2 ≤ p.1
            · have HR : Hid (r = 2) := HCN.out (by rw [Pt.run_cut (k + 1) (by rw [HX.out, if_neg (by omega)])]; simp)
              clear HX
              go_wp2
              go_ret
              exact ⟨ret_int HR.out.symm, HB.out.alloc HB.out.size _⟩
            · have HR : Hid (Pt.run 0 (l.take (k + 1)) = some p.2) := by rw [Hid, HX.out, if_pos (by omega)]
              clear HX
              go_wp2
              go_roundw
              case rel => exact ⟨k + 1, p.2, by omega, by go_num, rfl, HR, HB.out.alloc HB.out.size _⟩
              case measure => simp [intOf]; omega
          · have HR : Hid (r = 2) := HCN.out (by rw [Pt.run_cut (k + 1) (by rw [HX.out, if_neg (by omega)])]; simp)
            clear HX
            go_wp2
            go_ret
            exact ⟨ret_int HR.out.symm, HB.out.alloc HB.out.size _⟩
        · obtain rfl : k = l.length := by omega
          have HT2 := HT.out
          rw [List.take_length] at HT2
          by_cases he : e = n
          · have HR : Hid (r = 0) := HCY.out (by rw [HT2, he])
            clear HT2
            go_wp2
            go_ret
            exact ⟨ret_int HR.out.symm, HB.out⟩
          · have HR : Hid (r = 2) := HCN.out (by rw [HT2]; simpa using he)
            clear HT2
            go_wp2
            go_ret
            exact ⟨ret_int HR.out.symm, HB.out⟩

end Go.Proofs.Ytmekaofjcjmklaa
