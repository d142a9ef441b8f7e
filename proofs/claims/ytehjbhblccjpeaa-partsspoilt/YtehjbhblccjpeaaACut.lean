/- The walk of parts.Cut. -/
import Derived.Test.YtehjbhblccjpeaaAWalk
namespace Go.Proofs.Ytehjbhblccjpeaa
open Go.RowKit

theorem cut_no {n s : Int} (h : Pt.can n s = false) : Pt.cut n s = ([], 2) := by unfold Pt.cut; rw [if_neg (by rw [h]; simp)]
theorem cut_yes {n s : Nat} (h : Pt.can n s = true) : Pt.cut n s = (Pt.cuts n s, 0) := by unfold Pt.cut; rw [if_pos h]; rfl

set_option maxHeartbeats 400000 in
set_option maxRecDepth 100000 in
theorem cut_any (n s : Int) (w : World) :
    Calls Try.prog 8 #[.int .i64 n, .int .i64 s] w fun e w' => ∃ u, e = .returned (.tuple #[u, .int .i64 (Pt.cut n s).2]) ∧ w'.ownsRow w.heap.size 33 2 u (Pt.cut n s).1.length (pcells (Pt.cut n s).1) ∧ Below w.heap.size w w' := by
  have M := many_any n w
  cases hm : Pt.many n with
  | false =>
    rw [hm] at M
    rw [cut_no (by unfold Pt.can; rw [hm]; rfl)]
    have HM : Hid _ := M
    clear M hm
    go_enter Try.func8, Try.ntmps8
    go_wp2_with fail
    refine Calls.mono HM.out ?_
    rintro e w' ⟨rfl, rfl⟩
    go_wp2
    go_ret2
    exact ⟨_, rfl, World.ownsRow_nil _ _ _ _, Below.refl _ _⟩
  | true =>
    rw [hm] at M
    have HM : Hid _ := M
    have hb : 1 ≤ n ∧ n ≤ 256 := by simpa [Pt.many] using hm
    clear M
    by_cases h1 : 1 ≤ s
    · obtain ⟨m, hm1, hm2⟩ : ∃ m : Int, (if (16 : Int) < n then (16 : Int) else n) = m ∧ (m < s ↔ ¬ (s ≤ n ∧ s ≤ 16)) := ⟨_, rfl, by split <;> omega⟩
      by_cases h2 : m < s
      · rw [cut_no (by have := hm2.1 h2; unfold Pt.can; simp; omega)]
        clear hm2
        go_enter Try.func8, Try.ntmps8
        go_wp2_with fail
        refine Calls.mono HM.out ?_
        rintro e w' ⟨rfl, rfl⟩
        go_wp2
        go_ret2
        exact ⟨_, rfl, World.ownsRow_nil _ _ _ _, Below.refl _ _⟩
      · have h3 : s ≤ n ∧ s ≤ 16 := by
          by_cases c : s ≤ n ∧ s ≤ 16
          · exact c
          · exact absurd (hm2.2 c) h2
        clear hm2
        obtain ⟨n', rfl⟩ : ∃ k : Nat, n = k := ⟨n.toNat, by omega⟩
        obtain ⟨s', rfl⟩ : ∃ k : Nat, s = k := ⟨s.toNat, by omega⟩
        rw [cut_yes (by unfold Pt.can; rw [hm]; simp; omega)]
        go_enter Try.func8, Try.ntmps8
        go_wp2_with fail
        refine Calls.mono HM.out ?_
        rintro e w' ⟨rfl, rfl⟩
        go_wp2_with fail
        refine (list_any n' s' _ (by omega) (by omega) (by omega)).mono ?_
        rintro e w1 ⟨u, rfl, hu, hb1⟩
        go_wp2
        go_ret2
        exact ⟨_, rfl, by rw [Pt.cuts_len]; exact hu, hb1⟩
    · rw [cut_no (by unfold Pt.can; simp; omega)]
      go_enter Try.func8, Try.ntmps8
      go_wp2_with fail
      refine Calls.mono HM.out ?_
      rintro e w' ⟨rfl, rfl⟩
      go_wp2
      go_ret2
      exact ⟨_, rfl, World.ownsRow_nil _ _ _ _, Below.refl _ _⟩

end Go.Proofs.Ytehjbhblccjpeaa
