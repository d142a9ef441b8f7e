/- The walks of edges' small functions: mayBeMany, isVertex, mayNotBe, Out; cmp.Or of two; the closure that compares. -/
import Derived.Test.YtbhngncnhabbkaaGreatHCase
import Derived.Shelf.SlSortCmp.QuietGrown
import Derived.Lib.Small
import Derived.Deep.RegionHeld3
namespace Go.Proofs.YtbhngncnhabbkaaGreat
open Go.RowKit Go.Sort

theorem many_any (n : Int) (w : World) :
    Calls Tryz.prog 42 #[.int .i64 n] w fun e w' => e = .returned (.bool (Ed.many n)) ∧ w' = w := by
  by_cases h1 : 1 ≤ n
  · by_cases h2 : n ≤ 256
    · rw [show Ed.many n = true by unfold Ed.many; simp; omega]
      go_enter Tryz.func42, Tryz.ntmps42
      go_wp2
      go_ret
      exact ⟨rfl, rfl⟩
    · rw [show Ed.many n = false by unfold Ed.many; simp; omega]
      go_enter Tryz.func42, Tryz.ntmps42
      go_wp2
      go_ret
      exact ⟨rfl, rfl⟩
  · rw [show Ed.many n = false by unfold Ed.many; simp; omega]
    go_enter Tryz.func42, Tryz.ntmps42
    go_wp2
    go_ret
    exact ⟨rfl, rfl⟩

theorem vert_any (n v : Int) (w : World) :
    Calls Tryz.prog 74 #[.int .i64 n, .int .i64 v] w fun e w' => e = .returned (.bool (Ed.vert n v)) ∧ w' = w := by
  by_cases h1 : 0 ≤ v
  · by_cases h2 : v < n
    · rw [show Ed.vert n v = true by unfold Ed.vert; simp; omega]
      go_enter Tryz.func74, Tryz.ntmps74
      go_wp2
      go_ret
      exact ⟨rfl, rfl⟩
    · rw [show Ed.vert n v = false by unfold Ed.vert; simp; omega]
      go_enter Tryz.func74, Tryz.ntmps74
      go_wp2
      go_ret
      exact ⟨rfl, rfl⟩
  · rw [show Ed.vert n v = false by unfold Ed.vert; simp; omega]
    go_enter Tryz.func74, Tryz.ntmps74
    go_wp2
    go_ret
    exact ⟨rfl, rfl⟩

/-- cmp.Compare of ints. -/
theorem nan_any (x : Int) (w : World) : Calls Tryz.prog 97 #[.int .i64 x] w fun e w' => e = .returned (.bool false) ∧ w' = w := by
  go_enter Tryz.func97, Tryz.ntmps97
  go_wp2
  go_ret
  exact ⟨by simp, rfl⟩

theorem compare_any (x y : Int) (w : World) : Calls Tryz.prog 78 #[.int .i64 x, .int .i64 y] w fun e w' => e = .returned (.int .i64 (Lib.compareInt x y)) ∧ w' = w := by
  unfold Lib.compareInt
  by_cases h1 : x < y
  · rw [if_pos h1]
    go_enter Tryz.func78, Tryz.ntmps78
    go_wp2_with (go_at_call 97; refine (nan_any _ _).mono ?_; rintro e w' ⟨rfl, rfl⟩)
    go_ret
    exact ⟨rfl, rfl⟩
  · rw [if_neg h1]
    by_cases h2 : x > y
    · rw [if_pos h2]
      go_enter Tryz.func78, Tryz.ntmps78
      go_wp2_with (go_at_call 97; refine (nan_any _ _).mono ?_; rintro e w' ⟨rfl, rfl⟩)
      go_ret
      exact ⟨rfl, rfl⟩
    · rw [if_neg h2]
      go_enter Tryz.func78, Tryz.ntmps78
      go_wp2_with (go_at_call 97; refine (nan_any _ _).mono ?_; rintro e w' ⟨rfl, rfl⟩)
      go_ret
      exact ⟨rfl, rfl⟩

/-- Of two numbers the first one that is not 0. -/
def orI (x y : Int) : Int := if x = 0 then y else x

theorem or_two (g : Nat) (x y : Int) (w : World) (h0 : w.cell? ⟨g, 0, none⟩ = some (.int .i64 x)) (h1 : w.cell? ⟨g, 1, none⟩ = some (.int .i64 y)) :
    Calls Tryz.prog 77 #[.slice (some ⟨g, 0, none⟩) 2 2] w fun e w' => e = .returned (.int .i64 (orI x y)) ∧ w' = w := by
  unfold orI
  by_cases hx : x = 0
  · rw [if_pos hx]
    subst hx
    by_cases hy : y = 0
    · subst hy
      go_enter Tryz.func77, Tryz.ntmps77
      go_wp2
      refine wp_loop_rounds 3 ?_
      rw [rounds_succ]
      go_wp2
      rw [rounds_succ]
      go_wp2
      rw [rounds_succ]
      go_wp2
      go_ret
      exact ⟨rfl, rfl⟩
    · go_enter Tryz.func77, Tryz.ntmps77
      go_wp2
      refine wp_loop_rounds 3 ?_
      rw [rounds_succ]
      go_wp2
      rw [rounds_succ]
      go_wp2
      go_ret
      exact ⟨rfl, rfl⟩
  · rw [if_neg hx]
    go_enter Tryz.func77, Tryz.ntmps77
    go_wp2
    refine wp_loop_rounds 3 ?_
    rw [rounds_succ]
    go_wp2
    go_ret
    exact ⟨rfl, rfl⟩

set_option maxHeartbeats 1000000 in
theorem bad_any (n : Int) (x : Int × Int) (B : Nat) (w : World) (hB : B < w.heap.size) (hn : w.cell? ⟨B, 0, none⟩ = some (.int .i64 n)) :
    Calls Tryz.prog 73 #[.agg #[.int .i64 x.1, .int .i64 x.2], .pointer (some ⟨B, 0, none⟩)] w fun e w' => e = .returned (.bool (Ed.bad n x)) ∧ Below w.heap.size w w' := by
  have hne : B ≠ w.heap.size := by omega
  have V1 : Hid (∀ W, Calls Tryz.prog 74 #[.int .i64 n, .int .i64 x.1] W fun e w' => e = .returned (.bool (Ed.vert n x.1)) ∧ w' = W) := fun W => vert_any n x.1 W
  have V2 : Hid (∀ W, Calls Tryz.prog 74 #[.int .i64 n, .int .i64 x.2] W fun e w' => e = .returned (.bool (Ed.vert n x.2)) ∧ w' = W) := fun W => vert_any n x.2 W
  unfold Ed.bad
  generalize Ed.vert n x.1 = a at *
  generalize Ed.vert n x.2 = b at *
  have hb0 : Below w.heap.size w (w.alloc (.cells #[.int .i64 x.1, .int .i64 x.2] 56)) := (Below.refl _ w).alloc (Nat.le_refl _) _
  cases a
  · go_enter Tryz.func73, Tryz.ntmps73
    go_wp2_with fail
    refine Calls.mono (V1.out _) ?_
    rintro e w1 ⟨rfl, rfl⟩
    go_wp2_with fail
    go_ret
    exact ⟨rfl, hb0⟩
  · cases b
    · go_enter Tryz.func73, Tryz.ntmps73
      go_wp2_with fail
      refine Calls.mono (V1.out _) ?_
      rintro e w1 ⟨rfl, rfl⟩
      go_wp2_with fail
      refine Calls.mono (V2.out _) ?_
      rintro e w1 ⟨rfl, rfl⟩
      go_wp2_with fail
      go_ret
      exact ⟨rfl, hb0⟩
    · by_cases hx : x.1 = x.2
      · have hq : (x.1 == x.2) = true := by simpa using hx
        clear hx
        go_enter Tryz.func73, Tryz.ntmps73
        go_wp2_with fail
        refine Calls.mono (V1.out _) ?_
        rintro e w1 ⟨rfl, rfl⟩
        go_wp2_with fail
        refine Calls.mono (V2.out _) ?_
        rintro e w1 ⟨rfl, rfl⟩
        go_wp2_with fail
        go_ret
        exact ⟨by simpa using hq, hb0⟩
      · have hq : (x.1 == x.2) = false := by simpa using hx
        clear hx
        go_enter Tryz.func73, Tryz.ntmps73
        go_wp2_with fail
        refine Calls.mono (V1.out _) ?_
        rintro e w1 ⟨rfl, rfl⟩
        go_wp2_with fail
        refine Calls.mono (V2.out _) ?_
        rintro e w1 ⟨rfl, rfl⟩
        go_wp2_with fail
        go_ret
        exact ⟨by simpa using hq, hb0⟩

theorem or_new (x y : Int) (w : World) :
    Calls Tryz.prog 77 #[.slice (some ⟨w.heap.size, 0, none⟩) 2 2] (w.alloc (.cells #[.int .i64 x, .int .i64 y] 3)).drew fun e w' => e = .returned (.int .i64 (orI x y)) ∧ w' = (w.alloc (.cells #[.int .i64 x, .int .i64 y] 3)).drew :=
  or_two _ x y _ (by simp) (by simp)

/-- How two edges compare. -/
def cmpE (x y : Int × Int) : Int := orI (Lib.compareInt x.1 y.1) (Lib.compareInt x.2 y.2)

set_option maxHeartbeats 1000000 in
theorem comp_any (x y : Int × Int) (w : World) :
    Calls Tryz.prog 76 #[.agg #[.int .i64 x.1, .int .i64 x.2], .agg #[.int .i64 y.1, .int .i64 y.2]] w fun e w' => e = .returned (.int .i64 (cmpE x y)) ∧ ∃ q os, w' = grow (w.drewN q) os := by
  have mixed : Tryz.prog.follows .mixedOrders = true := by kernel_rfl
  unfold cmpE
  obtain ⟨wa, hwa⟩ : ∃ wa, (w.alloc (.cells #[.int .i64 x.1, .int .i64 x.2] 56)).alloc (.cells #[.int .i64 y.1, .int .i64 y.2] 56) = wa := ⟨_, rfl⟩
  have HG : Hid (wa = grow w (#[.cells #[.int .i64 x.1, .int .i64 x.2] 56] ++ #[.cells #[.int .i64 y.1, .int .i64 y.2] 56])) := by rw [Hid, ← hwa, alloc_eq_grow, alloc_eq_grow, grow_grow]
  have c1 : wa.cell? ⟨w.heap.size, 0, none⟩ = some (.int .i64 x.1) := by rw [← hwa]; simp
  have c2 : wa.cell? ⟨w.heap.size, 1, none⟩ = some (.int .i64 x.2) := by rw [← hwa]; simp
  have c3 : wa.cell? ⟨w.heap.size + 1, 0, none⟩ = some (.int .i64 y.1) := by rw [← hwa]; simp
  have c4 : wa.cell? ⟨w.heap.size + 1, 1, none⟩ = some (.int .i64 y.2) := by rw [← hwa]; simp
  go_enter Tryz.func76, Tryz.ntmps76
  go_wp2_with fail
  go_region_held3 (fun W => W.cell? ⟨w.heap.size, 0, none⟩ = some (.int .i64 x.1) ∧ W.cell? ⟨w.heap.size, 1, none⟩ = some (.int .i64 x.2) ∧ W.cell? ⟨w.heap.size + 1, 0, none⟩ = some (.int .i64 y.1) ∧ W.cell? ⟨w.heap.size + 1, 1, none⟩ = some (.int .i64 y.2)) (go_keep)
    (first | (go_at_call 78; refine (compare_any _ _ _).mono ?_; rintro e w' ⟨rfl, rfl⟩) | (go_at_call 77; refine (or_new _ _ _).mono ?_; rintro e w' ⟨rfl, rfl⟩))
  all_goals go_wp2
  all_goals go_ret
  all_goals exact ⟨rfl, 1, _, by rw [HG.out, alloc_eq_grow, grow_grow]; rfl⟩

end Go.Proofs.YtbhngncnhabbkaaGreat
