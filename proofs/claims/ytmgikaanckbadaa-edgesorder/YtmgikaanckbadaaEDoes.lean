/- The walk of the statements' helper 'does' (the chapter's examples of edges): it returns true; nothing that was in memory has changed. -/
import Derived.Test.YtmgikaanckbadaaEDeg
namespace Go.Proofs.Ytmgikaanckbadaa
open Go.RowKit Go.Shelf Go.Sort Go.Lib

/-- Edges that are written out. -/
theorem edg_new (W : World) (l : List (Int × Int)) (arr : Array Value) (n : Nat) (h : arr.toList = ecells l) (hn : arr.size = n * 2) (hm : n ≤ maxLen) : Edg (W.alloc (.cells arr 24)) (.slice (some ⟨W.heap.size, 0, none⟩) n n) l := by
  have hown := World.ownsRow_lit (e := 24) (size := 2) (base := W.heap.size) W arr n (Nat.le_refl _) hm hn
  rw [h] at hown
  exact Edg.of_own hown
theorem ints_new (W : World) (zs : List Int) (arr : Array Value) (n : Nat) (h : arr.toList = zs.map (Value.int .i64)) (hn : arr.size = n * 1) (hm : n ≤ maxLen) : Ints (W.alloc (.cells arr 3)) (.slice (some ⟨W.heap.size, 0, none⟩) n n) zs := by
  have hown := World.ownsRow_lit (e := 3) (size := 1) (base := W.heap.size) W arr n (Nat.le_refl _) hm hn
  rw [h] at hown
  exact Ints.of_own hown

theorem Edg.hid {w w' : World} {v : Value} {l : List (Int × Int)} (h : Hid (Edg w v l)) (hb : Below w.heap.size w w') : Hid (Edg w' v l) := h.out.later hb
theorem Ints.hid {w w' : World} {v : Value} {l : List Int} (h : Hid (Ints w v l)) (hb : Below w.heap.size w w') : Hid (Ints w' v l) := h.out.later hb
theorem above {w W : World} (o : Obj) (h : Hid (Below w.heap.size w W)) : Hid (Below w.heap.size w (W.alloc o)) := h.out.alloc h.out.size _
theorem alloc_below (W : World) (o : Obj) : Below W.heap.size W (W.alloc o) := (Below.refl _ W).alloc (Nat.le_refl _) _

theorem ex1 : Ed.nor 3 [(2, 0), (0, 1), (2, 0)] = ([(0, 1), (2, 0)], 0) := by decide +kernel
theorem ex2 : Ed.nor 3 [(1, 1)] = ([], 2) := by decide +kernel
theorem ex3 : Ed.nor 3 [(0, 3)] = ([], 2) := by decide +kernel
theorem ex4 : Ed.degs 3 (([(0, 1), (0, 2), (2, 1)] : List (Int × Int)).map (·.1)) = [2, 0, 1] := by decide +kernel
theorem ex5 : Ed.degs 3 (([(0, 1), (0, 2), (2, 1)] : List (Int × Int)).map (·.2)) = [0, 2, 1] := by decide +kernel
theorem ex6 : Ed.outs [(0, 1), (0, 2), (2, 1)] 0 = [1, 2] := by decide +kernel
theorem ex7 : Ed.rev [(0, 1), (0, 2), (2, 1)] = [(1, 0), (1, 2), (2, 0)] := by decide +kernel

set_option maxHeartbeats 2000000 in
set_option maxRecDepth 100000 in
theorem does_any (w : World) : Calls Try.prog 18 #[] w fun e w' => e = .returned (.bool true) ∧ Below w.heap.size w w' := by
  go_enter Try.func18, Try.ntmps18
  go_wp2_with fail
  refine (normal_any _ [(2, 0), (0, 1), (2, 0)] 3 _ (edg_new w [(2, 0), (0, 1), (2, 0)] _ 3 rfl rfl (by decide)) (by decide)).mono ?_
  rintro e w1 ⟨u1, rfl, hu1, hb1⟩
  rw [ex1] at hu1 ⊢
  replace hb1 : Hid (Below w.heap.size w w1) := bnext ((Below.refl _ w).alloc (Nat.le_refl _) _) hb1
  have hu1 : Hid (Edg w1 u1 [(0, 1), (2, 0)]) := hu1
  go_wp2_with fail
  refine (normal_any _ [(1, 1)] 3 _ (edg_new w1 [(1, 1)] _ 1 rfl rfl (by decide)) (by decide)).mono ?_
  rintro e w2 ⟨u2, rfl, hu2, hb2⟩
  rw [ex2] at hu2 ⊢
  replace hu1 : Hid (Edg w2 u1 [(0, 1), (2, 0)]) := Edg.hid hu1 (bnext (alloc_below w1 _) hb2)
  replace hb2 : Hid (Below w.heap.size w w2) := bnext (hb1.out.alloc hb1.out.size _) hb2
  clear hu2 hb1
  go_wp2_with fail
  refine (normal_any _ [(0, 3)] 3 _ (edg_new w2 [(0, 3)] _ 1 rfl rfl (by decide)) (by decide)).mono ?_
  rintro e w3 ⟨u3, rfl, hu3, hb3⟩
  rw [ex3] at hu3 ⊢
  replace hu1 : Hid (Edg w3 u1 [(0, 1), (2, 0)]) := Edg.hid hu1 (bnext (alloc_below w2 _) hb3)
  replace hb3 : Hid (Below w.heap.size w w3) := bnext (hb2.out.alloc hb2.out.size _) hb3
  clear hu3 hb2
  have hm : Hid (Edg (w3.alloc (.cells #[.int .i64 0, .int .i64 1, .int .i64 0, .int .i64 2, .int .i64 2, .int .i64 1] 24)) (.slice (some ⟨w3.heap.size, 0, none⟩) 3 3) [(0, 1), (0, 2), (2, 1)]) := edg_new w3 [(0, 1), (0, 2), (2, 1)] _ 3 rfl rfl (by decide)
  have HD : Hid (Calls _ _ _ _ _) := degrees_any _ [(0, 1), (0, 2), (2, 1)] 3 _ hm.out (by decide)
  replace hu1 : Hid (Edg (w3.alloc (.cells #[.int .i64 0, .int .i64 1, .int .i64 0, .int .i64 2, .int .i64 2, .int .i64 1] 24)) u1 [(0, 1), (2, 0)]) := Edg.hid hu1 (alloc_below w3 _)
  replace hb3 := above (.cells #[.int .i64 0, .int .i64 1, .int .i64 0, .int .i64 2, .int .i64 2, .int .i64 1] 24) hb3
  go_wp2_with fail
  refine Calls.mono HD.out ?_
  rintro e w4 ⟨u4, u5, rfl, hu4, hu5, hb4⟩
  replace hm := Edg.hid hm hb4
  replace hu1 := Edg.hid hu1 hb4
  replace hb4 : Hid (Below w.heap.size w w4) := bnext hb3.out hb4
  rw [ex4] at hu4
  rw [ex5] at hu5
  have hu4 : Hid (Ints w4 u4 [2, 0, 1]) := hu4
  have hu5 : Hid (Ints w4 u5 [0, 2, 1]) := hu5
  clear hb3 HD
  go_wp2_with fail
  refine (same_edg u1 _ [(0, 1), (2, 0)] [(0, 1), (2, 0)] _ (hu1.out.later (alloc_below w4 _)) (edg_new w4 [(0, 1), (2, 0)] _ 2 rfl rfl (by decide)) (by decide) (by decide)).mono ?_
  rintro e w5 ⟨rfl, hb5⟩
  rw [show decide ([((0 : Int), (1 : Int)), (2, 0)] = [(0, 1), (2, 0)]) = true from rfl]
  have hx5 := bnext (alloc_below w4 _) hb5
  replace hm := Edg.hid hm hx5
  replace hu4 := Ints.hid hu4 hx5
  replace hu5 := Ints.hid hu5 hx5
  replace hb5 : Hid (Below w.heap.size w w5) := bnext hb4.out hx5
  clear hx5 hb4 hu1
  go_wp2_with fail
  refine (out_any _ [(0, 1), (0, 2), (2, 1)] 0 w5 hm.out (by decide)).mono ?_
  rintro e w6 ⟨u6, rfl, hu6, hb6⟩
  rw [ex6] at hu6
  replace hu6 : Hid (Ints w6 u6 [1, 2]) := Ints.of_own hu6
  replace hm := Edg.hid hm hb6
  replace hu4 := Ints.hid hu4 hb6
  replace hu5 := Ints.hid hu5 hb6
  replace hb6 : Hid (Below w.heap.size w w6) := bnext hb5.out hb6
  clear hb5
  go_wp2_with fail
  refine (same_any u6 _ [1, 2] [1, 2] _ (hu6.out.later (alloc_below w6 _)) (ints_new w6 [1, 2] _ 2 rfl rfl (by decide)) (by decide) (by decide)).mono ?_
  rintro e w7 ⟨rfl, hb7⟩
  rw [show decide ([(1 : Int), 2] = [1, 2]) = true from rfl]
  have hx7 := bnext (alloc_below w6 _) hb7
  replace hm := Edg.hid hm hx7
  replace hu4 := Ints.hid hu4 hx7
  replace hu5 := Ints.hid hu5 hx7
  replace hb7 : Hid (Below w.heap.size w w7) := bnext hb6.out hx7
  clear hx7 hb6 hu6
  go_wp2_with fail
  refine (same_any u4 _ [2, 0, 1] [2, 0, 1] _ (hu4.out.later (alloc_below w7 _)) (ints_new w7 [2, 0, 1] _ 3 rfl rfl (by decide)) (by decide) (by decide)).mono ?_
  rintro e w8 ⟨rfl, hb8⟩
  rw [show decide ([(2 : Int), 0, 1] = [2, 0, 1]) = true from rfl]
  have hx8 := bnext (alloc_below w7 _) hb8
  replace hm := Edg.hid hm hx8
  replace hu5 := Ints.hid hu5 hx8
  replace hb8 : Hid (Below w.heap.size w w8) := bnext hb7.out hx8
  clear hx8 hb7 hu4
  go_wp2_with fail
  refine (same_any u5 _ [0, 2, 1] [0, 2, 1] _ (hu5.out.later (alloc_below w8 _)) (ints_new w8 [0, 2, 1] _ 3 rfl rfl (by decide)) (by decide) (by decide)).mono ?_
  rintro e w9 ⟨rfl, hb9⟩
  rw [show decide ([(0 : Int), 2, 1] = [0, 2, 1]) = true from rfl]
  have hx9 := bnext (alloc_below w8 _) hb9
  replace hm := Edg.hid hm hx9
  replace hb9 : Hid (Below w.heap.size w w9) := bnext hb8.out hx9
  clear hx9 hb8 hu5
  go_wp2_with fail
  refine (reverse_any _ [(0, 1), (0, 2), (2, 1)] w9 hm.out (by decide)).mono ?_
  rintro e wx ⟨ux, rfl, hux, hbx⟩
  rw [ex7] at hux
  replace hux : Hid (Edg wx ux [(1, 0), (1, 2), (2, 0)]) := Edg.of_own hux
  replace hbx : Hid (Below w.heap.size w wx) := bnext hb9.out hbx
  clear hb9 hm
  go_wp2_with fail
  refine (same_edg ux _ [(1, 0), (1, 2), (2, 0)] [(1, 0), (1, 2), (2, 0)] _ (hux.out.later (alloc_below wx _)) (edg_new wx [(1, 0), (1, 2), (2, 0)] _ 3 rfl rfl (by decide)) (by decide) (by decide)).mono ?_
  rintro e wy ⟨rfl, hby⟩
  rw [show decide ([((1 : Int), (0 : Int)), (1, 2), (2, 0)] = [(1, 0), (1, 2), (2, 0)]) = true from rfl]
  replace hby : Hid (Below w.heap.size w wy) := bnext hbx.out (bnext (alloc_below wx _) hby)
  clear hbx hux
  go_wp2_with fail
  go_ret
  exact ⟨rfl, hby.out⟩

end Go.Proofs.Ytmgikaanckbadaa
