/- The walk of the statements' helper 'does' (the chapter's examples of packed): it returns true; nothing that was in memory has changed. -/
import Derived.Test.YtfhiheeicaoojaaPUnpack
namespace Go.Proofs.Ytfhiheeicaoojaa
open Go.RowKit

theorem bnext {w a b : World} (h : Below w.heap.size w a) (k : Below a.heap.size a b) : Below w.heap.size w b := h.trans (k.mono h.size)

theorem ints_new (W : World) (zs : List Int) (arr : Array Value) (n : Nat) (h : arr.toList = zs.map (Value.int .i64)) (hn : arr.size = n * 1) (hm : n ≤ maxLen) : Ints (W.alloc (.cells arr 3)) (.slice (some ⟨W.heap.size, 0, none⟩) n n) zs := by
  have hown := World.ownsRow_lit (e := 3) (size := 1) (base := W.heap.size) W arr n (Nat.le_refl _) hm hn
  rw [h] at hown
  exact Ints.of_own hown

theorem fit_lit {l : List Int} (h : (l.all fun z => decide (-9223372036854775808 ≤ z ∧ z ≤ 9223372036854775807)) = true) : Pk.Fit l := fun z hz => by simpa using List.all_eq_true.1 h z hz

theorem ex1 : Pk.pack [1, 2, 3] 3 = ([209, 0], 0) := by decide +kernel
theorem ex2 : Pk.pack [8] 3 = ([], 2) := by decide +kernel
theorem ex3 : Pk.at_ [209, 0] 0 3 = (1, 0) := by decide +kernel
theorem ex4 : Pk.at_ [209, 0] 2 3 = (3, 0) := by decide +kernel
theorem ex5 : Pk.at_ [209, 0] 5 3 = (0, 4) := by decide +kernel
theorem ex6 : Pk.unpack [209, 0] 3 3 = ([1, 2, 3], 0) := by decide +kernel
theorem ex7 : Pk.wid [0, 5] = 3 := by decide +kernel
theorem ex8 : Pk.wid [] = 0 := by decide +kernel
theorem ex9 : Pk.wid [-1] = 33 := by decide +kernel
theorem ex10 : Pk.wid [4294967296] = 33 := by decide +kernel
theorem ex11 : decide (([1, 2, 3] : List Int) = [1, 2, 3]) = true := by decide +kernel

set_option maxHeartbeats 4000000 in
set_option maxRecDepth 100000 in
theorem does_any (w : World) : Calls Try.prog 14 #[] w fun e w' => e = .returned (.bool true) ∧ Below w.heap.size w w' := by
  go_enter Try.func14, Try.ntmps14
  go_wp2_with fail
  refine (pack_any _ [1, 2, 3] 3 _ (ints_new w [1, 2, 3] _ 3 rfl rfl (by decide)) (fit_lit rfl) (by decide)).mono ?_
  rintro e w1 ⟨rfl, hb1⟩
  rw [ex1]
  replace hb1 := bnext ((Below.refl _ w).alloc (Nat.le_refl _) _) hb1
  go_wp2_with fail
  refine (pack_any _ [8] 3 _ (ints_new w1 [8] _ 1 rfl rfl (by decide)) (fit_lit rfl) (by decide)).mono ?_
  rintro e w2 ⟨rfl, hb2⟩
  rw [ex2]
  replace hb2 := bnext (hb1.alloc hb1.size _) hb2
  clear hb1
  go_wp2_with fail
  refine (at_any ⟨#[209, 0]⟩ 0 3 _ (by decide)).mono ?_
  rintro e w3 ⟨rfl, hb3⟩
  rw [ex3]
  replace hb3 := bnext hb2 hb3
  clear hb2
  go_wp2_with fail
  refine (at_any ⟨#[209, 0]⟩ 2 3 _ (by decide)).mono ?_
  rintro e w4 ⟨rfl, hb4⟩
  rw [ex4]
  replace hb4 := bnext hb3 hb4
  clear hb3
  go_wp2_with fail
  refine (at_any ⟨#[209, 0]⟩ 5 3 _ (by decide)).mono ?_
  rintro e w5 ⟨rfl, hb5⟩
  rw [ex5]
  replace hb5 := bnext hb4 hb5
  clear hb4
  go_wp2_with fail
  refine (unpack_any ⟨#[209, 0]⟩ 3 3 _ (by decide)).mono ?_
  rintro e w6 ⟨v, rfl, hi6, hb6⟩
  rw [ex6]
  replace hi6 : Hid (Ints w6 v [1, 2, 3]) := by rw [ex6] at hi6; exact hi6
  replace hb6 : Hid _ := bnext hb5 hb6
  clear hb5
  go_wp2_with fail
  refine (width_any _ [0, 5] _ (ints_new w6 [0, 5] _ 2 rfl rfl (by decide)) (fit_lit rfl) (by decide)).mono ?_
  rintro e w7 ⟨rfl, hw7⟩
  rw [ex7]
  have hi7 : Hid (Ints w7 v [1, 2, 3]) := by rw [hw7]; exact hi6.out.later ((Below.refl _ w6).alloc (Nat.le_refl _) _)
  have hb7 : Hid (Below w.heap.size w w7) := by rw [hw7]; exact hb6.out.alloc hb6.out.size _
  clear hw7 hi6 hb6
  go_wp2_with fail
  refine (width_any _ [] _ (ints_none w7) (fit_lit rfl) (by decide)).mono ?_
  rintro e w8 ⟨rfl, rfl⟩
  rw [ex8]
  go_wp2_with fail
  refine (width_any _ [-1] _ (ints_new w8 [-1] _ 1 rfl rfl (by decide)) (fit_lit rfl) (by decide)).mono ?_
  rintro e w9 ⟨rfl, hw9⟩
  rw [ex9]
  have hi9 : Hid (Ints w9 v [1, 2, 3]) := by rw [hw9]; exact hi7.out.later ((Below.refl _ w8).alloc (Nat.le_refl _) _)
  have hb9 : Hid (Below w.heap.size w w9) := by rw [hw9]; exact hb7.out.alloc hb7.out.size _
  clear hw9 hi7 hb7
  go_wp2_with fail
  refine (width_any _ [4294967296] _ (ints_new w9 [4294967296] _ 1 rfl rfl (by decide)) (fit_lit rfl) (by decide)).mono ?_
  rintro e w10 ⟨rfl, hw10⟩
  rw [ex10]
  have hi10 : Hid (Ints w10 v [1, 2, 3]) := by rw [hw10]; exact hi9.out.later ((Below.refl _ w9).alloc (Nat.le_refl _) _)
  have hb10 : Hid (Below w.heap.size w w10) := by rw [hw10]; exact hb9.out.alloc hb9.out.size _
  clear hw10 hi9 hb9
  go_wp2_with fail
  refine (same_any v _ [1, 2, 3] [1, 2, 3] _ (hi10.out.later ((Below.refl _ w10).alloc (Nat.le_refl _) _)) (ints_new w10 [1, 2, 3] _ 3 rfl rfl (by decide)) (by decide) (by decide)).mono ?_
  rintro e w11 ⟨rfl, hb11⟩
  rw [ex11]
  have hb11 : Hid _ := bnext (hb10.out.alloc hb10.out.size _) hb11
  go_wp2
  go_ret
  exact ⟨rfl, hb11.out⟩

end Go.Proofs.Ytfhiheeicaoojaa
