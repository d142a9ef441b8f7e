/- The walk of the statements' helper 'does' (the chapter's examples of gaps): it returns true; nothing that was in memory has changed. -/
import Derived.Test.YtiopomhiaipniaaGDec2
namespace Go.Proofs.Ytiopomhiaipniaa
open Go.RowKit

theorem ints_new (W : World) (zs : List Int) (arr : Array Value) (n : Nat) (h : arr.toList = zs.map (Value.int .i64)) (hn : arr.size = n * 1) (hm : n ≤ maxLen) : Ints (W.alloc (.cells arr 3)) (.slice (some ⟨W.heap.size, 0, none⟩) n n) zs := by
  have hown := World.ownsRow_lit (e := 3) (size := 1) (base := W.heap.size) W arr n (Nat.le_refl _) hm hn
  rw [h] at hown
  exact Ints.of_own hown

theorem ex1 : Gp.encS [3, 4, 300] = [3, 3, 0, 167, 2] := by decide +kernel
theorem ex2 : Gp.encS [] = [0] := by decide +kernel
theorem ex3 : Gp.encS [4, 4] = [] := by decide +kernel
theorem er1 : Gp.err [3, 4, 300] = 0 := by decide +kernel
theorem er2 : Gp.err [] = 0 := by decide +kernel
theorem er3 : Gp.err [4, 4] = 2 := by decide +kernel
theorem er4 : Gp.err [-1] = 2 := by decide +kernel
theorem de1 : Gp.dec [9, 2, 5, 0] 1 = some ([5, 6], 4) := by decide +kernel
theorem de2 : Gp.dec [1] 0 = none := by decide +kernel
theorem sm1 : decide (([5, 6] : List Int) = [5, 6]) = true := by decide +kernel

theorem told_none {W : World} {o : Option (List Int × Int)} {v : Value} {n er : Int} (h : Told W o v n er) (ho : o = none) : v = .slice none 0 0 ∧ n = 0 ∧ er = 10 := by subst ho; exact h
theorem told_some {W : World} {o : Option (List Int × Int)} {v : Value} {n er : Int} {l : List Int} {x : Int} (h : Told W o v n er) (ho : o = some (l, x)) : Ints W v l ∧ n = x ∧ er = 0 := by subst ho; exact h

theorem fit_lit {l : List Int} (h : (l.all fun z => decide (-9223372036854775808 ≤ z ∧ z ≤ 9223372036854775807)) = true) : Gp.Fit l := fun z hz => by simpa using List.all_eq_true.1 h z hz

theorem ints_nil (W : World) : Ints W (.slice none 0 0) [] := ⟨none, 0, rfl, .inl rfl⟩

set_option maxHeartbeats 2000000 in
set_option maxRecDepth 100000 in
theorem does_any (w : World) : Calls Try.prog 15 #[] w fun e w' => e = .returned (.bool true) ∧ Below w.heap.size w w' := by
  go_enter Try.func15, Try.ntmps15
  go_wp2_with fail
  refine (encode_any _ [3, 4, 300] _ (ints_new w [3, 4, 300] _ 3 rfl rfl (by decide)) (fit_lit rfl) (by decide)).mono ?_
  rintro e w1 ⟨rfl, hb1⟩
  rw [ex1, er1]
  replace hb1 := bnext ((Below.refl _ w).alloc (Nat.le_refl _) _) hb1
  go_wp2_with fail
  refine (encode_any _ [] _ (ints_nil w1) (fit_lit rfl) (by decide)).mono ?_
  rintro e w2 ⟨rfl, hb2⟩
  rw [ex2, er2]
  replace hb2 := bnext hb1 hb2
  clear hb1
  go_wp2_with fail
  refine (encode_any _ [4, 4] _ (ints_new w2 [4, 4] _ 2 rfl rfl (by decide)) (fit_lit rfl) (by decide)).mono ?_
  rintro e w3 ⟨rfl, hb3⟩
  rw [ex3, er3]
  replace hb3 := bnext (hb2.alloc hb2.size _) hb3
  clear hb2
  go_wp2_with fail
  refine (decode_any _ _ _ (by decide)).mono ?_
  rintro e w4 ⟨v, n, er, rfl, ht, hb4⟩
  obtain ⟨hi4, rfl, rfl⟩ := told_some ht de1
  replace hb4 := bnext hb3 hb4
  clear hb3 ht
  go_wp2_with fail
  refine (decode_any _ _ _ (by decide)).mono ?_
  rintro e w5 ⟨u, n, er, rfl, ht, hb5⟩
  obtain ⟨rfl, rfl, rfl⟩ := told_none ht de2
  replace hi4 := hi4.later hb5
  replace hb5 := bnext hb4 hb5
  clear hb4 ht
  go_wp2_with fail
  refine (check_any _ [-1] _ (ints_new w5 [-1] _ 1 rfl rfl (by decide)) (fit_lit rfl) (by decide)).mono ?_
  rintro e w6 ⟨rfl, hw6⟩
  rw [er4]
  have hb6 : Below w.heap.size w w6 := by rw [hw6]; exact hb5.alloc hb5.size _
  have hi6 : Ints w6 v [5, 6] := by rw [hw6]; exact hi4.later ((Below.refl _ w5).alloc (Nat.le_refl _) _)
  clear hb5 hi4 hw6
  go_wp2_with fail
  refine (same_any v _ [5, 6] [5, 6] _ (hi6.later ((Below.refl _ w6).alloc (Nat.le_refl _) _)) (ints_new w6 [5, 6] _ 2 rfl rfl (by decide)) (by decide) (by decide)).mono ?_
  rintro e w7 ⟨rfl, hb7⟩
  rw [sm1]
  replace hb7 := bnext (hb6.alloc hb6.size _) hb7
  go_wp2
  go_ret
  exact ⟨rfl, hb7⟩

end Go.Proofs.Ytiopomhiaipniaa
