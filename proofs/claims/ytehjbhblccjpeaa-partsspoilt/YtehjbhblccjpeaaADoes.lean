/- The walk of the statements' helper 'does' (the chapter's examples of parts): it returns true; nothing that was in memory has changed. -/
import Derived.Test.YtehjbhblccjpeaaAAsk
import Derived.Deep.AppendLies
namespace Go.Proofs.Ytehjbhblccjpeaa
open Go.RowKit

theorem ex1 : Pt.cut 10 3 = ([(0, 3), (3, 6), (6, 10)], 0) := by decide +kernel
theorem ex2 : Pt.cut 2 3 = ([], 2) := by decide +kernel
theorem ex3 : Pt.of [(0, 3), (3, 6), (6, 10)] 5 = 1 := by decide +kernel
theorem ex4 : Pt.of [(0, 3), (3, 6), (6, 10)] 10 = -1 := by decide +kernel
theorem ex5 : Pt.chk 10 [(0, 3), (3, 6), (6, 10)] = 0 := by decide +kernel
theorem ex6 : Pt.chk 10 [(0, 3), (3, 6)] = 2 := by decide +kernel

/-- The first of a row. -/
theorem Prt.first {W : World} {a : Option Addr} {n cap : Nat} {l : List (Int × Int)} (h : Prt W (.slice a n cap) l) (k : Nat) (hk : k ≤ n) : Prt W (.slice a k cap) (l.take k) := by
  obtain ⟨a', cap', e, hc, h⟩ := h
  simp only [Value.slice.injEq] at e
  obtain ⟨rfl, rfl, rfl⟩ := e
  have hl : (l.take k).length = k := by simp; omega
  refine ⟨a, cap, by rw [hl], by omega, ?_⟩
  rcases h with rfl | ⟨b, off, rfl, h⟩
  · exact .inl (by simp)
  · refine .inr ⟨b, off, rfl, fun j hj => ?_⟩
    rw [hl] at hj
    have e : (l.take k).getD j p0 = l.getD j p0 := by simp [List.getD, hj]
    rw [e]
    exact h j (by omega)

set_option maxHeartbeats 400000 in
set_option maxRecDepth 100000 in
theorem does_any (w : World) : Calls Try.prog 11 #[] w fun e w' => e = .returned (.bool true) ∧ Below w.heap.size w w' := by
  go_enter Try.func11, Try.ntmps11
  go_wp2_with fail
  refine (cut_any 10 3 w).mono ?_
  rw [ex1]
  rintro e w1 ⟨u1, rfl, hu1, hb1⟩
  replace hu1 : w1.ownsRow w.heap.size 33 2 u1 3 (pcells [(0, 3), (3, 6), (6, 10)]) := hu1
  obtain ⟨g1, cap1, rfl, hc1, _⟩ := hu1.form (by decide)
  have hcap : 3 ≤ cap1 := by
    obtain ⟨a', cap', e, hc, _⟩ := Prt.of_own hu1
    simp only [Value.slice.injEq] at e
    have h3 : 3 ≤ cap' := hc
    omega
  replace hu1 : Hid (Prt w1 (.slice (some ⟨g1, 0, none⟩) 3 cap1) [(0, 3), (3, 6), (6, 10)]) := Prt.of_own hu1
  replace hb1 : Hid (Below w.heap.size w w1) := hb1
  go_wp2_with fail
  refine (cut_any 2 3 w1).mono ?_
  rw [ex2]
  rintro e w2 ⟨u2, rfl, _, hb2⟩
  replace hu1 := Prt.hid hu1 hb2
  replace hb2 : Hid (Below w.heap.size w w2) := bnext hb1.out hb2
  go_wp2_with fail
  refine (same_prt _ _ [(0, 3), (3, 6), (6, 10)] [(0, 3), (3, 6), (6, 10)] _ (hu1.out.later (alloc_below w2 _)) (prt_new w2 [(0, 3), (3, 6), (6, 10)] _ 3 rfl rfl (by decide)) (by decide) (by decide)).mono ?_
  rintro e w3 ⟨rfl, hb3⟩
  rw [show decide ([((0 : Int), (3 : Int)), (3, 6), (6, 10)] = [(0, 3), (3, 6), (6, 10)]) = true from rfl]
  have hx3 := bnext (alloc_below w2 _) hb3
  replace hu1 := Prt.hid hu1 hx3
  replace hb3 : Hid (Below w.heap.size w w3) := bnext hb2.out hx3
  clear hx3 hb1 hb2
  go_wp2_with fail
  refine (of_any _ [(0, 3), (3, 6), (6, 10)] 5 w3 hu1.out (by decide)).mono ?_
  rw [ex3]
  rintro e w4 ⟨rfl, hb4⟩
  replace hu1 := Prt.hid hu1 hb4
  replace hb4 : Hid (Below w.heap.size w w4) := bnext hb3.out hb4
  go_wp2_with fail
  refine (of_any _ [(0, 3), (3, 6), (6, 10)] 10 w4 hu1.out (by decide)).mono ?_
  rw [ex4]
  rintro e w5 ⟨rfl, hb5⟩
  replace hu1 := Prt.hid hu1 hb5
  replace hb5 : Hid (Below w.heap.size w w5) := bnext hb4.out hb5
  go_wp2_with fail
  refine (chk_any 10 _ [(0, 3), (3, 6), (6, 10)] w5 hu1.out (by decide)).mono ?_
  rw [ex5]
  rintro e w6 ⟨rfl, hb6⟩
  replace hu1 := Prt.hid hu1 hb6
  replace hb6 : Hid (Below w.heap.size w w6) := bnext hb5.out hb6
  go_wp2_with fail
  refine (chk_any 10 _ [(0, 3), (3, 6)] w6 (hu1.out.first 2 (by decide)) (by decide)).mono ?_
  rw [ex6]
  rintro e w7 ⟨rfl, hb7⟩
  replace hb7 : Hid (Below w.heap.size w w7) := bnext hb6.out hb7
  go_wp2_with fail
  go_ret
  exact ⟨rfl, hb7.out⟩

end Go.Proofs.Ytehjbhblccjpeaa
