/- PartsCut: for every two numbers the call returns true: so many parts of so many vertices are the document's, or refused (P9.1). No conditions. -/
import Derived.Test.YtehjbhblccjpeaaAOpen
import Derived.Test.YtehjbhblccjpeaaARef
namespace Go.Proofs.Ytehjbhblccjpeaa
open Go.ChangeShapes Go.WideShapes Go.ChangeAt Go.RowKit Go.Deep

set_option maxHeartbeats 400000 in
set_option maxRecDepth 100000 in
theorem partsCut_walk (n s : Int) (w : World) (_hn : (Lit.int .i64 n).wf = true) (_hs : (Lit.int .i64 s).wf = true) :
    Calls Try.prog 3 #[.int .i64 n, .int .i64 s] w fun e w' => e = .returned (.bool true) ∧ Below w.heap.size w w' := by
  have HC := cut_any n s w
  have HR := rcut_any n s
  have hl : (Pt.cut n s).1.length ≤ 1000000000000 := by
    unfold Pt.cut
    by_cases c : Pt.can n s = true
    · rw [if_pos c]
      have : s ≤ 16 := by unfold Pt.can at c; simp at c; omega
      show (Pt.cuts n.toNat s.toNat).length ≤ _
      rw [Pt.cuts_len]; omega
    · rw [if_neg c]; simp
  obtain ⟨l, e, hle⟩ : ∃ l e, Pt.cut n s = (l, e) := ⟨_, _, rfl⟩
  rw [hle] at HC hl
  rw [hle] at HR
  dsimp only at HC HR hl
  replace HR : Hid _ := HR
  replace HC : Hid _ := HC
  go_enter Try.func3, Try.ntmps3
  go_wp2_with fail
  refine Calls.mono HC.out ?_
  rintro e1 w1 ⟨u1, rfl, hu1, hb1⟩
  replace hu1 : Hid (Prt w1 u1 l) := Prt.of_own hu1
  replace hb1 : Hid (Below w.heap.size w w1) := hb1
  clear HC
  go_wp2_with fail
  refine (HR.out w1).mono ?_
  rintro e2 w2 ⟨u2, rfl, hu2, hb2⟩
  replace hu2 : Hid (Prt w2 u2 l) := Prt.of_own hu2
  replace hu1 := Prt.hid hu1 hb2
  replace hb2 : Hid (Below w.heap.size w w2) := bnext hb1.out hb2
  clear HR
  go_wp2_with fail
  refine (same_prt u1 u2 l l w2 hu1.out hu2.out hl hl).mono ?_
  rintro e3 w3 ⟨rfl, hb3⟩
  rw [show decide (l = l) = true from decide_eq_true rfl]
  replace hb3 : Hid (Below w.heap.size w w3) := bnext hb2.out hb3
  go_wp2_with fail
  refine (does_any _).mono ?_
  rintro e4 w4 ⟨rfl, hb4⟩
  replace hb4 : Hid (Below w.heap.size w w4) := bnext hb3.out hb4
  go_wp2
  go_ret
  exact ⟨rfl, hb4.out⟩

set_option maxRecDepth 100000 in
theorem partsCut_lifted (os : Os) (started : os.Started) (H : Type) (enc : TypeId × Value → H) :
    ReturnsInHanded {} Try.checked os 3 .any (Rows.partsCutSpec.pre6 enc Try.prog Try.f3 Rows.partsCutRow.domain false) (Rows.partsCutSpec.post enc Try.prog Try.f3 false true false false) := by
  refine returnsInHanded_of_change (C := Try.checked) Try.own started (by kernel_rfl) Try.func3
    (ChangeSpec.witness6 (enc := enc) (C := Try.checked) false ⟨#[], #[.int .i64 0, .int .i64 0], []⟩ 8 (by kernel_rfl) (by kernel_rfl) (by kernel_rfl) (by kernel_rfl)) ?_
  intro W base args ds gs before hval0 hW hcnd _
  have hval : ∀ (j : Nat) t v, Try.f3.params[j]? = some t → args[j]? = some v → Value.okWide Try.prog W .any base t v := hval0
  have hW' := hW
  obtain ⟨p, q, hA0, hV, rfl, hfz, hnd⟩ := hW
  have hA : DataW.TrodAll enc Try.prog W 0 (fun _ => true) true Try.f3.params.toList args.toList ds p := hA0
  rw [Try.params3] at hA hval
  obtain ⟨v0, vs0, d0, ds0, p0, q0, hargs, rfl, rfl, h0, r0⟩ := trodAll_cons hA
  obtain ⟨v1, vs1, d1, ds1, p1, q1, rfl, rfl, rfl, h1, r1⟩ := trodAll_cons r0
  obtain ⟨rfl, rfl, rfl⟩ := trodAll_nil r1
  obtain rfl : args = #[v0, v1] := by cases args; simp_all
  obtain ⟨rfl, rfl⟩ := trodVars_none hV
  obtain ⟨a0, rfl, rfl, rfl, w0⟩ := open_int Try.underlying3 (hval 0 3 v0 rfl rfl) h0
  obtain ⟨a1, rfl, rfl, rfl, w1⟩ := open_int Try.underlying3 (hval 1 3 v1 rfl rfl) h1
  clear hA0 hval0
  simp only [List.append_nil] at hW'
  refine (partsCut_walk a0 a1 W w0 w1).mono fun e W' ⟨he, bel⟩ => ?_
  subst he
  exact ⟨_, rfl, _, _, _, [], [], [], hW', trodAll_mk1 (shut_bool Try.underlying4 _), (trodAll_cons_mk (shut_int Try.underlying3 w0) (trodAll_cons_mk (shut_int Try.underlying3 w1) trodAll_mk0)), rfl, bel.frame _, fun h => by cases h⟩

theorem partsCut_holds : Rows.PartsCutSaid :=
  OpenClaim.holds_of_wide 3 Try.f3 rfl rfl rfl rfl rfl rfl rfl ⟨rfl, rfl, rfl, rfl, rfl⟩ rfl rfl rfl rfl rfl (by kernel_rfl) Try.func3 (by kernel_rfl)
    (of_decide_eq_true (by kernel_rfl)) (by unfold Func.isWrapper; first | (rw [if_pos (by decide +kernel)]; kernel_rfl) | (rw [if_neg (by decide +kernel)]; exact ⟨rfl, rfl⟩))
    (fun os started H enc _ => partsCut_lifted os started H enc)

end Go.Proofs.Ytehjbhblccjpeaa
