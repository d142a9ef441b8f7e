/- IntsGet: for every string and every int the call returns true: the number, and the int, that stands at any place of any bytes is the document's, or there is none (P1.2). No conditions. -/
import Derived.Test.YtdeknpinjlepcaaRefNum
import Derived.Test.YtdeknpinjlepcaaFrame
namespace Go.Proofs.Ytdeknpinjlepcaa
open Go.ChangeShapes Go.WideShapes Go.ChangeAt Go.RowKit
open Go.ChangeMaps (open_string shut_string)

set_option maxHeartbeats 1000000 in
theorem intsGet_walk (s : ByteArray) (i : Int) (w0 : s.size ≤ maxLen) (w1 : (Lit.int .i64 i).wf = true) (w : World) :
    Calls Try.prog 4 #[.string s, .int .i64 i] w fun e w' => e = .returned (.bool true) ∧ Below w.heap.size w w' := by
  have b1 := bounds_i64 w1
  clear w1
  unfold maxLen at w0
  by_cases h5 : 5000 < s.size
  · go_enter Try.func4, Try.ntmps4
    go_wp2
    go_ret
    exact ⟨rfl, Below.refl _ _⟩
  · go_enter Try.func4, Try.ntmps4
    go_wp2_with fail
    refine (get_any _ _ _ (by omega)).mono ?_
    rintro e w' ⟨n, x, b, rfl, hg, rfl⟩
    go_wp2_with fail
    refine (rget_any _ _ _ (by omega)).mono ?_
    rintro e w2 ⟨n', x', b', rfl, hg', hb2⟩
    obtain ⟨rfl, rfl, rfl⟩ := three_eq hg.out hg'.out
    clear hg hg'
    go_wp2_with fail
    refine (getInt_any _ _ _ (by omega)).mono ?_
    rintro e w3 ⟨m, y, c, rfl, hg, rfl⟩
    go_wp2_with fail
    refine (rgetInt_any _ _ _ (by omega)).mono ?_
    rintro e w4 ⟨m', y', c', rfl, hg', hb4⟩
    obtain ⟨rfl, rfl, rfl⟩ := three_eq hg.out hg'.out
    clear hg hg'
    replace hb4 := bnext hb2 hb4
    clear hb2
    go_wp2_with fail
    refine (does_any _).mono ?_
    rintro e w9 ⟨rfl, hb9⟩
    go_wp2
    go_ret
    exact ⟨rfl, bnext hb4 hb9⟩

set_option maxRecDepth 100000 in
theorem intsGet_lifted (os : Os) (started : os.Started) (H : Type) (enc : TypeId × Value → H) :
    ReturnsInHanded {} Try.checked os 4 .any (Rows.intsGetSpec.pre6 enc Try.prog Try.f4 Rows.intsGetRow.domain false) (Rows.intsGetSpec.post enc Try.prog Try.f4 false true false false) := by
  refine returnsInHanded_of_change (C := Try.checked) Try.own started (by kernel_rfl) Try.func4
    (ChangeSpec.witness6 (enc := enc) (C := Try.checked) false ⟨#[], #[.string ByteArray.empty, .int .i64 0], []⟩ 8 (by kernel_rfl) (by kernel_rfl) (by kernel_rfl) (by kernel_rfl)) ?_
  intro W base args ds gs before hval0 hW hcnd _
  have hval : ∀ (j : Nat) t v, Try.f4.params[j]? = some t → args[j]? = some v → Value.okWide Try.prog W .any base t v := hval0
  have hW' := hW
  obtain ⟨p, q, hA0, hV, rfl, hfz, hnd⟩ := hW
  have hA : DataW.TrodAll enc Try.prog W 0 (fun _ => true) true Try.f4.params.toList args.toList ds p := hA0
  rw [Try.params4] at hA hval
  obtain ⟨v0, vs0, d0, ds0, p0, q0, hargs, rfl, rfl, h0, r0⟩ := trodAll_cons hA
  obtain ⟨v1, vs1, d1, ds1, p1, q1, rfl, rfl, rfl, h1, r1⟩ := trodAll_cons r0
  obtain ⟨rfl, rfl, rfl⟩ := trodAll_nil r1
  obtain rfl : args = #[v0, v1] := by cases args; simp_all
  obtain ⟨rfl, rfl⟩ := trodVars_none hV
  obtain ⟨a0, rfl, rfl, rfl, w0⟩ := open_string Try.underlying9 (hval 0 9 v0 rfl rfl) h0
  obtain ⟨a1, rfl, rfl, rfl, w1⟩ := open_int Try.underlying3 (hval 1 3 v1 rfl rfl) h1
  clear hA0 hval0
  simp only [List.append_nil] at hW'
  refine (intsGet_walk a0 a1 w0 w1 W).mono fun e W' ⟨he, bel⟩ => ?_
  subst he
  exact ⟨_, rfl, _, _, _, [], [], [], hW', trodAll_mk1 (shut_bool Try.underlying4 _), (trodAll_cons_mk (shut_string Try.underlying9 w0) (trodAll_cons_mk (shut_int Try.underlying3 w1) trodAll_mk0)), rfl, bel.frame _, fun h => by cases h⟩

theorem intsGet_holds : Rows.IntsGetSaid :=
  OpenClaim.holds_of_wide 4 Try.f4 rfl rfl rfl rfl rfl rfl rfl ⟨rfl, rfl, rfl, rfl, rfl⟩ rfl rfl rfl rfl rfl (by kernel_rfl) Try.func4 (by kernel_rfl)
    (of_decide_eq_true (by kernel_rfl)) (by unfold Func.isWrapper; first | (rw [if_pos (by decide +kernel)]; kernel_rfl) | (rw [if_neg (by decide +kernel)]; exact ⟨rfl, rfl⟩))
    (fun os started H enc _ => intsGet_lifted os started H enc)

end Go.Proofs.Ytdeknpinjlepcaa
