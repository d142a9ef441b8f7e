/- SumsZeros: for every uint32 and every two uint64 the call returns true: so many zero bytes, and then so many more, are all of them at once; none are nothing; a register without ones stays so (P3.4, P3.2). No conditions. -/
import Derived.Test.YtlhmcebgfpcokabSFrame
namespace Go.Proofs.Ytlhmcebgfpcokab
open Go.ChangeShapes Go.WideShapes Go.ChangeAt Go.RowKit

theorem beq_zero (a b : Nat) (h : a = 0 ↔ b = 0) : (((a : Int) == 0) == ((b : Int) == 0)) = true := by
  by_cases hb : b = 0
  · simp [hb, h.2 hb]
  · have ha : a ≠ 0 := fun e => hb (h.1 e)
    have e1 : ((a : Int) == 0) = false := by rw [beq_eq_false_iff_ne]; omega
    have e2 : ((b : Int) == 0) = false := by rw [beq_eq_false_iff_ne]; omega
    rw [e1, e2]; rfl

set_option maxHeartbeats 1000000 in
theorem sumsZeros_walk (a0 n0 m0 : Int) (w : World) (ha0 : (Lit.int .u32 a0).wf = true) (hn0 : (Lit.int .u64 n0).wf = true) (hm0 : (Lit.int .u64 m0).wf = true) :
    Calls Try.prog 3 #[.int .u32 a0, .int .u64 n0, .int .u64 m0] w fun e w' => e = .returned (.bool true) ∧ Below w.heap.size w w' := by
  obtain ⟨a, rfl, ha⟩ := wf_u32 ha0
  obtain ⟨n, rfl, hn⟩ := wf_u64 hn0
  obtain ⟨m, rfl, hm⟩ := wf_u64 hm0
  clear ha0 hn0 hm0
  have ex : Hid ((n : Int) % 2305843009213693952 = ((n % 2305843009213693952 : Nat) : Int)) := by
    show (n : Int) % 2305843009213693952 = ((n % 2305843009213693952 : Nat) : Int)
    omega
  have ey : Hid ((m : Int) % 2305843009213693952 = ((m % 2305843009213693952 : Nat) : Int)) := by
    show (m : Int) % 2305843009213693952 = ((m % 2305843009213693952 : Nat) : Int)
    omega
  have hx : n % 2305843009213693952 < 2305843009213693952 := Nat.mod_lt _ (by decide)
  have hy : m % 2305843009213693952 < 2305843009213693952 := Nat.mod_lt _ (by decide)
  generalize n % 2305843009213693952 = x at ex hx
  generalize m % 2305843009213693952 = y at ey hy
  replace ex := ex.out
  replace ey := ey.out
  have hj := Cr.join_lt a 0 x ha (by decide)
  have j0 : Cr.join a 0 0 = a := by unfold Cr.join; rw [if_neg (by decide)]; exact Nat.xor_zero _
  have j1 : Cr.join 0 a x = a := by unfold Cr.join; rw [if_neg (by omega), Cr.pw_none, Nat.zero_xor]
  have j2 : Cr.join a 0 x = 0 ↔ a = 0 := by unfold Cr.join; rw [if_neg (by omega), Nat.xor_zero]; exact Cr.pw_zero_iff _ _ ha
  have hz := beq_zero _ _ j2
  clear j2
  have H1 := join_any a 0 x w ha (by decide) (by omega) (by omega)
  have H2 := join_any (Cr.join a 0 x) 0 y w hj (by decide) (by omega) (by omega)
  have H3 := join_any a 0 ((x : Int) + y) w ha (by decide) (by omega) (by omega)
  have H4 := join_any a 0 0 w ha (by decide) (by omega) (by omega)
  have H5 := join_any 0 a x w (by decide) ha (by omega) (by omega)
  rw [Cr.join_add] at H2
  rw [j0] at H4
  rw [j1] at H5
  clear j0 j1
  generalize Cr.join a 0 x = u at H1 H2 hj hz
  generalize Cr.join a 0 ((x : Int) + y) = v at H2 H3
  go_enter Try.func3, Try.ntmps3
  go_wp2_with fail
  refine H1.mono ?_
  rintro e w' ⟨rfl, rfl⟩
  go_wp2_with fail
  refine H2.mono ?_
  rintro e w' ⟨rfl, rfl⟩
  go_wp2_with fail
  refine H3.mono ?_
  rintro e w' ⟨rfl, rfl⟩
  go_wp2_with fail
  refine H4.mono ?_
  rintro e w' ⟨rfl, rfl⟩
  go_wp2_with fail
  refine H5.mono ?_
  rintro e w' ⟨rfl, rfl⟩
  go_wp2_with fail
  refine H1.mono ?_
  rintro e w' ⟨rfl, rfl⟩
  go_wp2_with fail
  refine (check_any _).mono ?_
  rintro e w' ⟨rfl, rfl⟩
  go_wp2
  go_ret
  exact ⟨rfl, Below.refl _ _⟩

set_option maxRecDepth 100000 in
theorem sumsZeros_lifted (os : Os) (started : os.Started) (H : Type) (enc : TypeId × Value → H) :
    ReturnsInHanded {} Try.checked os 3 .any (Rows.sumsZerosSpec.pre6 enc Try.prog Try.f3 Rows.sumsZerosRow.domain false) (Rows.sumsZerosSpec.post enc Try.prog Try.f3 false true false false) := by
  refine returnsInHanded_of_change (C := Try.checked) Try.own started (by kernel_rfl) Try.func3
    (ChangeSpec.witness6 (enc := enc) (C := Try.checked) false ⟨#[], #[.int .u32 0, .int .u64 0, .int .u64 0], []⟩ 8 (by kernel_rfl) (by kernel_rfl) (by kernel_rfl) (by kernel_rfl)) ?_
  intro W base args ds gs before hval0 hW hcnd _
  have hval : ∀ (j : Nat) t v, Try.f3.params[j]? = some t → args[j]? = some v → Value.okWide Try.prog W .any base t v := hval0
  have hW' := hW
  obtain ⟨p, q, hA0, hV, rfl, hfz, hnd⟩ := hW
  have hA : DataW.TrodAll enc Try.prog W 0 (fun _ => true) true Try.f3.params.toList args.toList ds p := hA0
  rw [Try.params3] at hA hval
  obtain ⟨v0, vs0, d0, ds0, p0, q0, hargs, rfl, rfl, h0, r0⟩ := trodAll_cons hA
  obtain ⟨v1, vs1, d1, ds1, p1, q1, rfl, rfl, rfl, h1, r1⟩ := trodAll_cons r0
  obtain ⟨v2, vs2, d2, ds2, p2, q2, rfl, rfl, rfl, h2, r2⟩ := trodAll_cons r1
  obtain ⟨rfl, rfl, rfl⟩ := trodAll_nil r2
  obtain rfl : args = #[v0, v1, v2] := by cases args; simp_all
  obtain ⟨rfl, rfl⟩ := trodVars_none hV
  obtain ⟨a0, rfl, rfl, rfl, w0⟩ := open_int Try.underlying22 (hval 0 22 v0 rfl rfl) h0
  obtain ⟨a1, rfl, rfl, rfl, w1⟩ := open_int Try.underlying23 (hval 1 23 v1 rfl rfl) h1
  obtain ⟨a2, rfl, rfl, rfl, w2⟩ := open_int Try.underlying23 (hval 2 23 v2 rfl rfl) h2
  clear hA0 hval0
  simp only [List.append_nil] at hW'
  refine (sumsZeros_walk a0 a1 a2 W w0 w1 w2).mono fun e W' ⟨he, bel⟩ => ?_
  subst he
  exact ⟨_, rfl, _, _, _, [], [], [], hW', trodAll_mk1 (shut_bool Try.underlying4 _), (trodAll_cons_mk (shut_int Try.underlying22 w0) (trodAll_cons_mk (shut_int Try.underlying23 w1) (trodAll_cons_mk (shut_int Try.underlying23 w2) trodAll_mk0))), rfl, bel.frame _, fun h => by cases h⟩

theorem sumsZeros_holds : Rows.SumsZerosSaid :=
  OpenClaim.holds_of_wide 3 Try.f3 rfl rfl rfl rfl rfl rfl rfl ⟨rfl, rfl, rfl, rfl, rfl⟩ rfl rfl rfl rfl rfl (by kernel_rfl) Try.func3 (by kernel_rfl)
    (of_decide_eq_true (by kernel_rfl)) (by unfold Func.isWrapper; first | (rw [if_pos (by decide +kernel)]; kernel_rfl) | (rw [if_neg (by decide +kernel)]; exact ⟨rfl, rfl⟩))
    (fun os started H enc _ => sumsZeros_lifted os started H enc)

end Go.Proofs.Ytlhmcebgfpcokab
