/- SumsSealed: for every string and every uint32 the call returns true: a text with its sum behind it has always the same sum, with another number behind it another one (P3.3). No conditions. -/
import Derived.Test.YtlhmcebgfpcokaaSByte
namespace Go.Proofs.Ytlhmcebgfpcokaa
open Go.ChangeShapes Go.WideShapes Go.ChangeAt Go.RowKit
open Go.ChangeMaps (open_string shut_string)

theorem beq_num (a b : Nat) (h : a = 558161692 ↔ b = 0) : (((a : Int) == 558161692) == ((b : Int) == 0)) = true := by
  by_cases hb : b = 0
  · rw [h.2 hb, hb]; rfl
  · have ha : a ≠ 558161692 := fun e => hb (h.1 e)
    have e1 : ((a : Int) == 558161692) = false := by rw [beq_eq_false_iff_ne]; omega
    have e2 : ((b : Int) == 0) = false := by rw [beq_eq_false_iff_ne]; omega
    rw [e1, e2]; rfl

set_option maxHeartbeats 1000000 in
theorem sumsSealed_walk (s : ByteArray) (o0 : Int) (w : World) (hs : s.size ≤ maxLen) (ho0 : (Lit.int .u32 o0).wf = true) :
    Calls Try.prog 5 #[.string s, .int .u32 o0] w fun e w' => e = .returned (.bool true) ∧ Below w.heap.size w w' := by
  obtain ⟨o, rfl, ho⟩ := wf_u32 ho0
  clear ho0
  unfold maxLen at hs
  by_cases h5 : 12000 < s.size
  · go_enter Try.func5, Try.ntmps5
    go_wp2_with fail
    refine (check_any _).mono ?_
    rintro e w' ⟨rfl, rfl⟩
    go_wp2
    go_ret
    exact ⟨rfl, Below.refl _ _⟩
  · have HS : Hid _ := Cr.sum_sealed s.data.toList o ho
    have HA := sum_any s w (by omega)
    have hl := Cr.sum_lt s.data.toList
    generalize Cr.sum s.data.toList = u at HS HA hl
    have hx := xor_nat u o hl ho
    have hxl := Cr.xor_lt u o hl ho
    generalize u ^^^ o = n at HS hx hxl
    go_enter Try.func5, Try.ntmps5
    go_wp2_with fail
    refine HA.mono ?_
    rintro e w' ⟨rfl, rfl⟩
    have hc := conv_four w' n hxl
    have he : (⟨(Cr.four n).toArray⟩ : ByteArray).data.toList = Cr.four n := rfl
    have hz : (⟨(Cr.four n).toArray⟩ : ByteArray).size = 4 := rfl
    generalize (⟨(Cr.four n).toArray⟩ : ByteArray) = f at hc he hz
    have HB := fun W => sum_any (s ++ f) W (by rw [ByteArray.size_append]; omega)
    have ea : (s ++ f).data.toList = s.data.toList ++ Cr.four n := by rw [← he]; simp
    rw [ea] at HB
    clear ea he
    generalize Cr.sum (s.data.toList ++ Cr.four n) = x at HS HB
    have hq := beq_num x o HS.out
    have hB : Hid (∀ o, Below w'.heap.size w' (w'.alloc o)) := fun o => (Below.refl _ w').alloc (Nat.le_refl _) o
    go_wp2_with fail
    refine (HB _).mono ?_
    rintro e w2 ⟨rfl, rfl⟩
    go_wp2_with fail
    refine (check_any _).mono ?_
    rintro e w2 ⟨rfl, rfl⟩
    go_wp2
    go_ret
    exact ⟨rfl, hB.out _⟩

set_option maxRecDepth 100000 in
theorem sumsSealed_lifted (os : Os) (started : os.Started) (H : Type) (enc : TypeId × Value → H) :
    ReturnsInHanded {} Try.checked os 5 .any (Rows.sumsSealedSpec.pre6 enc Try.prog Try.f5 Rows.sumsSealedRow.domain false) (Rows.sumsSealedSpec.post enc Try.prog Try.f5 false true false false) := by
  refine returnsInHanded_of_change (C := Try.checked) Try.own started (by kernel_rfl) Try.func5
    (ChangeSpec.witness6 (enc := enc) (C := Try.checked) false ⟨#[], #[.string ByteArray.empty, .int .u32 0], []⟩ 8 (by kernel_rfl) (by kernel_rfl) (by kernel_rfl) (by kernel_rfl)) ?_
  intro W base args ds gs before hval0 hW hcnd _
  have hval : ∀ (j : Nat) t v, Try.f5.params[j]? = some t → args[j]? = some v → Value.okWide Try.prog W .any base t v := hval0
  have hW' := hW
  obtain ⟨p, q, hA0, hV, rfl, hfz, hnd⟩ := hW
  have hA : DataW.TrodAll enc Try.prog W 0 (fun _ => true) true Try.f5.params.toList args.toList ds p := hA0
  rw [Try.params5] at hA hval
  obtain ⟨v0, vs0, d0, ds0, p0, q0, hargs, rfl, rfl, h0, r0⟩ := trodAll_cons hA
  obtain ⟨v1, vs1, d1, ds1, p1, q1, rfl, rfl, rfl, h1, r1⟩ := trodAll_cons r0
  obtain ⟨rfl, rfl, rfl⟩ := trodAll_nil r1
  obtain rfl : args = #[v0, v1] := by cases args; simp_all
  obtain ⟨rfl, rfl⟩ := trodVars_none hV
  obtain ⟨a0, rfl, rfl, rfl, w0⟩ := open_string Try.underlying9 (hval 0 9 v0 rfl rfl) h0
  obtain ⟨a1, rfl, rfl, rfl, w1⟩ := open_int Try.underlying22 (hval 1 22 v1 rfl rfl) h1
  clear hA0 hval0
  simp only [List.append_nil] at hW'
  refine (sumsSealed_walk a0 a1 W w0 w1).mono fun e W' ⟨he, bel⟩ => ?_
  subst he
  exact ⟨_, rfl, _, _, _, [], [], [], hW', trodAll_mk1 (shut_bool Try.underlying4 _), (trodAll_cons_mk (shut_string Try.underlying9 w0) (trodAll_cons_mk (shut_int Try.underlying22 w1) trodAll_mk0)), rfl, bel.frame _, fun h => by cases h⟩

theorem sumsSealed_holds : Rows.SumsSealedSaid :=
  OpenClaim.holds_of_wide 5 Try.f5 rfl rfl rfl rfl rfl rfl rfl ⟨rfl, rfl, rfl, rfl, rfl⟩ rfl rfl rfl rfl rfl (by kernel_rfl) Try.func5 (by kernel_rfl)
    (of_decide_eq_true (by kernel_rfl)) (by unfold Func.isWrapper; first | (rw [if_pos (by decide +kernel)]; kernel_rfl) | (rw [if_neg (by decide +kernel)]; exact ⟨rfl, rfl⟩))
    (fun os started H enc _ => sumsSealed_lifted os started H enc)

end Go.Proofs.Ytlhmcebgfpcokaa
