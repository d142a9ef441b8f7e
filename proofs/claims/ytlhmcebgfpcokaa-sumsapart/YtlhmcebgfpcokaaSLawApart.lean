/- SumsApart: for every two uint32 and every int the call returns true: what they are joined to is the document's (P3.2). No conditions. -/
import Derived.Test.YtlhmcebgfpcokaaSByte
import Derived.Test.YtlhmcebgfpcokaaSRef
namespace Go.Proofs.Ytlhmcebgfpcokaa
open Go.ChangeShapes Go.WideShapes Go.ChangeAt Go.RowKit

theorem join_bytes (a b n : Nat) : Cr.goes a (List.replicate n 0) ^^^ b = Cr.join a b n := by
  unfold Cr.join
  rw [if_neg (by omega), Int.toNat_natCast, Cr.goes_zeros]

set_option maxHeartbeats 1000000 in
theorem rjoin_any (a b : Nat) (n : Int) (w : World) (ha : a < 4294967296) (hb : b < 4294967296) (h0 : -9223372036854775808 ≤ n) (h1 : n ≤ 12000) :
    Calls Try.prog 15 #[.int .u32 a, .int .u32 b, .int .i64 n] w fun e w' => e = .returned (.int .u32 (Cr.join a b n)) ∧ Below w.heap.size w w' := by
  by_cases hn : n < 0
  · have e : Cr.join a b n = 0 := if_pos hn
    rw [e]
    go_enter Try.func15, Try.ntmps15
    go_wp2
    go_ret
    exact ⟨rfl, Below.refl _ _⟩
  · obtain ⟨k, rfl⟩ := Int.eq_ofNat_of_zero_le (show 0 ≤ n by omega)
    obtain ⟨i0, hi, hz0, hz1, hz2⟩ := info_parts Try.info5
    have HJ : Hid _ := join_bytes a b k
    have hk : k ≤ 12000 := by omega
    go_enter Try.func15, Try.ntmps15
    go_wp2_with (at_make; refine wpList_make_full _ rfl _ _ 30 rfl w.heap.size 5 i0 (.int .u8 0) 1 Try.underlying30 hi hz0 hz1 _ _ _ _ k rfl rfl rfl rfl ?b2 ?b3 ?b4 ?_)
    case b2 => omega
    case b3 => unfold maxLen; omega
    intro w1 hown hgrow
    rw [made_zeros] at hown
    have hbel : Below w.heap.size w w1 := (Below.refl _ _).grown hgrow (Nat.le_refl _) (by simp)
    have hc := conv_own _ _ _ _ _ (by simp) hown
    have hz : (⟨(List.replicate k 0).toArray⟩ : ByteArray).size ≤ 140737488351232 := by
      show (List.replicate k (0 : UInt8)).toArray.size ≤ _
      simp; omega
    have he : Hid ((⟨(List.replicate k 0).toArray⟩ : ByteArray).data.toList = List.replicate k 0) := rfl
    generalize (⟨(List.replicate k 0).toArray⟩ : ByteArray) = s at hc hz he
    have hbel : Hid _ := hbel
    clear hgrow hi hz0 hz1 hz2 hown
    go_wp2_with fail
    refine (goes_any _ _ _ ha hz).mono ?_
    rintro e w2 ⟨rfl, rfl⟩
    have hl := Cr.goes_lt a s.data.toList ha
    rw [he.out] at hl ⊢
    clear he
    generalize Cr.goes a (List.replicate k 0) = g at HJ hl
    have hx := xor_nat g b hl hb
    rw [HJ.out] at hx
    go_wp2
    go_ret
    exact ⟨rfl, hbel.out⟩

set_option maxHeartbeats 1000000 in
theorem sumsApart_walk (a0 b0 n : Int) (w : World) (ha0 : (Lit.int .u32 a0).wf = true) (hb0 : (Lit.int .u32 b0).wf = true) (hn0 : (Lit.int .i64 n).wf = true) :
    Calls Try.prog 4 #[.int .u32 a0, .int .u32 b0, .int .i64 n] w fun e w' => e = .returned (.bool true) ∧ Below w.heap.size w w' := by
  obtain ⟨a, rfl, ha⟩ := wf_u32 ha0
  obtain ⟨b, rfl, hb⟩ := wf_u32 hb0
  obtain ⟨h0, h1⟩ := wf_i64 hn0
  clear ha0 hb0 hn0
  by_cases h5 : 12000 < n
  · go_enter Try.func4, Try.ntmps4
    go_wp2_with fail
    refine (check_any _).mono ?_
    rintro e w' ⟨rfl, rfl⟩
    go_wp2
    go_ret
    exact ⟨rfl, Below.refl _ _⟩
  · go_enter Try.func4, Try.ntmps4
    go_wp2_with fail
    refine (join_any _ _ _ _ ha hb h0 h1).mono ?_
    rintro e w' ⟨rfl, rfl⟩
    go_wp2_with fail
    refine (rjoin_any _ _ _ _ ha hb h0 (by omega)).mono ?_
    rintro e w1 ⟨rfl, hb1⟩
    go_wp2_with fail
    refine (join_any _ _ _ _ hb ha h0 h1).mono ?_
    rintro e w' ⟨rfl, rfl⟩
    go_wp2_with fail
    refine (rjoin_any _ _ _ _ hb ha h0 (by omega)).mono ?_
    rintro e w2 ⟨rfl, hb2⟩
    go_wp2_with fail
    refine (check_any _).mono ?_
    rintro e w' ⟨rfl, rfl⟩
    go_wp2
    go_ret
    exact ⟨rfl, bnext hb1 hb2⟩

set_option maxRecDepth 100000 in
theorem sumsApart_lifted (os : Os) (started : os.Started) (H : Type) (enc : TypeId × Value → H) :
    ReturnsInHanded {} Try.checked os 4 .any (Rows.sumsApartSpec.pre6 enc Try.prog Try.f4 Rows.sumsApartRow.domain false) (Rows.sumsApartSpec.post enc Try.prog Try.f4 false true false false) := by
  refine returnsInHanded_of_change (C := Try.checked) Try.own started (by kernel_rfl) Try.func4
    (ChangeSpec.witness6 (enc := enc) (C := Try.checked) false ⟨#[], #[.int .u32 0, .int .u32 0, .int .i64 0], []⟩ 8 (by kernel_rfl) (by kernel_rfl) (by kernel_rfl) (by kernel_rfl)) ?_
  intro W base args ds gs before hval0 hW hcnd _
  have hval : ∀ (j : Nat) t v, Try.f4.params[j]? = some t → args[j]? = some v → Value.okWide Try.prog W .any base t v := hval0
  have hW' := hW
  obtain ⟨p, q, hA0, hV, rfl, hfz, hnd⟩ := hW
  have hA : DataW.TrodAll enc Try.prog W 0 (fun _ => true) true Try.f4.params.toList args.toList ds p := hA0
  rw [Try.params4] at hA hval
  obtain ⟨v0, vs0, d0, ds0, p0, q0, hargs, rfl, rfl, h0, r0⟩ := trodAll_cons hA
  obtain ⟨v1, vs1, d1, ds1, p1, q1, rfl, rfl, rfl, h1, r1⟩ := trodAll_cons r0
  obtain ⟨v2, vs2, d2, ds2, p2, q2, rfl, rfl, rfl, h2, r2⟩ := trodAll_cons r1
  obtain ⟨rfl, rfl, rfl⟩ := trodAll_nil r2
  obtain rfl : args = #[v0, v1, v2] := by cases args; simp_all
  obtain ⟨rfl, rfl⟩ := trodVars_none hV
  obtain ⟨a0, rfl, rfl, rfl, w0⟩ := open_int Try.underlying22 (hval 0 22 v0 rfl rfl) h0
  obtain ⟨a1, rfl, rfl, rfl, w1⟩ := open_int Try.underlying22 (hval 1 22 v1 rfl rfl) h1
  obtain ⟨a2, rfl, rfl, rfl, w2⟩ := open_int Try.underlying3 (hval 2 3 v2 rfl rfl) h2
  clear hA0 hval0
  simp only [List.append_nil] at hW'
  refine (sumsApart_walk a0 a1 a2 W w0 w1 w2).mono fun e W' ⟨he, bel⟩ => ?_
  subst he
  exact ⟨_, rfl, _, _, _, [], [], [], hW', trodAll_mk1 (shut_bool Try.underlying4 _), (trodAll_cons_mk (shut_int Try.underlying22 w0) (trodAll_cons_mk (shut_int Try.underlying22 w1) (trodAll_cons_mk (shut_int Try.underlying3 w2) trodAll_mk0))), rfl, bel.frame _, fun h => by cases h⟩

theorem sumsApart_holds : Rows.SumsApartSaid :=
  OpenClaim.holds_of_wide 4 Try.f4 rfl rfl rfl rfl rfl rfl rfl ⟨rfl, rfl, rfl, rfl, rfl⟩ rfl rfl rfl rfl rfl (by kernel_rfl) Try.func4 (by kernel_rfl)
    (of_decide_eq_true (by kernel_rfl)) (by unfold Func.isWrapper; first | (rw [if_pos (by decide +kernel)]; kernel_rfl) | (rw [if_neg (by decide +kernel)]; exact ⟨rfl, rfl⟩))
    (fun os started H enc _ => sumsApart_lifted os started H enc)

end Go.Proofs.Ytlhmcebgfpcokaa
