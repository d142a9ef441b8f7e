/- IntsLong: for every uint64 and every uint8 the call returns true: a number has as many bytes as sevens of bits are needed (P1.1). No conditions. -/
import Derived.Test.YtdeknpinjlepcabDoes
import Derived.Test.YtdeknpinjlepcabFrame
namespace Go.Proofs.Ytdeknpinjlepcab
open Go.ChangeShapes Go.WideShapes Go.ChangeAt Go.RowKit
open Go.ChangeMaps (open_string shut_string)

theorem bounds_u64 {n : Int} (h : (Lit.int .u64 n).wf = true) : 0 ≤ n ∧ n ≤ 18446744073709551615 := by
  simp [Lit.wf, IntKind.min, IntKind.max, IntKind.signed, IntKind.bits] at h
  omega

/-- What is left to count: the bytes of x, none where x is 0. -/
def left (f x : Nat) : Nat := if x = 0 then 0 else (Vi.vb f x).length

/-- What holds at each round: d rounds were had, x is left. -/
def Counted (n d x : Nat) : Prop := ∃ f, x < 128 ^ (f + 1) ∧ d ≤ 9 ∧ f + d ≤ 8 + 1 ∧ (Vi.enc n).length = d + 1 + left f x

theorem counted_start (n : Nat) (h : n < 9223372036854775808) : Counted n 0 (n / 128) := by
  refine ⟨8, by omega, by omega, by omega, ?_⟩
  unfold Vi.enc left
  by_cases hs : n < 128
  · rw [Vi.vb_small _ _ hs, if_pos (by omega)]; simp
  · rw [Vi.vb_big _ _ (by omega), if_neg (by omega), List.length_cons]; omega

theorem counted_step (n d x : Nat) (hx : 0 < x) (h : Counted n d x) : Counted n (d + 1) (x / 128) := by
  obtain ⟨f, h1, h2, h3, h4⟩ := h
  have hl := Vi.enc_len n
  unfold left at h4
  rw [if_neg (by omega)] at h4
  by_cases hs : x < 128
  · rw [Vi.vb_small _ _ hs, List.length_singleton] at h4
    refine ⟨0, by omega, by omega, by omega, ?_⟩
    unfold left
    rw [if_pos (by omega)]
    omega
  · cases f with
    | zero => omega
    | succ f =>
      rw [Vi.vb_big _ _ (by omega), List.length_cons] at h4
      have hd : x / 128 < 128 ^ (f + 1) := by
        rw [Nat.pow_succ] at h1
        exact Nat.div_lt_of_lt_mul (by rw [Nat.mul_comm]; exact h1)
      refine ⟨f, hd, by omega, by omega, ?_⟩
      unfold left
      rw [if_neg (by omega)]
      omega

theorem counted_end (n d : Nat) (h : Counted n d 0) : (Vi.enc n).length = d + 1 := by
  obtain ⟨f, h1, h2, h3, h4⟩ := h
  simpa [left] using h4

theorem counted_le (n d x : Nat) (h : Counted n d x) : d ≤ 9 := by
  obtain ⟨f, h1, h2, h3, h4⟩ := h
  exact h2

theorem shift_facts (b c : Int) (h0 : 0 ≤ b) (h1 : b ≤ 18446744073709551615) : 0 ≤ b / 2 / 2 ^ (c % 64).toNat ∧ b / 2 / 2 ^ (c % 64).toNat ≤ 9223372036854775807 := by
  have hp : (0 : Int) < 2 ^ (c % 64).toNat := Int.pow_pos (by omega)
  have h2 : 0 ≤ b / 2 := by omega
  refine ⟨Int.ediv_nonneg h2 (by omega), ?_⟩
  have := Int.ediv_le_self (2 ^ (c % 64).toNat) h2
  omega

set_option maxHeartbeats 1000000 in
theorem intsLong_walk (b c : Int) (w0 : (Lit.int .u64 b).wf = true) (w1 : (Lit.int .u8 c).wf = true) (w : World) :
    Calls Try.prog 3 #[.int .u64 b, .int .u8 c] w fun e w' => e = .returned (.bool true) ∧ Below w.heap.size w w' := by
  have b0 := bounds_u64 w0
  have b1 := bounds_u8 w1
  clear w0 w1
  have hs := shift_facts b c b0.1 b0.2
  go_enter Try.func3, Try.ntmps3
  go_wp2_with fail
  generalize b / 2 / 2 ^ (c % 64).toNat = X at *
  obtain ⟨n, rfl⟩ := Int.eq_ofNat_of_zero_le hs.1
  have HC : Hid (Counted n 0 (n / 128)) := counted_start n (by omega)
  go_loop [7, 8] (fun a m => ∃ d x : Nat, a = .int .i64 ((d : Int) + 1) ∧ m = .int .i64 x ∧ x ≤ n ∧ Hid (Counted n d x)) (fun _ m => (intOf m).toNat)
  case atStart => exact ⟨0, n / 128, by go_num, by go_num, by omega, HC⟩
  case round =>
    obtain ⟨d, x, rfl, rfl, hx, hr⟩ := hrel
    have hd := counted_le _ _ _ hr.out
    by_cases hlt : 0 < x
    · go_wp2
      go_round
      case rel => exact ⟨d + 1, x / 128, by go_num, by go_num, by omega, counted_step n d x hlt hr.out⟩
      case measure => simp [intOf]; omega
    · obtain rfl : x = 0 := by omega
      have e := counted_end n d hr.out
      have hp : Vi.putL (n : Int) = Vi.enc n := by rw [Vi.putL, if_neg (by omega), Int.toNat_natCast]
      have H1 : Hid ((((Vi.putL (n : Int)).length : Int) == (d : Int) + 1) = true) := by rw [Hid, hp, e]; simp
      clear e hp
      go_wp2_with fail
      refine (put_any _ _ (by omega) (by omega)).mono ?_
      rintro e w1 ⟨rfl, hb1⟩
      have H2 := H1.out
      go_wp2_with fail
      refine (does_any _).mono ?_
      rintro e w3 ⟨rfl, hb3⟩
      go_wp2
      go_ret
      exact ⟨rfl, bnext hb1 hb3⟩

set_option maxRecDepth 100000 in
theorem intsLong_lifted (os : Os) (started : os.Started) (H : Type) (enc : TypeId × Value → H) :
    ReturnsInHanded {} Try.checked os 3 .any (Rows.intsLongSpec.pre6 enc Try.prog Try.f3 Rows.intsLongRow.domain false) (Rows.intsLongSpec.post enc Try.prog Try.f3 false true false false) := by
  refine returnsInHanded_of_change (C := Try.checked) Try.own started (by kernel_rfl) Try.func3
    (ChangeSpec.witness6 (enc := enc) (C := Try.checked) false ⟨#[], #[.int .u64 0, .int .u8 0], []⟩ 8 (by kernel_rfl) (by kernel_rfl) (by kernel_rfl) (by kernel_rfl)) ?_
  intro W base args ds gs before hval0 hW hcnd _
  have hval : ∀ (j : Nat) t v, Try.f3.params[j]? = some t → args[j]? = some v → Value.okWide Try.prog W .any base t v := hval0
  have hW' := hW
  obtain ⟨p, q, hA0, hV, rfl, hfz, hnd⟩ := hW
  have hA : DataW.TrodAll enc Try.prog W 0 (fun _ => true) true Try.f3.params.toList args.toList ds p := hA0
  rw [Try.params3] at hA hval
  obtain ⟨v0, vs0, d0, ds0, p0, q0, hargs, rfl, rfl, h0, r0⟩ := trodAll_cons hA
  obtain ⟨v1, vs1, d1, ds1, p1, q1, rfl, rfl, rfl, h1, r1⟩ := trodAll_cons r0
  obtain ⟨rfl, rfl, rfl⟩ := trodAll_nil r1
  obtain rfl : args = #[v0, v1] := by cases args; simp_all
  obtain ⟨rfl, rfl⟩ := trodVars_none hV
  obtain ⟨a0, rfl, rfl, rfl, w0⟩ := open_int Try.underlying22 (hval 0 22 v0 rfl rfl) h0
  obtain ⟨a1, rfl, rfl, rfl, w1⟩ := open_int Try.underlying5 (hval 1 5 v1 rfl rfl) h1
  clear hA0 hval0
  simp only [List.append_nil] at hW'
  refine (intsLong_walk a0 a1 w0 w1 W).mono fun e W' ⟨he, bel⟩ => ?_
  subst he
  exact ⟨_, rfl, _, _, _, [], [], [], hW', trodAll_mk1 (shut_bool Try.underlying4 _), (trodAll_cons_mk (shut_int Try.underlying22 w0) (trodAll_cons_mk (shut_int Try.underlying5 w1) trodAll_mk0)), rfl, bel.frame _, fun h => by cases h⟩

theorem intsLong_holds : Rows.IntsLongSaid :=
  OpenClaim.holds_of_wide 3 Try.f3 rfl rfl rfl rfl rfl rfl rfl ⟨rfl, rfl, rfl, rfl, rfl⟩ rfl rfl rfl rfl rfl (by kernel_rfl) Try.func3 (by kernel_rfl)
    (of_decide_eq_true (by kernel_rfl)) (by unfold Func.isWrapper; first | (rw [if_pos (by decide +kernel)]; kernel_rfl) | (rw [if_neg (by decide +kernel)]; exact ⟨rfl, rfl⟩))
    (fun os started H enc _ => intsLong_lifted os started H enc)

end Go.Proofs.Ytdeknpinjlepcab
