/- PackedLength: for every uint16, uint8 and string the call returns true: bytes that are more or fewer than a table of so many numbers has are none of one (P4.2). No conditions. -/
import Derived.Test.YtfhiheeicaoojaaPFrame
namespace Go.Proofs.Ytfhiheeicaoojaa
open Go.ChangeShapes Go.WideShapes Go.ChangeAt Go.RowKit
open Go.ChangeMaps (open_string shut_string)

set_option maxHeartbeats 1000000 in
theorem packedLength_walk (t0 o0 : Int) (s : ByteArray) (w : World) (ht0 : (Lit.int .u16 t0).wf = true) (ho0 : (Lit.int .u8 o0).wf = true) (hs : s.size ≤ maxLen) :
    Calls Try.prog 7 #[.int .u16 t0, .int .u8 o0, .string s] w fun e w' => e = .returned (.bool true) ∧ Below w.heap.size w w' := by
  obtain ⟨t, rfl, ht⟩ := wf_u16 ht0
  obtain ⟨o, rfl, ho⟩ := wf_u8 ho0
  clear ht0 ho0
  unfold maxLen at hs
  by_cases h5 : 500 < s.size
  · go_enter Try.func7, Try.ntmps7
    go_wp2
    go_ret
    exact ⟨rfl, Below.refl _ _⟩
  · obtain ⟨k, hk, hk2⟩ : ∃ k : Nat, (t : Int) % 2001 = k ∧ k ≤ 2000 := ⟨t % 2001, by omega, by omega⟩
    obtain ⟨n, hn, hn2⟩ : ∃ n : Nat, (o : Int) % 33 = n ∧ n ≤ 32 := ⟨o % 33, by omega, by omega⟩
    have hkn : (k : Int) * n = ((k * n : Nat) : Int) := by simp
    have hkn2 : k * n ≤ 2000 * 32 := Nat.mul_le_mul hk2 hn2
    have HU := unpack_any s k n w (by omega)
    have hl : s.data.toList.length = s.size := by simp
    by_cases hz : s.size = (k * n + 7) / 8
    · generalize (Pk.unpack s.data.toList k n).2 = er at HU
      have hb : ((s.size : Int) == ((k * n : Nat) + 7 : Int) / 8) = true := by simp; omega
      generalize k * n = N at *
      go_enter Try.func7, Try.ntmps7
      go_wp2_with fail
      refine HU.mono ?_
      rintro e w1 ⟨v, rfl, _, hb1⟩
      have hb1 : Hid _ := hb1
      go_wp2_with fail
      refine (does_any _).mono ?_
      rintro e w2 ⟨rfl, hb2⟩
      have hb2 : Hid _ := bnext hb1.out hb2
      go_wp2
      go_ret
      exact ⟨rfl, hb2.out⟩
    · rw [Pk.unpack_no hn2 (by omega) (fun h => hz (by have := h.1; rw [hl] at this; exact this))] at HU
      have hb : ((s.size : Int) == ((k * n : Nat) + 7 : Int) / 8) = false := by simp; omega
      generalize k * n = N at *
      go_enter Try.func7, Try.ntmps7
      go_wp2_with fail
      refine HU.mono ?_
      rintro e w1 ⟨v, rfl, _, hb1⟩
      have hb1 : Hid _ := hb1
      go_wp2_with fail
      refine (does_any _).mono ?_
      rintro e w2 ⟨rfl, hb2⟩
      have hb2 : Hid _ := bnext hb1.out hb2
      go_wp2
      go_ret
      exact ⟨rfl, hb2.out⟩

set_option maxRecDepth 100000 in
theorem packedLength_lifted (os : Os) (started : os.Started) (H : Type) (enc : TypeId × Value → H) :
    ReturnsInHanded {} Try.checked os 7 .any (Rows.packedLengthSpec.pre6 enc Try.prog Try.f7 Rows.packedLengthRow.domain false) (Rows.packedLengthSpec.post enc Try.prog Try.f7 false true false false) := by
  refine returnsInHanded_of_change (C := Try.checked) Try.own started (by kernel_rfl) Try.func7
    (ChangeSpec.witness6 (enc := enc) (C := Try.checked) false ⟨#[], #[.int .u16 0, .int .u8 0, .string ByteArray.empty], []⟩ 8 (by kernel_rfl) (by kernel_rfl) (by kernel_rfl) (by kernel_rfl)) ?_
  intro W base args ds gs before hval0 hW hcnd _
  have hval : ∀ (j : Nat) t v, Try.f7.params[j]? = some t → args[j]? = some v → Value.okWide Try.prog W .any base t v := hval0
  have hW' := hW
  obtain ⟨p, q, hA0, hV, rfl, hfz, hnd⟩ := hW
  have hA : DataW.TrodAll enc Try.prog W 0 (fun _ => true) true Try.f7.params.toList args.toList ds p := hA0
  rw [Try.params7] at hA hval
  obtain ⟨v0, vs0, d0, ds0, p0, q0, hargs, rfl, rfl, h0, r0⟩ := trodAll_cons hA
  obtain ⟨v1, vs1, d1, ds1, p1, q1, rfl, rfl, rfl, h1, r1⟩ := trodAll_cons r0
  obtain ⟨v2, vs2, d2, ds2, p2, q2, rfl, rfl, rfl, h2, r2⟩ := trodAll_cons r1
  obtain ⟨rfl, rfl, rfl⟩ := trodAll_nil r2
  obtain rfl : args = #[v0, v1, v2] := by cases args; simp_all
  obtain ⟨rfl, rfl⟩ := trodVars_none hV
  obtain ⟨a0, rfl, rfl, rfl, w0⟩ := open_int Try.underlying39 (hval 0 39 v0 rfl rfl) h0
  obtain ⟨a1, rfl, rfl, rfl, w1⟩ := open_int Try.underlying5 (hval 1 5 v1 rfl rfl) h1
  obtain ⟨a2, rfl, rfl, rfl, w2⟩ := open_string Try.underlying9 (hval 2 9 v2 rfl rfl) h2
  clear hA0 hval0
  simp only [List.append_nil] at hW'
  refine (packedLength_walk a0 a1 a2 W w0 w1 w2).mono fun e W' ⟨he, bel⟩ => ?_
  subst he
  exact ⟨_, rfl, _, _, _, [], [], [], hW', trodAll_mk1 (shut_bool Try.underlying4 _), (trodAll_cons_mk (shut_int Try.underlying39 w0) (trodAll_cons_mk (shut_int Try.underlying5 w1) (trodAll_cons_mk (shut_string Try.underlying9 w2) trodAll_mk0))), rfl, bel.frame _, fun h => by cases h⟩

theorem packedLength_holds : Rows.PackedLengthSaid :=
  OpenClaim.holds_of_wide 7 Try.f7 rfl rfl rfl rfl rfl rfl rfl ⟨rfl, rfl, rfl, rfl, rfl⟩ rfl rfl rfl rfl rfl (by kernel_rfl) Try.func7 (by kernel_rfl)
    (of_decide_eq_true (by kernel_rfl)) (by unfold Func.isWrapper; first | (rw [if_pos (by decide +kernel)]; kernel_rfl) | (rw [if_neg (by decide +kernel)]; exact ⟨rfl, rfl⟩))
    (fun os started H enc _ => packedLength_lifted os started H enc)

end Go.Proofs.Ytfhiheeicaoojaa
