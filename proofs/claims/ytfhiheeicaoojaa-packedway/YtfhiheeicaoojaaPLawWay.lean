/- PackedWay: for every string, uint16 and uint8 the call returns true: what is unpacked was packed so (P4.4). No conditions. -/
import Derived.Test.YtfhiheeicaoojaaPFrame
namespace Go.Proofs.Ytfhiheeicaoojaa
open Go.ChangeShapes Go.WideShapes Go.ChangeAt Go.RowKit
open Go.ChangeMaps (open_string shut_string)

theorem May.fit {l : List Int} {n : Nat} (h : Pk.May l n) (hn : n ≤ 32) : Pk.Fit l := by
  intro z hz
  have h1 := h z hz
  have hp := Pk.pow32 n hn
  have e : ((2 : Int) ^ n) = ((2 ^ n : Nat) : Int) := by rw [Int.natCast_pow]; rfl
  rw [e] at h1
  omega

theorem pack_un {s : List UInt8} {n m : Nat} (hn : n ≤ 32) (hm : m ≤ 65536) (h : Pk.Ok s n m) : Pk.pack (Pk.un s n m) n = (s, 0) := by
  have hmay := Pk.may_un s n m
  have hw := (Pk.wid_le (May.fit hmay hn) n hn).2 hmay
  rw [Pk.pack_yes (by omega) (by rw [Pk.un_length]; omega), Int.toNat_natCast, Pk.pk_un h]

set_option maxHeartbeats 1000000 in
theorem packedWay_walk (s : ByteArray) (t0 o0 : Int) (w : World) (hs : s.size ≤ maxLen) (ht0 : (Lit.int .u16 t0).wf = true) (ho0 : (Lit.int .u8 o0).wf = true) :
    Calls Try.prog 6 #[.string s, .int .u16 t0, .int .u8 o0] w fun e w' => e = .returned (.bool true) ∧ Below w.heap.size w w' := by
  obtain ⟨t, rfl, ht⟩ := wf_u16 ht0
  obtain ⟨o, rfl, ho⟩ := wf_u8 ho0
  clear ht0 ho0
  unfold maxLen at hs
  by_cases h5 : 500 < s.size
  · go_enter Try.func6, Try.ntmps6
    go_wp2
    go_ret
    exact ⟨rfl, Below.refl _ _⟩
  · obtain ⟨k, hk, hk2⟩ : ∃ k : Nat, (t : Int) % 2001 = k ∧ k ≤ 2000 := ⟨t % 2001, by omega, by omega⟩
    obtain ⟨n, hn, hn2⟩ : ∃ n : Nat, (o : Int) % 33 = n ∧ n ≤ 32 := ⟨o % 33, by omega, by omega⟩
    have HU := unpack_any s k n w (by omega)
    by_cases hok : Pk.Ok s.data.toList n k
    · rw [Pk.unpack_ok hn2 (by omega) hok] at HU
      have hf := May.fit (Pk.may_un s.data.toList n k) hn2
      have hl := Pk.un_length s.data.toList n k
      have hw := (Pk.wid_le hf n hn2).2 (Pk.may_un s.data.toList n k)
      have HP : Hid (∀ W v, Ints W v (Pk.un s.data.toList n k) → Calls Try.prog 9 #[v, .int .i64 n] W fun e w' => e = .returned (.tuple #[.string s, .int .i64 0]) ∧ Below W.heap.size W w') := by
        intro W v hI
        have := pack_any v _ n W hI hf (by omega)
        rw [pack_un hn2 (by omega) hok] at this
        exact this
      have HW : Hid (∀ W v, Ints W v (Pk.un s.data.toList n k) → Calls Try.prog 11 #[v] W fun e w' => e = .returned (.int .i64 (Pk.wid (Pk.un s.data.toList n k))) ∧ w' = W) := fun W v hI => width_any v _ W hI hf (by omega)
      generalize Pk.wid (Pk.un s.data.toList n k) = x at *
      generalize Pk.un s.data.toList n k = l at *
      clear hok hf
      subst hl
      go_enter Try.func6, Try.ntmps6
      go_wp2_with fail
      refine HU.mono ?_
      rintro e w1 ⟨v, rfl, hI, hb1⟩
      have HP1 : Hid (Calls _ _ _ _ _) := HP.out w1 v hI
      have HW1 : Hid _ := fun w2 (hb : Below w1.heap.size w1 w2) => HW.out w2 v (hI.later hb)
      obtain ⟨a, cap, rfl, _⟩ := hI
      have hb1 : Hid _ := hb1
      go_wp2_with fail
      refine Calls.mono HP1.out ?_
      rintro e w2 ⟨rfl, hb2⟩
      have HW2 : Hid (Calls _ _ _ _ _) := HW1.out w2 hb2
      have hb2 : Hid _ := bnext hb1.out hb2
      clear HP1 HW1
      go_wp2_with fail
      refine Calls.mono HW2.out ?_
      rintro e w3 ⟨rfl, rfl⟩
      go_wp2_with fail
      refine (does_any _).mono ?_
      rintro e w4 ⟨rfl, hb4⟩
      have hb4 : Hid _ := bnext hb2.out hb4
      go_wp2
      go_ret
      exact ⟨rfl, hb4.out⟩
    · rw [Pk.unpack_no hn2 (by omega) hok] at HU
      go_enter Try.func6, Try.ntmps6
      go_wp2_with fail
      refine HU.mono ?_
      rintro e w1 ⟨v, rfl, hI, hb1⟩
      obtain ⟨a, cap, rfl, _⟩ := hI
      have hb1 : Hid _ := hb1
      go_wp2_with fail
      refine (does_any _).mono ?_
      rintro e w2 ⟨rfl, hb2⟩
      have hb2 : Hid _ := bnext hb1.out hb2
      go_wp2
      go_ret
      exact ⟨rfl, hb2.out⟩

set_option maxRecDepth 100000 in
theorem packedWay_lifted (os : Os) (started : os.Started) (H : Type) (enc : TypeId × Value → H) :
    ReturnsInHanded {} Try.checked os 6 .any (Rows.packedWaySpec.pre6 enc Try.prog Try.f6 Rows.packedWayRow.domain false) (Rows.packedWaySpec.post enc Try.prog Try.f6 false true false false) := by
  refine returnsInHanded_of_change (C := Try.checked) Try.own started (by kernel_rfl) Try.func6
    (ChangeSpec.witness6 (enc := enc) (C := Try.checked) false ⟨#[], #[.string ByteArray.empty, .int .u16 0, .int .u8 0], []⟩ 8 (by kernel_rfl) (by kernel_rfl) (by kernel_rfl) (by kernel_rfl)) ?_
  intro W base args ds gs before hval0 hW hcnd _
  have hval : ∀ (j : Nat) t v, Try.f6.params[j]? = some t → args[j]? = some v → Value.okWide Try.prog W .any base t v := hval0
  have hW' := hW
  obtain ⟨p, q, hA0, hV, rfl, hfz, hnd⟩ := hW
  have hA : DataW.TrodAll enc Try.prog W 0 (fun _ => true) true Try.f6.params.toList args.toList ds p := hA0
  rw [Try.params6] at hA hval
  obtain ⟨v0, vs0, d0, ds0, p0, q0, hargs, rfl, rfl, h0, r0⟩ := trodAll_cons hA
  obtain ⟨v1, vs1, d1, ds1, p1, q1, rfl, rfl, rfl, h1, r1⟩ := trodAll_cons r0
  obtain ⟨v2, vs2, d2, ds2, p2, q2, rfl, rfl, rfl, h2, r2⟩ := trodAll_cons r1
  obtain ⟨rfl, rfl, rfl⟩ := trodAll_nil r2
  obtain rfl : args = #[v0, v1, v2] := by cases args; simp_all
  obtain ⟨rfl, rfl⟩ := trodVars_none hV
  obtain ⟨a0, rfl, rfl, rfl, w0⟩ := open_string Try.underlying9 (hval 0 9 v0 rfl rfl) h0
  obtain ⟨a1, rfl, rfl, rfl, w1⟩ := open_int Try.underlying39 (hval 1 39 v1 rfl rfl) h1
  obtain ⟨a2, rfl, rfl, rfl, w2⟩ := open_int Try.underlying5 (hval 2 5 v2 rfl rfl) h2
  clear hA0 hval0
  simp only [List.append_nil] at hW'
  refine (packedWay_walk a0 a1 a2 W w0 w1 w2).mono fun e W' ⟨he, bel⟩ => ?_
  subst he
  exact ⟨_, rfl, _, _, _, [], [], [], hW', trodAll_mk1 (shut_bool Try.underlying4 _), (trodAll_cons_mk (shut_string Try.underlying9 w0) (trodAll_cons_mk (shut_int Try.underlying39 w1) (trodAll_cons_mk (shut_int Try.underlying5 w2) trodAll_mk0))), rfl, bel.frame _, fun h => by cases h⟩

theorem packedWay_holds : Rows.PackedWaySaid :=
  OpenClaim.holds_of_wide 6 Try.f6 rfl rfl rfl rfl rfl rfl rfl ⟨rfl, rfl, rfl, rfl, rfl⟩ rfl rfl rfl rfl rfl (by kernel_rfl) Try.func6 (by kernel_rfl)
    (of_decide_eq_true (by kernel_rfl)) (by unfold Func.isWrapper; first | (rw [if_pos (by decide +kernel)]; kernel_rfl) | (rw [if_neg (by decide +kernel)]; exact ⟨rfl, rfl⟩))
    (fun os started H enc _ => packedWay_lifted os started H enc)

end Go.Proofs.Ytfhiheeicaoojaa
