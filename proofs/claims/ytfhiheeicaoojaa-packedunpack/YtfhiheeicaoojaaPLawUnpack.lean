/- PackedUnpack: for every string and all ints the call returns true: the numbers of any bytes, and each one by itself, in any width, are the document's, or refused (P4.2, P4.3). No conditions. -/
import Derived.Test.YtfhiheeicaoojaaPFrame
import Derived.Test.YtfhiheeicaoojaaPRef3
namespace Go.Proofs.Ytfhiheeicaoojaa
open Go.ChangeShapes Go.WideShapes Go.ChangeAt Go.RowKit
open Go.ChangeMaps (open_string shut_string)

set_option maxHeartbeats 2000000 in
set_option maxRecDepth 100000 in
theorem packedUnpack_walk (s : ByteArray) (m n : Int) (w : World) (hs : s.size ≤ maxLen) (_hm : (Lit.int .i64 m).wf = true) (_hn : (Lit.int .i64 n).wf = true) :
    Calls Try.prog 4 #[.string s, .int .i64 m, .int .i64 n] w fun e w' => e = .returned (.bool true) ∧ Below w.heap.size w w' := by
  unfold maxLen at hs
  clear _hm _hn
  by_cases h5 : 500 < s.size
  · go_enter Try.func4, Try.ntmps4
    go_wp2
    go_ret
    exact ⟨rfl, Below.refl _ _⟩
  · by_cases h6 : 2000 < m ∧ m ≤ 65536
    · obtain ⟨h7, h8⟩ := h6
      go_enter Try.func4, Try.ntmps4
      go_wp2
      go_ret
      exact ⟨rfl, Below.refl _ _⟩
    · have HU := fun W => unpack_any s m n W (by omega)
      have HV := fun W => runpack_any s m n W (by omega)
      have HA := fun W => at_any s m n W (by omega)
      have HB := fun W => rat_any s m n W (by omega)
      have hlen : Hid ((Pk.unpack s.data.toList m n).1.length ≤ 65536) := by
        show _ ≤ 65536
        unfold Pk.unpack
        split
        · simp
        · split
          · simp
          · split
            · rw [Pk.un_length]; omega
            · simp
      generalize (Pk.unpack s.data.toList m n).1 = l at *
      generalize (Pk.unpack s.data.toList m n).2 = er at *
      generalize (Pk.at_ s.data.toList m n).1 = x at *
      generalize (Pk.at_ s.data.toList m n).2 = ex at *
      have hd : (decide (2000 < m) && decide (m ≤ 65536)) = false := by
        by_cases h7 : 2000 < m
        · have : ¬ m ≤ 65536 := fun h => h6 ⟨h7, h⟩
          simp [this]
        · simp [h7]
      rcases Int.lt_or_le 2000 m with h7 | h7
      all_goals
        go_enter Try.func4, Try.ntmps4
        go_wp2_with fail
        refine (HU _).mono ?_
        rintro e w1 ⟨v1, rfl, i1, hb1⟩
        have i1 : Hid (Ints _ _ _) := i1
        have hb1 : Hid (Below _ _ _) := hb1
        go_wp2_with fail
        refine (HV _).mono ?_
        rintro e w2 ⟨v2, rfl, i2, hb2⟩
        have i2 : Hid (Ints _ _ _) := i2
        have i12 : Hid (Ints _ _ _) := i1.out.later hb2
        have hb2 : Hid (Below _ _ _) := bnext hb1.out hb2
        clear hb1 i1
        go_wp2_with fail
        refine (HA _).mono ?_
        rintro e w3 ⟨rfl, hb3⟩
        have i23 : Hid (Ints _ _ _) := i2.out.later hb3
        have i13 : Hid (Ints _ _ _) := i12.out.later hb3
        have hb3 : Hid (Below _ _ _) := bnext hb2.out hb3
        clear hb2 i12 i2
        go_wp2_with fail
        refine (HB _).mono ?_
        rintro e w4 ⟨rfl, rfl⟩
        go_wp2_with fail
        refine (same_any _ _ l l _ i13.out i23.out (by have := hlen.out; omega) (by have := hlen.out; omega)).mono ?_
        rintro e w5 ⟨rfl, hb5⟩
        rw [show decide (l = l) = true by simp]
        have hb5 : Hid (Below _ _ _) := bnext hb3.out hb5
        clear hb3 i13 i23
        go_wp2_with fail
        refine (does_any _).mono ?_
        rintro e w9 ⟨rfl, hb9⟩
        go_wp2
        go_ret
        exact ⟨rfl, bnext hb5.out hb9⟩

set_option maxRecDepth 100000 in
theorem packedUnpack_lifted (os : Os) (started : os.Started) (H : Type) (enc : TypeId × Value → H) :
    ReturnsInHanded {} Try.checked os 4 .any (Rows.packedUnpackSpec.pre6 enc Try.prog Try.f4 Rows.packedUnpackRow.domain false) (Rows.packedUnpackSpec.post enc Try.prog Try.f4 false true false false) := by
  refine returnsInHanded_of_change (C := Try.checked) Try.own started (by kernel_rfl) Try.func4
    (ChangeSpec.witness6 (enc := enc) (C := Try.checked) false ⟨#[], #[.string ByteArray.empty, .int .i64 0, .int .i64 0], []⟩ 8 (by kernel_rfl) (by kernel_rfl) (by kernel_rfl) (by kernel_rfl)) ?_
  intro W base args ds gs before hval0 hW hcnd _
  have hval : ∀ (j : Nat) t v, Try.f4.params[j]? = some t → args[j]? = some v → Value.okWide Try.prog W .any base t v := hval0
  have hW' := hW
  obtain ⟨p, q, hA0, hV, rfl, hfz, hnd⟩ := hW
  have hA : DataW.TrodAll enc Try.prog W 0 (fun _ => true) true Try.f4.params.toList args.toList ds p := hA0
  rw [Try.params4] at hA hval
  obtain ⟨v0, vs0, d0, ds0, p0, q0, hargs, rfl, rfl, h0, r0⟩ := trodAll_cons hA
  obtain ⟨v1, vs1, d1, ds1, p1, q1, rfl, rfl, rfl, h1, r1⟩ := trodAll_cons r0
  obtain ⟨v2, vs2, d2, ds2, p2, q2, rfl, rfl, rfl, h2, r2⟩ := trodAll_cons r1
  obtain ⟨rfl, rfl, rfl⟩ := trodAll_nil r2
  obtain rfl : args = #[v0, v1, v2] := by cases args; simp_all
  obtain ⟨rfl, rfl⟩ := trodVars_none hV
  obtain ⟨a0, rfl, rfl, rfl, w0⟩ := open_string Try.underlying9 (hval 0 9 v0 rfl rfl) h0
  obtain ⟨a1, rfl, rfl, rfl, w1⟩ := open_int Try.underlying3 (hval 1 3 v1 rfl rfl) h1
  obtain ⟨a2, rfl, rfl, rfl, w2⟩ := open_int Try.underlying3 (hval 2 3 v2 rfl rfl) h2
  clear hA0 hval0
  simp only [List.append_nil] at hW'
  refine (packedUnpack_walk a0 a1 a2 W w0 w1 w2).mono fun e W' ⟨he, bel⟩ => ?_
  subst he
  exact ⟨_, rfl, _, _, _, [], [], [], hW', trodAll_mk1 (shut_bool Try.underlying4 _), (trodAll_cons_mk (shut_string Try.underlying9 w0) (trodAll_cons_mk (shut_int Try.underlying3 w1) (trodAll_cons_mk (shut_int Try.underlying3 w2) trodAll_mk0))), rfl, bel.frame _, fun h => by cases h⟩

theorem packedUnpack_holds : Rows.PackedUnpackSaid :=
  OpenClaim.holds_of_wide 4 Try.f4 rfl rfl rfl rfl rfl rfl rfl ⟨rfl, rfl, rfl, rfl, rfl⟩ rfl rfl rfl rfl rfl (by kernel_rfl) Try.func4 (by kernel_rfl)
    (of_decide_eq_true (by kernel_rfl)) (by unfold Func.isWrapper; first | (rw [if_pos (by decide +kernel)]; kernel_rfl) | (rw [if_neg (by decide +kernel)]; exact ⟨rfl, rfl⟩))
    (fun os started H enc _ => packedUnpack_lifted os started H enc)

end Go.Proofs.Ytfhiheeicaoojaa
