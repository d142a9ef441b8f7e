/- GapsTwo: for every two slices of ints the call returns true: two lists, one behind the other, are decoded one behind the other (P2.3). No conditions. -/
import Derived.Test.YtiopomhiaipniaaGFrame
namespace Go.Proofs.Ytiopomhiaipniaa
open Go.ChangeShapes Go.WideShapes Go.ChangeAt Go.RowKit

theorem app_data (s t : List UInt8) : ((⟨s.toArray⟩ : ByteArray) ++ ⟨t.toArray⟩).data.toList = s ++ t := by simp
theorem app_size (s t : List UInt8) : ((⟨s.toArray⟩ : ByteArray) ++ ⟨t.toArray⟩).size = s.length + t.length := by
  rw [← ByteArray.size_data, ← Array.length_toList, app_data, List.length_append]

theorem two_first (a b : List Int) (ha : Gp.up (-1) a = true) (fa : Gp.Fit a) (la : a.length ≤ 200) : Gp.dec (Gp.enc a ++ Gp.enc b) 0 = some (a, ((Gp.enc a).length : Int)) := by
  have := Gp.dec_enc [] (Gp.enc b) a ha fa (by omega)
  simpa using this
theorem two_next (a b : List Int) (hb : Gp.up (-1) b = true) (fb : Gp.Fit b) (lb : b.length ≤ 200) : Gp.dec (Gp.enc a ++ Gp.enc b) (Gp.enc a).length = some (b, ((Gp.enc a).length : Int) + (Gp.enc b).length) := by
  have := Gp.dec_enc (Gp.enc a) [] b hb fb (by omega)
  simpa using this

set_option maxHeartbeats 4000000 in
set_option maxRecDepth 100000 in
theorem gapsTwo_walk (a0 : Option Addr) (cap0 : Nat) (a : List Int) (a1 : Option Addr) (cap1 : Nat) (b : List Int) (w : World) (la : a.length ≤ maxLen) (ia : Ints w (.slice a0 a.length cap0) a) (fa : Gp.Fit a) (lb : b.length ≤ maxLen) (ib : Ints w (.slice a1 b.length cap1) b) (fb : Gp.Fit b) :
    Calls Try.prog 8 #[.slice a0 a.length cap0, .slice a1 b.length cap1] w fun e w' => e = .returned (.bool true) ∧ Below w.heap.size w w' := by
  unfold maxLen at la lb
  by_cases h1 : 200 < a.length
  · go_enter Try.func8, Try.ntmps8
    go_wp2
    go_ret
    exact ⟨rfl, Below.refl _ _⟩
  · by_cases h2 : 200 < b.length
    · go_enter Try.func8, Try.ntmps8
      go_wp2
      go_ret
      exact ⟨rfl, Below.refl _ _⟩
    · go_enter Try.func8, Try.ntmps8
      go_wp2_with fail
      refine (encode_any _ a _ ia fa (by omega)).mono ?_
      rintro e w1 ⟨rfl, hb1⟩
      go_wp2_with fail
      refine (encode_any _ b _ (ib.later hb1) fb (by omega)).mono ?_
      rintro e w2 ⟨rfl, hb2⟩
      replace hb2 := bnext hb1 hb2
      clear hb1
      cases ha : Gp.up (-1) a with
      | false =>
        rw [encS_no ha, err_no ha]
        generalize Gp.encS b = t at *
        generalize Gp.err b = y at *
        go_wp2_with fail
        refine (does_any _).mono ?_
        rintro e w9 ⟨rfl, hb9⟩
        go_wp2
        go_ret
        exact ⟨rfl, bnext hb2 hb9⟩
      | true =>
        cases hb : Gp.up (-1) b with
        | false =>
          rw [encS_no hb, err_no hb, err_yes ha]
          generalize Gp.encS a = t at *
          go_wp2_with fail
          refine (does_any _).mono ?_
          rintro e w9 ⟨rfl, hb9⟩
          go_wp2
          go_ret
          exact ⟨rfl, bnext hb2 hb9⟩
        | true =>
          rw [encS_yes ha, encS_yes hb, err_yes ha, err_yes hb]
          have sa := Gp.enc_len a
          have sb := Gp.enc_len b
          have HF : Hid _ := two_first a b ha fa (by omega)
          have HN : Hid _ := two_next a b hb fb (by omega)
          have heq : (Gp.enc a == Gp.enc b) = decide (a = b) := by
            rw [Bool.eq_iff_iff, beq_iff_eq, decide_eq_true_iff]
            exact ⟨Gp.enc_inj a b ha hb fa fb (by omega) (by omega), fun h => by rw [h]⟩
          have HA : Hid _ := app_data (Gp.enc a) (Gp.enc b)
          have HS : Hid _ := app_size (Gp.enc a) (Gp.enc b)
          generalize Gp.enc a = s at *
          generalize Gp.enc b = t at *
          go_wp2_with fail
          refine (decode_any _ _ _ (by rw [HS.out]; omega)).mono ?_
          rintro e w3 ⟨v, n, er, rfl, ht, hb3⟩
          rw [HA.out] at ht
          obtain ⟨iv, rfl, rfl⟩ := told_some ht HF.out
          replace hb3 := bnext hb2 hb3
          clear hb2 ht
          go_wp2_with fail
          refine (decode_any _ _ _ (by rw [HS.out]; omega)).mono ?_
          rintro e w4 ⟨v', n', er', rfl, ht, hb4⟩
          rw [HA.out] at ht
          obtain ⟨iv', rfl, rfl⟩ := told_some ht HN.out
          replace iv := iv.later hb4
          replace hb4 := bnext hb3 hb4
          clear hb3 ht
          go_wp2_with fail
          refine (same_any _ _ a a _ iv (ia.later hb4) (by omega) (by omega)).mono ?_
          rintro e w5 ⟨rfl, hb5⟩
          rw [show decide (a = a) = true by simp]
          replace iv' := iv'.later hb5
          replace hb5 := bnext hb4 hb5
          clear hb4
          go_wp2_with fail
          refine (same_any _ _ b b _ iv' (ib.later hb5) (by omega) (by omega)).mono ?_
          rintro e w6 ⟨rfl, hb6⟩
          rw [show decide (b = b) = true by simp]
          replace hb6 := bnext hb5 hb6
          clear hb5
          go_wp2_with fail
          refine (same_any _ _ a b _ (ia.later hb6) (ib.later hb6) (by omega) (by omega)).mono ?_
          rintro e w7 ⟨rfl, hb7⟩
          replace hb7 := bnext hb6 hb7
          clear hb6
          generalize decide (a = b) = z at *
          go_wp2_with fail
          refine (does_any _).mono ?_
          rintro e w9 ⟨rfl, hb9⟩
          go_wp2
          go_ret
          exact ⟨rfl, bnext hb7 hb9⟩

set_option maxRecDepth 100000 in
theorem gapsTwo_lifted (os : Os) (started : os.Started) (H : Type) (enc : TypeId × Value → H) :
    ReturnsInHanded {} Try.checked os 8 .any (Rows.gapsTwoSpec.pre6 enc Try.prog Try.f8 Rows.gapsTwoRow.domain false) (Rows.gapsTwoSpec.post enc Try.prog Try.f8 false true false false) := by
  refine returnsInHanded_of_change (C := Try.checked) Try.own started (by kernel_rfl) Try.func8
    (ChangeSpec.witness6 (enc := enc) (C := Try.checked) false ⟨#[], #[.slice none 0 0, .slice none 0 0], []⟩ 8 (by kernel_rfl) (by kernel_rfl) (by kernel_rfl) (by kernel_rfl)) ?_
  intro W base args ds gs before hval0 hW hcnd _
  have hval : ∀ (j : Nat) t v, Try.f8.params[j]? = some t → args[j]? = some v → Value.okWide Try.prog W .any base t v := hval0
  have hW' := hW
  obtain ⟨p, q, hA0, hV, rfl, hfz, hnd⟩ := hW
  have hA : DataW.TrodAll enc Try.prog W 0 (fun _ => true) true Try.f8.params.toList args.toList ds p := hA0
  rw [Try.params8] at hA hval
  obtain ⟨v0, vs0, d0, ds0, p0, q0, hargs, rfl, rfl, h0, r0⟩ := trodAll_cons hA
  obtain ⟨v1, vs1, d1, ds1, p1, q1, rfl, rfl, rfl, h1, r1⟩ := trodAll_cons r0
  obtain ⟨rfl, rfl, rfl⟩ := trodAll_nil r1
  obtain rfl : args = #[v0, v1] := by cases args; simp_all
  obtain ⟨rfl, rfl⟩ := trodVars_none hV
  obtain ⟨a0, len0, cap0, rfl⟩ := okWide_slice Try.underlying22 (hval 0 22 v0 rfl rfl)
  have lt0 : ∀ x ∈ p0, x.block < W.heap.size := by obtain ⟨m, hm⟩ := h0; exact DataW.trod_lt m _ _ _ hm
  obtain ⟨z0, w0⟩ : ∃ zs, IsRow .i64 W a0 len0 cap0 zs := by
    obtain ⟨fuel, hf⟩ := h0
    rcases open_ints Try.underlying22 Try.underlying3 (by kernel_rfl) hf with ⟨hcs, _⟩ | ⟨x, l, c, zs, hcs, _, hl, hm, hz, _, hcell, hwz⟩
    · simp [Value.cells] at hcs
      obtain ⟨rfl, rfl, rfl⟩ := hcs
      exact ⟨[], .inl ⟨rfl, rfl, rfl, rfl⟩⟩
    · simp [Value.cells] at hcs
      obtain ⟨rfl, rfl, rfl⟩ := hcs
      exact ⟨zs, .inr ⟨_, rfl, hl, hm, by simpa using hz, hcell, hwz⟩⟩
  obtain ⟨l0, rfl, n0, k0, f0⟩ := ints_of_row w0
  obtain ⟨a1, len1, cap1, rfl⟩ := okWide_slice Try.underlying22 (hval 1 22 v1 rfl rfl)
  have lt1 : ∀ x ∈ p1, x.block < W.heap.size := by obtain ⟨m, hm⟩ := h1; exact DataW.trod_lt m _ _ _ hm
  obtain ⟨z1, w1⟩ : ∃ zs, IsRow .i64 W a1 len1 cap1 zs := by
    obtain ⟨fuel, hf⟩ := h1
    rcases open_ints Try.underlying22 Try.underlying3 (by kernel_rfl) hf with ⟨hcs, _⟩ | ⟨x, l, c, zs, hcs, _, hl, hm, hz, _, hcell, hwz⟩
    · simp [Value.cells] at hcs
      obtain ⟨rfl, rfl, rfl⟩ := hcs
      exact ⟨[], .inl ⟨rfl, rfl, rfl, rfl⟩⟩
    · simp [Value.cells] at hcs
      obtain ⟨rfl, rfl, rfl⟩ := hcs
      exact ⟨zs, .inr ⟨_, rfl, hl, hm, by simpa using hz, hcell, hwz⟩⟩
  obtain ⟨l1, rfl, n1, k1, f1⟩ := ints_of_row w1
  clear hA0 hval0
  refine (gapsTwo_walk a0 cap0 l0 a1 cap1 l1 W n0 k0 f0 n1 k1 f1).mono fun e W' ⟨he, bel⟩ => ?_
  subst he
  exact ⟨_, rfl, _, _, _, [], _, [], hW', trodAll_mk1 (shut_bool Try.underlying4 _), (trodAll_cons_mk (Below.trod Try.laidOut (by kernel_rfl) (of_decide_eq_true (by kernel_rfl)) h0 bel lt0) (trodAll_cons_mk (Below.trod Try.laidOut (by kernel_rfl) (of_decide_eq_true (by kernel_rfl)) h1 bel lt1) trodAll_mk0)), rfl, bel.frame _, fun h => by cases h⟩

theorem gapsTwo_holds : Rows.GapsTwoSaid :=
  OpenClaim.holds_of_wide 8 Try.f8 rfl rfl rfl rfl rfl rfl rfl ⟨rfl, rfl, rfl, rfl, rfl⟩ rfl rfl rfl rfl rfl (by kernel_rfl) Try.func8 (by kernel_rfl)
    (of_decide_eq_true (by kernel_rfl)) (by unfold Func.isWrapper; first | (rw [if_pos (by decide +kernel)]; kernel_rfl) | (rw [if_neg (by decide +kernel)]; exact ⟨rfl, rfl⟩))
    (fun os started H enc _ => gapsTwo_lifted os started H enc)

end Go.Proofs.Ytiopomhiaipniaa
