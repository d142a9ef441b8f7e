/- GapsCut: for every slice of ints and every uint16 the call returns true: bytes of a list that are cut off are none (P2.3). No conditions. -/
import Derived.Test.YtiopomhiaipniaaGFrame
namespace Go.Proofs.Ytiopomhiaipniaa
open Go.ChangeShapes Go.WideShapes Go.ChangeAt Go.RowKit

theorem cut_told {W : World} {l : List Int} {k : Nat} {v : Value} {n er : Int} (hu : Gp.up (-1) l = true) (hf : Gp.Fit l) (hl : l.length ≤ 500) (hk : k < (Gp.enc l).length) (h : Told W (Gp.dec ((Gp.enc l).take k) 0) v n er) : er = 10 := by
  have := Gp.enc_len l
  exact (told_none h (Gp.dec_cut l k hu hf (by omega) (by omega) hk)).2.2

theorem extract_take (l : List UInt8) (k : Nat) : ((⟨l.toArray⟩ : ByteArray).extract 0 k).data.toList = l.take k := by
  rw [ByteArray.data_extract]; simp

set_option maxHeartbeats 2000000 in
theorem gapsCut_walk (a : Option Addr) (cap : Nat) (l : List Int) (cut : Int) (w : World) (hlen : l.length ≤ maxLen) (hi : Ints w (.slice a l.length cap) l) (hf : Gp.Fit l) (hwf : (Lit.int .u16 cut).wf = true) :
    Calls Try.prog 6 #[.slice a l.length cap, .int .u16 cut] w fun e w' => e = .returned (.bool true) ∧ Below w.heap.size w w' := by
  obtain ⟨hc0, hc1⟩ := wf_u16 hwf
  clear hwf
  unfold maxLen at hlen
  by_cases h500 : 500 < l.length
  · go_enter Try.func6, Try.ntmps6
    go_wp2
    go_ret
    exact ⟨rfl, Below.refl _ _⟩
  · go_enter Try.func6, Try.ntmps6
    go_wp2_with fail
    refine (encode_any _ l _ hi hf (by omega)).mono ?_
    rintro e w1 ⟨rfl, hb1⟩
    cases hu : Gp.up (-1) l with
    | false =>
      rw [encS_no hu, err_no hu]
      go_wp2_with fail
      refine (does_any _).mono ?_
      rintro e w9 ⟨rfl, hb9⟩
      go_wp2
      go_ret
      exact ⟨rfl, bnext hb1 hb9⟩
    | true =>
      rw [encS_yes hu, err_yes hu]
      have hp := Gp.enc_pos l
      have hq := Gp.enc_len l
      have HT : Hid (∀ (W : World) (k : Nat) (v : Value) (n er : Int), k < (Gp.enc l).length → Told W (Gp.dec ((Gp.enc l).take k) 0) v n er → er = 10) := fun W k v n er hk h => cut_told hu hf (by omega) hk h
      have hne : (Gp.enc l).isEmpty = false := by cases hz : Gp.enc l with
        | nil => rw [hz] at hp; simp at hp
        | cons => rfl
      generalize Gp.enc l = s at *
      have h1 := Int.emod_nonneg cut (show (s.length : Int) ≠ 0 by omega)
      have h2 := Int.emod_lt_of_pos cut (show 0 < (s.length : Int) by omega)
      have HX : Hid _ := extract_take s (cut % s.length).toNat
      go_wp2_with fail
      refine (decode_any _ _ _ (by rw [← ByteArray.size_data, ← Array.length_toList, HX.out, List.length_take]; omega)).mono ?_
      rintro e w2 ⟨v, n, er, rfl, ht, hb2⟩
      rw [HX.out] at ht
      obtain rfl := HT.out _ _ _ _ _ (by omega) ht
      clear ht
      go_wp2_with fail
      refine (does_any _).mono ?_
      rintro e w9 ⟨rfl, hb9⟩
      go_wp2
      go_ret
      exact ⟨rfl, bnext (bnext hb1 hb2) hb9⟩

set_option maxRecDepth 100000 in
theorem gapsCut_lifted (os : Os) (started : os.Started) (H : Type) (enc : TypeId × Value → H) :
    ReturnsInHanded {} Try.checked os 6 .any (Rows.gapsCutSpec.pre6 enc Try.prog Try.f6 Rows.gapsCutRow.domain false) (Rows.gapsCutSpec.post enc Try.prog Try.f6 false true false false) := by
  refine returnsInHanded_of_change (C := Try.checked) Try.own started (by kernel_rfl) Try.func6
    (ChangeSpec.witness6 (enc := enc) (C := Try.checked) false ⟨#[], #[.slice none 0 0, .int .u16 0], []⟩ 8 (by kernel_rfl) (by kernel_rfl) (by kernel_rfl) (by kernel_rfl)) ?_
  intro W base args ds gs before hval0 hW hcnd _
  have hval : ∀ (j : Nat) t v, Try.f6.params[j]? = some t → args[j]? = some v → Value.okWide Try.prog W .any base t v := hval0
  have hW' := hW
  obtain ⟨p, q, hA0, hV, rfl, hfz, hnd⟩ := hW
  have hA : DataW.TrodAll enc Try.prog W 0 (fun _ => true) true Try.f6.params.toList args.toList ds p := hA0
  rw [Try.params6] at hA hval
  obtain ⟨v0, vs0, d0, ds0, p0, q0, hargs, rfl, rfl, h0, r0⟩ := trodAll_cons hA
  obtain ⟨v1, vs1, d1, ds1, p1, q1, rfl, rfl, rfl, h1, r1⟩ := trodAll_cons r0
  obtain ⟨rfl, rfl, rfl⟩ := trodAll_nil r1
  obtain rfl : args = #[v0, v1] := by cases args; simp_all
  obtain ⟨rfl, rfl⟩ := trodVars_none hV
  obtain ⟨a0, len0, cap0, rfl⟩ := okWide_slice Try.underlying22 (hval 0 22 v0 rfl rfl)
  have lt0 : ∀ x ∈ p0, x.block < W.heap.size := by obtain ⟨m, hm⟩ := h0; exact DataW.trod_lt m _ _ _ hm
  obtain ⟨z0, w0⟩ : ∃ zs, IsRow .i64 W a0 len0 cap0 zs := by
    obtain ⟨fuel, hf⟩ := h0
    rcases open_ints Try.underlying22 Try.underlying3 (by kernel_rfl) hf with ⟨hcs, _⟩ | ⟨x, l, c, zs, hcs, _, hl, hm, hz, _, hcell, hwz⟩
    · simp [Value.cells] at hcs
      obtain ⟨rfl, rfl, rfl⟩ := hcs
      exact ⟨[], .inl ⟨rfl, rfl, rfl, rfl⟩⟩
    · simp [Value.cells] at hcs
      obtain ⟨rfl, rfl, rfl⟩ := hcs
      exact ⟨zs, .inr ⟨_, rfl, hl, hm, by simpa using hz, hcell, hwz⟩⟩
  obtain ⟨l0, rfl, n0, k0, f0⟩ := ints_of_row w0
  obtain ⟨a1, rfl, rfl, rfl, w1⟩ := open_int Try.underlying36 (hval 1 36 v1 rfl rfl) h1
  clear hA0 hval0
  refine (gapsCut_walk a0 cap0 l0 a1 W n0 k0 f0 w1).mono fun e W' ⟨he, bel⟩ => ?_
  subst he
  exact ⟨_, rfl, _, _, _, [], _, [], hW', trodAll_mk1 (shut_bool Try.underlying4 _), (trodAll_cons_mk (Below.trod Try.laidOut (by kernel_rfl) (of_decide_eq_true (by kernel_rfl)) h0 bel lt0) (trodAll_cons_mk (shut_int Try.underlying36 w1) trodAll_mk0)), rfl, bel.frame _, fun h => by cases h⟩

theorem gapsCut_holds : Rows.GapsCutSaid :=
  OpenClaim.holds_of_wide 6 Try.f6 rfl rfl rfl rfl rfl rfl rfl ⟨rfl, rfl, rfl, rfl, rfl⟩ rfl rfl rfl rfl rfl (by kernel_rfl) Try.func6 (by kernel_rfl)
    (of_decide_eq_true (by kernel_rfl)) (by unfold Func.isWrapper; first | (rw [if_pos (by decide +kernel)]; kernel_rfl) | (rw [if_neg (by decide +kernel)]; exact ⟨rfl, rfl⟩))
    (fun os started H enc _ => gapsCut_lifted os started H enc)

end Go.Proofs.Ytiopomhiaipniaa
