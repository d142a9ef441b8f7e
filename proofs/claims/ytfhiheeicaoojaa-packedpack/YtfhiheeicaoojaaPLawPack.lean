/- PackedPack: for every slice of ints and every int the call returns true: the width of any numbers, and their bytes in any width, are the document's, or refused; the list stays (P4.1, P4.2). No conditions. -/
import Derived.Test.YtfhiheeicaoojaaPTwin
import Derived.Test.YtfhiheeicaoojaaPRef2
namespace Go.Proofs.Ytfhiheeicaoojaa
open Go.ChangeShapes Go.WideShapes Go.ChangeAt Go.RowKit

set_option maxHeartbeats 2000000 in
set_option maxRecDepth 100000 in
theorem packedPack_walk (a : Option Addr) (cap : Nat) (l : List Int) (n : Int) (w : World) (hlen : l.length ≤ maxLen) (hi : Ints w (.slice a l.length cap) l) (hf : Pk.Fit l) (_hn : (Lit.int .i64 n).wf = true) :
    Calls Try.prog 3 #[.slice a l.length cap, .int .i64 n] w fun e w' => e = .returned (.bool true) ∧ Below w.heap.size w w' := by
  unfold maxLen at hlen
  by_cases h500 : 500 < l.length
  · go_enter Try.func3, Try.ntmps3
    go_wp2
    go_ret
    exact ⟨rfl, Below.refl _ _⟩
  · have HP := fun W v (h : Ints W v l) => pack_any v l n W h hf (by omega)
    have HQ := fun W v (h : Ints W v l) => rpack_any v l n W h hf (by omega)
    have HW := fun W v (h : Ints W v l) => width_any v l W h hf (by omega)
    have HV := fun W v (h : Ints W v l) => rwidth_any v l W h hf (by omega)
    generalize (⟨(Pk.pack l n).1.toArray⟩ : ByteArray) = s at *
    generalize (Pk.pack l n).2 = er at *
    generalize Pk.wid l = x at *
    clear hf
    go_enter Try.func3, Try.ntmps3
    go_wp2_with fail
    refine (twin_any _ _ l _ hi (by omega)).mono ?_
    rintro e w1 ⟨g, rfl, hrow, hb1⟩
    have it := hrow.ints
    have hc := hrow.last
    clear hrow
    go_wp2_with fail
    refine (HP _ _ it).mono ?_
    rintro e w2 ⟨rfl, hb2⟩
    replace it := it.later hb2
    replace hc := cell_after hb2 hc
    replace hb2 := bnext hb1 hb2
    clear hb1
    go_wp2_with fail
    refine (HQ _ _ (hi.later hb2)).mono ?_
    rintro e w3 ⟨rfl, hb3⟩
    replace it := it.later hb3
    replace hc := cell_after hb3 hc
    replace hb3 := bnext hb2 hb3
    clear hb2
    go_wp2_with fail
    refine (HW _ _ it).mono ?_
    rintro e w4 ⟨rfl, rfl⟩
    go_wp2_with fail
    refine (HV _ _ (hi.later hb3)).mono ?_
    rintro e w5 ⟨rfl, rfl⟩
    go_wp2_with fail
    refine (left_any _ _ _ l _ it (hi.later hb3) hc (by omega)).mono ?_
    rintro e w6 ⟨rfl, hb6⟩
    replace hb6 := bnext hb3 hb6
    clear hb3
    go_wp2_with fail
    refine (does_any _).mono ?_
    rintro e w9 ⟨rfl, hb9⟩
    go_wp2
    go_ret
    exact ⟨rfl, bnext hb6 hb9⟩

set_option maxRecDepth 100000 in
theorem packedPack_lifted (os : Os) (started : os.Started) (H : Type) (enc : TypeId × Value → H) :
    ReturnsInHanded {} Try.checked os 3 .any (Rows.packedPackSpec.pre6 enc Try.prog Try.f3 Rows.packedPackRow.domain false) (Rows.packedPackSpec.post enc Try.prog Try.f3 false true false false) := by
  refine returnsInHanded_of_change (C := Try.checked) Try.own started (by kernel_rfl) Try.func3
    (ChangeSpec.witness6 (enc := enc) (C := Try.checked) false ⟨#[], #[.slice none 0 0, .int .i64 0], []⟩ 8 (by kernel_rfl) (by kernel_rfl) (by kernel_rfl) (by kernel_rfl)) ?_
  intro W base args ds gs before hval0 hW hcnd _
  have hval : ∀ (j : Nat) t v, Try.f3.params[j]? = some t → args[j]? = some v → Value.okWide Try.prog W .any base t v := hval0
  have hW' := hW
  obtain ⟨p, q, hA0, hV, rfl, hfz, hnd⟩ := hW
  have hA : DataW.TrodAll enc Try.prog W 0 (fun _ => true) true Try.f3.params.toList args.toList ds p := hA0
  rw [Try.params3] at hA hval
  obtain ⟨v0, vs0, d0, ds0, p0, q0, hargs, rfl, rfl, h0, r0⟩ := trodAll_cons hA
  obtain ⟨v1, vs1, d1, ds1, p1, q1, rfl, rfl, rfl, h1, r1⟩ := trodAll_cons r0
  obtain ⟨rfl, rfl, rfl⟩ := trodAll_nil r1
  obtain rfl : args = #[v0, v1] := by cases args; simp_all
  obtain ⟨rfl, rfl⟩ := trodVars_none hV
  obtain ⟨a0, len0, cap0, rfl⟩ := okWide_slice Try.underlying22 (hval 0 22 v0 rfl rfl)
  have lt0 : ∀ x ∈ p0, x.block < W.heap.size := by obtain ⟨m, hm⟩ := h0; exact DataW.trod_lt m _ _ _ hm
  obtain ⟨z0, w0⟩ : ∃ zs, IsRow .i64 W a0 len0 cap0 zs := by
    obtain ⟨fuel, hf⟩ := h0
    rcases open_ints Try.underlying22 Try.underlying3 (by kernel_rfl) hf with ⟨hcs, _⟩ | ⟨x, l, c, zs, hcs, _, hl, hm, hz, _, hcell, hwz⟩
    · simp [Value.cells] at hcs
      obtain ⟨rfl, rfl, rfl⟩ := hcs
      exact ⟨[], .inl ⟨rfl, rfl, rfl, rfl⟩⟩
    · simp [Value.cells] at hcs
      obtain ⟨rfl, rfl, rfl⟩ := hcs
      exact ⟨zs, .inr ⟨_, rfl, hl, hm, by simpa using hz, hcell, hwz⟩⟩
  obtain ⟨l0, rfl, n0, k0, f0⟩ := ints_of_row w0
  obtain ⟨a1, rfl, rfl, rfl, w1⟩ := open_int Try.underlying3 (hval 1 3 v1 rfl rfl) h1
  clear hA0 hval0
  refine (packedPack_walk a0 cap0 l0 a1 W n0 k0 f0 w1).mono fun e W' ⟨he, bel⟩ => ?_
  subst he
  exact ⟨_, rfl, _, _, _, [], _, [], hW', trodAll_mk1 (shut_bool Try.underlying4 _), (trodAll_cons_mk (Below.trod Try.laidOut (by kernel_rfl) (of_decide_eq_true (by kernel_rfl)) h0 bel lt0) (trodAll_cons_mk (shut_int Try.underlying3 w1) trodAll_mk0)), rfl, bel.frame _, fun h => by cases h⟩

theorem packedPack_holds : Rows.PackedPackSaid :=
  OpenClaim.holds_of_wide 3 Try.f3 rfl rfl rfl rfl rfl rfl rfl ⟨rfl, rfl, rfl, rfl, rfl⟩ rfl rfl rfl rfl rfl (by kernel_rfl) Try.func3 (by kernel_rfl)
    (of_decide_eq_true (by kernel_rfl)) (by unfold Func.isWrapper; first | (rw [if_pos (by decide +kernel)]; kernel_rfl) | (rw [if_neg (by decide +kernel)]; exact ⟨rfl, rfl⟩))
    (fun os started H enc _ => packedPack_lifted os started H enc)

end Go.Proofs.Ytfhiheeicaoojaa
