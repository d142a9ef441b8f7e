/- GapsDecode: for every string and int the call returns true: the list that stands at any place of any bytes is the document's, or there is none (P2.2). No conditions. -/
import Derived.Test.YtiopomhiaipniaaGFrame
import Derived.Test.YtiopomhiaipniaaGRef2
namespace Go.Proofs.Ytiopomhiaipniaa
open Go.ChangeShapes Go.WideShapes Go.ChangeAt Go.RowKit
open Go.ChangeMaps (open_string shut_string)

/-- What is told twice is the same list, the same place, the same error. -/
theorem told_twice {W W' : World} {o : Option (List Int × Int)} {v u : Value} {n m er er' : Int} (hb : Below W.heap.size W W') (h : Told W o v n er) (h' : Told W' o u m er') (hl : ∀ l x, o = some (l, x) → l.length ≤ 1000000000000) :
    ∃ l : List Int, Ints W' v l ∧ Ints W' u l ∧ m = n ∧ er' = er ∧ l.length ≤ 1000000000000 := by
  cases o with
  | none =>
    obtain ⟨rfl, rfl, rfl⟩ := h
    obtain ⟨rfl, rfl, rfl⟩ := h'
    exact ⟨[], ints_nil _, ints_nil _, rfl, rfl, by simp⟩
  | some p =>
    obtain ⟨l, x⟩ := p
    obtain ⟨h1, rfl, rfl⟩ := h
    obtain ⟨h1', rfl, rfl⟩ := h'
    exact ⟨l, h1.later hb, h1', rfl, rfl, hl _ _ rfl⟩

set_option maxHeartbeats 2000000 in
set_option maxRecDepth 100000 in
theorem gapsDecode_walk (s : ByteArray) (i : Int) (w : World) (hs : s.size ≤ maxLen) (_ : (Lit.int .i64 i).wf = true) :
    Calls Try.prog 4 #[.string s, .int .i64 i] w fun e w' => e = .returned (.bool true) ∧ Below w.heap.size w w' := by
  unfold maxLen at hs
  by_cases h2 : 2000 < s.size
  · go_enter Try.func4, Try.ntmps4
    go_wp2
    go_ret
    exact ⟨rfl, Below.refl _ _⟩
  · go_enter Try.func4, Try.ntmps4
    go_wp2_with fail
    refine (decode_any s i _ (by omega)).mono ?_
    rintro e w1 ⟨v, n, er, rfl, ht, hb1⟩
    go_wp2_with fail
    refine (rdecode_any s i _ (by omega)).mono ?_
    rintro e w2 ⟨u, m, er', rfl, ht', hb2⟩
    obtain ⟨l, iv, iu, rfl, rfl, ll⟩ := told_twice hb2 ht ht' (fun l x h => by
      have := (Gp.enc_dec _ _ _ _ h).2.2.2.2.2.2.2
      simp only [Array.length_toList, ByteArray.size_data] at this
      omega)
    replace hb2 := bnext hb1 hb2
    clear hb1 ht ht'
    go_wp2_with fail
    refine (same_any v u l l _ iv iu ll ll).mono ?_
    rintro e w3 ⟨rfl, hb3⟩
    rw [show decide (l = l) = true by simp]
    replace hb3 := bnext hb2 hb3
    clear hb2
    go_wp2_with fail
    refine (does_any _).mono ?_
    rintro e w9 ⟨rfl, hb9⟩
    go_wp2
    go_ret
    exact ⟨rfl, bnext hb3 hb9⟩

set_option maxRecDepth 100000 in
theorem gapsDecode_lifted (os : Os) (started : os.Started) (H : Type) (enc : TypeId × Value → H) :
    ReturnsInHanded {} Try.checked os 4 .any (Rows.gapsDecodeSpec.pre6 enc Try.prog Try.f4 Rows.gapsDecodeRow.domain false) (Rows.gapsDecodeSpec.post enc Try.prog Try.f4 false true false false) := by
  refine returnsInHanded_of_change (C := Try.checked) Try.own started (by kernel_rfl) Try.func4
    (ChangeSpec.witness6 (enc := enc) (C := Try.checked) false ⟨#[], #[.string ByteArray.empty, .int .i64 0], []⟩ 8 (by kernel_rfl) (by kernel_rfl) (by kernel_rfl) (by kernel_rfl)) ?_
  intro W base args ds gs before hval0 hW hcnd _
  have hval : ∀ (j : Nat) t v, Try.f4.params[j]? = some t → args[j]? = some v → Value.okWide Try.prog W .any base t v := hval0
  have hW' := hW
  obtain ⟨p, q, hA0, hV, rfl, hfz, hnd⟩ := hW
  have hA : DataW.TrodAll enc Try.prog W 0 (fun _ => true) true Try.f4.params.toList args.toList ds p := hA0
  rw [Try.params4] at hA hval
  obtain ⟨v0, vs0, d0, ds0, p0, q0, hargs, rfl, rfl, h0, r0⟩ := trodAll_cons hA
  obtain ⟨v1, vs1, d1, ds1, p1, q1, rfl, rfl, rfl, h1, r1⟩ := trodAll_cons r0
  obtain ⟨rfl, rfl, rfl⟩ := trodAll_nil r1
  obtain rfl : args = #[v0, v1] := by cases args; simp_all
  obtain ⟨rfl, rfl⟩ := trodVars_none hV
  obtain ⟨a0, rfl, rfl, rfl, w0⟩ := open_string Try.underlying9 (hval 0 9 v0 rfl rfl) h0
  obtain ⟨a1, rfl, rfl, rfl, w1⟩ := open_int Try.underlying3 (hval 1 3 v1 rfl rfl) h1
  clear hA0 hval0
  simp only [List.append_nil] at hW'
  refine (gapsDecode_walk a0 a1 W w0 w1).mono fun e W' ⟨he, bel⟩ => ?_
  subst he
  exact ⟨_, rfl, _, _, _, [], [], [], hW', trodAll_mk1 (shut_bool Try.underlying4 _), (trodAll_cons_mk (shut_string Try.underlying9 w0) (trodAll_cons_mk (shut_int Try.underlying3 w1) trodAll_mk0)), rfl, bel.frame _, fun h => by cases h⟩

theorem gapsDecode_holds : Rows.GapsDecodeSaid :=
  OpenClaim.holds_of_wide 4 Try.f4 rfl rfl rfl rfl rfl rfl rfl ⟨rfl, rfl, rfl, rfl, rfl⟩ rfl rfl rfl rfl rfl (by kernel_rfl) Try.func4 (by kernel_rfl)
    (of_decide_eq_true (by kernel_rfl)) (by unfold Func.isWrapper; first | (rw [if_pos (by decide +kernel)]; kernel_rfl) | (rw [if_neg (by decide +kernel)]; exact ⟨rfl, rfl⟩))
    (fun os started H enc _ => gapsDecode_lifted os started H enc)

end Go.Proofs.Ytiopomhiaipniaa
