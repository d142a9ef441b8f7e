/- GapsBits: for every slice of bytes the call returns true: the places of bits are a list that rises, of which each comes back (P2.1, P2.3). No conditions. -/
import Derived.Test.YtiopomhiaipniaaGFrame
namespace Go.Proofs.Ytiopomhiaipniaa
open Go.ChangeShapes Go.WideShapes Go.ChangeAt Go.RowKit

/-- A list that rises, below k. -/
def Rose (k : Nat) (L : List Int) : Prop := Gp.up (-1) L = true ∧ (∀ z ∈ L, 0 ≤ z ∧ z < k) ∧ L.length ≤ k

theorem Rose.nil : Rose 0 [] := ⟨rfl, by simp, by simp⟩
theorem Rose.skip {k : Nat} {L : List Int} (h : Rose k L) : Rose (k + 1) L := ⟨h.1, fun z hz => by have := h.2.1 z hz; omega, by have := h.2.2; omega⟩
theorem Rose.more {k : Nat} {L : List Int} (h : Rose k L) : Rose (k + 1) (L ++ [(k : Int)]) := by
  refine ⟨?_, ?_, ?_⟩
  · rw [Gp.up_snoc, h.1, Bool.true_and, decide_eq_true_iff]
    cases hl : L.getLast? with
    | none => show (-1 : Int) < k; omega
    | some z =>
      have := h.2.1 z (List.mem_of_getLast? hl)
      show z < k
      omega
  · intro z hz
    rcases List.mem_append.1 hz with hz | hz
    · have := h.2.1 z hz; omega
    · simp at hz; omega
  · have := h.2.2
    simp; omega
theorem Rose.fit {k : Nat} {L : List Int} (h : Rose k L) (hk : k ≤ 2400) : Gp.Fit L := fun z hz => by have := h.2.1 z hz; omega

theorem bits_back (L : List Int) (hu : Gp.up (-1) L = true) (hf : Gp.Fit L) (hl : L.length ≤ 2400) : Gp.dec (Gp.enc L) 0 = some (L, ((Gp.enc L).length : Int)) := by
  have := Gp.dec_enc [] [] L hu hf (by omega)
  simpa using this

set_option maxHeartbeats 4000000 in
set_option maxRecDepth 100000 in
theorem gapsBits_walk (a : Option Addr) (cap : Nat) (bs : List Int) (w : World) (hlen : bs.length ≤ maxLen) (hi : Bytes w (.slice a bs.length cap) bs) (hr : ∀ j, 0 ≤ bs.getD j 0 ∧ bs.getD j 0 ≤ 255) :
    Calls Try.prog 7 #[.slice a bs.length cap] w fun e w' => e = .returned (.bool true) ∧ Below w.heap.size w w' := by
  unfold maxLen at hlen
  obtain ⟨i0, hi0, hz0, hz1, hz2⟩ := info_parts Try.intInfo
  by_cases h300 : 300 < bs.length
  · go_enter Try.func7, Try.ntmps7
    go_wp2
    go_ret
    exact ⟨rfl, Below.refl _ _⟩
  · have HI : Hid _ := hi
    have HR : Hid _ := hr
    clear hi hr
    go_enter Try.func7, Try.ntmps7
    go_wp2
    go_loopw [3, 4] (fun v i wr => ∃ (k : Nat) (L : List Int), k ≤ 8 * bs.length ∧ i = .int .i64 k ∧ wr.ownsRow w.heap.size 3 1 v L.length (L.map (Value.int .i64)) ∧ Rose k L ∧ Below w.heap.size w wr) (fun _ i _ => 8 * bs.length - (intOf i).toNat)
    case atStart => exact ⟨0, [], Nat.zero_le _, rfl, World.ownsRow_nil _ _ _ _, Rose.nil, Below.refl _ _⟩
    case round =>
      obtain ⟨k, L, hk, rfl, hown, hro, hbel⟩ := hrel
      have HO : Hid _ := hro
      clear hro
      have hLk : L.length ≤ k := HO.out.2.2
      by_cases hlt : k < 8 * bs.length
      · have hj : k / 8 < bs.length := by omega
        obtain ⟨a', cap', e, hc⟩ := HI.out
        simp only [Value.slice.injEq] at e
        obtain ⟨rfl, _, rfl⟩ := e
        obtain ⟨b, off, rfl, hb, hc⟩ := hc.resolve_left (by rintro rfl; simp at hj)
        have hc1 := cell_after hbel (hc (k / 8) hj)
        have hr1 := HR.out (k / 8)
        clear hc
        generalize bs.getD (k / 8) 0 = z at *
        go_wp2_with (at_builtin; refine wpList_append_own _ rfl _ _ 22 rfl w.heap.size 3 i0 (.int .i64 0) 1 8 Try.underlying22 hi0 hz0 hz1 hz2 rfl (by decide) _ _ _ rfl (hown.alloc _) ⟨wr.heap.size, 0, none⟩ 1 1 [.int .i64 k] rfl rfl (cell_one_new _ _ _) (by simp [Value.oneCell']) (by unfold maxLen; omega) (by omega) (by have := hbel.size; simp; omega) ?_; intro v' w1 hown1 hgrow1 _)
        · refine ⟨⟨k + 1, L ++ [(k : Int)], by omega, by go_num, by simpa using hown1, Rose.more HO.out, ?_⟩, by simp [intOf]; omega⟩
          exact (hbel.alloc hbel.size _).grown hgrow1 (by have := hbel.size; simp; omega) (fun q e => (hown.lt q e).1)
        · exact ⟨⟨k + 1, L, by omega, by go_num, hown, Rose.skip HO.out, hbel⟩, by simp [intOf]; omega⟩
      · obtain rfl : k = 8 * bs.length := by omega
        have iL := Ints.of_own hown
        have hu := HO.out.1
        have hf := Rose.fit HO.out (by omega)
        have sl := Gp.enc_len L
        have HB : Hid _ := bits_back L hu hf (by omega)
        go_wp2_with fail
        refine (encode_any _ L _ iL hf (by omega)).mono ?_
        rintro e w1 ⟨rfl, hb1⟩
        rw [encS_yes hu, err_yes hu]
        replace iL := iL.later hb1
        replace hb1 := bnext hbel hb1
        generalize Gp.enc L = s at *
        go_wp2_with fail
        refine (decode_any _ _ _ (by simp [ByteArray.size]; omega)).mono ?_
        rintro e w2 ⟨v, n, er, rfl, ht, hb2⟩
        obtain ⟨iv, rfl, rfl⟩ := told_some ht HB.out
        replace iL := iL.later hb2
        replace hb2 := bnext hb1 hb2
        clear hb1 ht
        go_wp2_with fail
        refine (check_any _ L _ iL hf (by omega)).mono ?_
        rintro e w3 ⟨rfl, rfl⟩
        rw [err_yes hu]
        go_wp2_with fail
        refine (same_any _ _ L L _ iv iL (by omega) (by omega)).mono ?_
        rintro e w5 ⟨rfl, hb5⟩
        rw [show decide (L = L) = true by simp]
        replace hb5 := bnext hb2 hb5
        go_wp2_with fail
        refine (does_any _).mono ?_
        rintro e w9 ⟨rfl, hb9⟩
        go_wp2
        go_ret
        exact ⟨rfl, bnext hb5 hb9⟩

set_option maxRecDepth 100000 in
theorem gapsBits_lifted (os : Os) (started : os.Started) (H : Type) (enc : TypeId × Value → H) :
    ReturnsInHanded {} Try.checked os 7 .any (Rows.gapsBitsSpec.pre6 enc Try.prog Try.f7 Rows.gapsBitsRow.domain false) (Rows.gapsBitsSpec.post enc Try.prog Try.f7 false true false false) := by
  refine returnsInHanded_of_change (C := Try.checked) Try.own started (by kernel_rfl) Try.func7
    (ChangeSpec.witness6 (enc := enc) (C := Try.checked) false ⟨#[], #[.slice none 0 0], []⟩ 8 (by kernel_rfl) (by kernel_rfl) (by kernel_rfl) (by kernel_rfl)) ?_
  intro W base args ds gs before hval0 hW hcnd _
  have hval : ∀ (j : Nat) t v, Try.f7.params[j]? = some t → args[j]? = some v → Value.okWide Try.prog W .any base t v := hval0
  have hW' := hW
  obtain ⟨p, q, hA0, hV, rfl, hfz, hnd⟩ := hW
  have hA : DataW.TrodAll enc Try.prog W 0 (fun _ => true) true Try.f7.params.toList args.toList ds p := hA0
  rw [Try.params7] at hA hval
  obtain ⟨v0, vs0, d0, ds0, p0, q0, hargs, rfl, rfl, h0, r0⟩ := trodAll_cons hA
  obtain ⟨rfl, rfl, rfl⟩ := trodAll_nil r0
  obtain rfl : args = #[v0] := by cases args; simp_all
  obtain ⟨rfl, rfl⟩ := trodVars_none hV
  obtain ⟨a0, len0, cap0, rfl⟩ := okWide_slice Try.underlying38 (hval 0 38 v0 rfl rfl)
  have lt0 : ∀ x ∈ p0, x.block < W.heap.size := by obtain ⟨m, hm⟩ := h0; exact DataW.trod_lt m _ _ _ hm
  obtain ⟨z0, w0⟩ : ∃ zs, IsRow .u8 W a0 len0 cap0 zs := by
    obtain ⟨fuel, hf⟩ := h0
    rcases open_ints Try.underlying38 Try.underlying5 (by kernel_rfl) hf with ⟨hcs, _⟩ | ⟨x, l, c, zs, hcs, _, hl, hm, hz, _, hcell, hwz⟩
    · simp [Value.cells] at hcs
      obtain ⟨rfl, rfl, rfl⟩ := hcs
      exact ⟨[], .inl ⟨rfl, rfl, rfl, rfl⟩⟩
    · simp [Value.cells] at hcs
      obtain ⟨rfl, rfl, rfl⟩ := hcs
      exact ⟨zs, .inr ⟨_, rfl, hl, hm, by simpa using hz, hcell, hwz⟩⟩
  obtain ⟨l0, rfl, n0, k0, f0⟩ := bytes_of_row w0
  clear hA0 hval0
  refine (gapsBits_walk a0 cap0 l0 W n0 k0 f0).mono fun e W' ⟨he, bel⟩ => ?_
  subst he
  exact ⟨_, rfl, _, _, _, [], _, [], hW', trodAll_mk1 (shut_bool Try.underlying4 _), (trodAll_cons_mk (Below.trod Try.laidOut (by kernel_rfl) (of_decide_eq_true (by kernel_rfl)) h0 bel lt0) trodAll_mk0), rfl, bel.frame _, fun h => by cases h⟩

theorem gapsBits_holds : Rows.GapsBitsSaid :=
  OpenClaim.holds_of_wide 7 Try.f7 rfl rfl rfl rfl rfl rfl rfl ⟨rfl, rfl, rfl, rfl, rfl⟩ rfl rfl rfl rfl rfl (by kernel_rfl) Try.func7 (by kernel_rfl)
    (of_decide_eq_true (by kernel_rfl)) (by unfold Func.isWrapper; first | (rw [if_pos (by decide +kernel)]; kernel_rfl) | (rw [if_neg (by decide +kernel)]; exact ⟨rfl, rfl⟩))
    (fun os started H enc _ => gapsBits_lifted os started H enc)

end Go.Proofs.Ytiopomhiaipniaa
