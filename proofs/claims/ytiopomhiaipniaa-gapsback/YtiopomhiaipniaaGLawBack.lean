/- GapsBack: for every slice of ints, every two strings and every int the call returns true: what is encoded between any bytes is decoded there, up to its end; what is decoded was encoded so (P2.3). No conditions. -/
import Derived.Test.YtiopomhiaipniaaGFrame
namespace Go.Proofs.Ytiopomhiaipniaa
open Go.ChangeShapes Go.WideShapes Go.ChangeAt Go.RowKit
open Go.ChangeMaps (open_string shut_string)

theorem size_data (a : ByteArray) : a.data.toList.length = a.size := by simp
theorem mid_data (a b : ByteArray) (l : List UInt8) : (a ++ ⟨l.toArray⟩ ++ b).data.toList = a.data.toList ++ (l ++ b.data.toList) := by
  simp
theorem mid_size (a b : ByteArray) (l : List UInt8) : (a ++ ⟨l.toArray⟩ ++ b).size = a.size + l.length + b.size := by
  rw [← size_data, mid_data]
  simp only [List.length_append, size_data]
  omega

/-- What a box of two values, laid first, is good for later. -/
def Pair (w : World) (x y : Value) (w1 : World) : Prop :=
  w.heap.size < w1.heap.size ∧ w1.cell? ⟨w.heap.size, 0, none⟩ = some x ∧ w1.cell? ⟨w.heap.size, 1, none⟩ = some y ∧ Below w.heap.size w w1

theorem pair_first {w w1 : World} {x y : Value} {t : TypeId} (hb : Below (w.heap.size + 1) (w.alloc (.cells #[x, y] t)) w1) : Pair w x y w1 := by
  have hs := hb.size
  simp at hs
  refine ⟨by omega, ?_, ?_, ((Below.refl _ _).alloc (Nat.le_refl _) _).trans (hb.mono (by omega))⟩
  · rw [hb.cell (by simp)]; simp
  · rw [hb.cell (by simp)]; simp

theorem pair_next {w w1 w2 : World} {x y : Value} (h : Pair w x y w1) (hb : Below w1.heap.size w1 w2) : Pair w x y w2 := by
  obtain ⟨h1, h2, h3, h4⟩ := h
  have hs := hb.size
  refine ⟨by omega, ?_, ?_, bnext h4 hb⟩
  · rw [hb.cell h1]; exact h2
  · rw [hb.cell h1]; exact h3

theorem cut_way (s : ByteArray) (i x : Nat) : (s.extract i x).toList = (s.data.toList.drop i).take (x - i) := by
  rw [ByteArray.toList_eq, Lib.extract_data]

theorem back_mid (a b : ByteArray) (l : List Int) (hu : Gp.up (-1) l = true) (hf : Gp.Fit l) (hl : l.length ≤ 500) : Gp.dec (a ++ ⟨(Gp.enc l).toArray⟩ ++ b).data.toList a.size = some (l, (a.size : Int) + (Gp.enc l).length) := by
  rw [mid_data, ← size_data a]
  exact Gp.dec_enc _ _ l hu hf (by omega)

/-- The second half of it: what is decoded was encoded so. -/
def Half (b : ByteArray) (i : Int) (l : List Int) (x : Int) : Prop :=
  ∃ k y : Nat, i = k ∧ x = y ∧ k < y ∧ y ≤ b.size ∧ Gp.up (-1) l = true ∧ Gp.Fit l ∧ l.length ≤ b.size ∧ ((b.extract k y).toList == Gp.enc l) = true

theorem half_of (b : ByteArray) (i : Int) (l : List Int) (x : Int) (h : Gp.dec b.data.toList i = some (l, x)) : Half b i l x := by
  obtain ⟨h0, hu, hf, hx, hxl, ht, h1, hl⟩ := Gp.enc_dec _ _ _ _ h
  rw [size_data] at hxl hl
  obtain ⟨k, rfl⟩ := Int.eq_ofNat_of_zero_le h0
  refine ⟨k, k + (Gp.enc l).length, rfl, by rw [hx]; simp, by omega, by omega, hu, hf, hl, ?_⟩
  rw [cut_way, show k + (Gp.enc l).length - k = (Gp.enc l).length by omega, beq_iff_eq]
  simpa using ht

/-- An array of two strings, by value, opened. -/
theorem open_pair {P : Program} {w : World} {H : Type} {enc : TypeId × Value → H} {base b0 : Nat} {spare : Nat → Bool} {held : Bool} {r : Reach} {t e : TypeId} {v : Value} {d : DataW H} {p : List MemPlace}
    (ht : P.underlying t = some (.array 2 e)) (he : P.underlying e = some .string) (hC : P.cellsOf t = 2) (hE : P.cellsOf e = 1)
    (hv : Value.okWide P w r b0 t v) (h : DataW.Trod enc P w base spare held t v d p) : ∃ a b : ByteArray, v = .agg #[.string a, .string b] ∧ a.size ≤ maxLen ∧ b.size ≤ maxLen := by
  simp only [Value.okWide, ht] at hv
  obtain ⟨cs, rfl, h2, _⟩ := hv
  obtain ⟨fuel, hf⟩ := h
  obtain ⟨xs, m, _, _, hl, hlen, hi⟩ := DataW.trod_array ht hf
  have h0 := hi 0 (by omega)
  have h1 := hi 1 (by omega)
  rw [hE] at h0 h1
  obtain ⟨l⟩ := cs
  match xs, hlen with
  | [y0, y1], _ =>
    match l, h2.trans hC with
    | [v0, v1], _ =>
      simp [Value.cells] at h0 h1
      obtain ⟨a, ea, _, sa⟩ := DataW.trod_string he h0
      obtain ⟨b, eb, _, sb⟩ := DataW.trod_string he h1
      simp at ea eb
      subst ea eb
      exact ⟨a, b, rfl, sa, sb⟩

set_option maxHeartbeats 4000000 in
set_option maxRecDepth 100000 in
theorem gapsBack_big (v : Value) (n cap : Nat) (a0 : Option Addr) (a b : ByteArray) (i : Int) (w : World) (hn : n ≤ 9223372036854775807) (ha : a.size ≤ 9223372036854775807) (hb : b.size ≤ 9223372036854775807) (hv : v = .slice a0 n cap) (h : 500 < n ∨ 500 < a.size ∨ 500 < b.size) :
    Calls Try.prog 5 #[v, .agg #[.string a, .string b], .int .i64 i] w fun e w' => e = .returned (.bool true) ∧ Below w.heap.size w w' := by
  subst hv
  have hB : ∀ o, Below w.heap.size w (w.alloc o) := fun o => (Below.refl _ _).alloc (Nat.le_refl _) _
  by_cases h1 : 500 < n
  · clear h
    go_enter Try.func5, Try.ntmps5
    go_wp2
    go_ret
    exact ⟨rfl, hB _⟩
  · by_cases h2 : 500 < a.size
    · clear h
      go_enter Try.func5, Try.ntmps5
      go_wp2
      go_ret
      exact ⟨rfl, hB _⟩
    · have h3 : 500 < b.size := by omega
      clear h
      go_enter Try.func5, Try.ntmps5
      go_wp2
      go_ret
      exact ⟨rfl, hB _⟩

set_option maxHeartbeats 4000000 in
set_option maxRecDepth 100000 in
theorem gapsBack_walk (a0 : Option Addr) (cap : Nat) (l : List Int) (a b : ByteArray) (i : Int) (w : World) (hlen : l.length ≤ maxLen) (hi : Ints w (.slice a0 l.length cap) l) (hf : Gp.Fit l) (ha : a.size ≤ maxLen) (hb : b.size ≤ maxLen) (hwf : (Lit.int .i64 i).wf = true) :
    Calls Try.prog 5 #[.slice a0 l.length cap, .agg #[.string a, .string b], .int .i64 i] w fun e w' => e = .returned (.bool true) ∧ Below w.heap.size w w' := by
  obtain ⟨hi0, hi1⟩ := wf_i64 hwf
  clear hwf
  unfold maxLen at hlen ha hb
  by_cases hbig : 500 < l.length ∨ 500 < a.size ∨ 500 < b.size
  · exact gapsBack_big _ l.length cap a0 a b i w hlen ha hb rfl hbig
  · have g1 : l.length ≤ 500 := by omega
    have g2 : a.size ≤ 500 := by omega
    have g3 : b.size ≤ 500 := by omega
    clear hbig
    go_enter Try.func5, Try.ntmps5
    go_wp2_with fail
    refine (encode_any _ l _ (hi.later ((Below.refl _ w).alloc (Nat.le_refl _) _)) hf (by omega)).mono ?_
    rintro e w1 ⟨rfl, hb1⟩
    have hp := pair_first (by simpa using hb1)
    clear hb1
    cases hu : Gp.up (-1) l with
    | false =>
      rw [encS_no hu, err_no hu]
      obtain ⟨-, c0, c1, -⟩ := id hp
      go_wp2_with fail
      refine (decode_any b i _ (by omega)).mono ?_
      rintro e w3 ⟨v, n, er, rfl, ht, hb3⟩
      replace hp := pair_next hp hb3
      clear c0 c1 hb3
      cases hd : Gp.dec b.data.toList i with
      | none =>
        obtain ⟨rfl, rfl, rfl⟩ := told_none ht hd
        clear ht hd
        go_wp2_with fail
        refine (does_any _).mono ?_
        rintro e w9 ⟨rfl, hb9⟩
        go_wp2
        go_ret
        exact ⟨rfl, bnext hp.2.2.2 hb9⟩
      | some q =>
        obtain ⟨m, x⟩ := q
        obtain ⟨iv, rfl, rfl⟩ := told_some ht hd
        obtain ⟨k, y, rfl, rfl, hky, hyb, mu, mf, ml, heq⟩ := half_of b i m _ hd
        clear ht hd
        go_wp2_with fail
        refine (encode_any _ m _ iv mf (by omega)).mono ?_
        rintro e w4 ⟨rfl, hb4⟩
        rw [encS_yes mu, err_yes mu]
        replace hp := pair_next hp hb4
        clear hb4
        obtain ⟨-, c0, c1, -⟩ := id hp
        generalize Gp.enc m = t at *
        go_wp2_with fail
        refine (does_any _).mono ?_
        rintro e w9 ⟨rfl, hb9⟩
        go_wp2
        go_ret
        exact ⟨rfl, bnext hp.2.2.2 hb9⟩
    | true =>
      rw [encS_yes hu, err_yes hu]
      have HM : Hid _ := back_mid a b l hu hf g1
      have HZ : Hid _ := mid_size a b (Gp.enc l)
      have sl := Gp.enc_len l
      replace hi := hi.later hp.2.2.2
      generalize Gp.enc l = s at *
      obtain ⟨-, c0, c1, -⟩ := id hp
      go_wp2_with fail
      refine (decode_any _ _ _ (by rw [HZ.out]; omega)).mono ?_
      rintro e w2 ⟨v0, n0, er0, rfl, ht, hb2⟩
      obtain ⟨iv, rfl, rfl⟩ := told_some ht HM.out
      replace hp := pair_next hp hb2
      replace hi := hi.later hb2
      clear c0 c1 hb2 ht
      go_wp2_with fail
      refine (same_any _ _ l l _ iv hi (by omega) (by omega)).mono ?_
      rintro e w2' ⟨rfl, hb2⟩
      rw [show decide (l = l) = true by simp]
      replace hp := pair_next hp hb2
      clear hb2 iv
      obtain ⟨-, c0, c1, -⟩ := id hp
      go_wp2_with fail
      refine (decode_any b i _ (by omega)).mono ?_
      rintro e w3 ⟨v, n, er, rfl, ht, hb3⟩
      replace hp := pair_next hp hb3
      clear c0 c1 hb3
      cases hd : Gp.dec b.data.toList i with
      | none =>
        obtain ⟨rfl, rfl, rfl⟩ := told_none ht hd
        clear ht hd
        go_wp2_with fail
        refine (does_any _).mono ?_
        rintro e w9 ⟨rfl, hb9⟩
        go_wp2
        go_ret
        exact ⟨rfl, bnext hp.2.2.2 hb9⟩
      | some q =>
        obtain ⟨m, x⟩ := q
        obtain ⟨iv, rfl, rfl⟩ := told_some ht hd
        obtain ⟨k, y, rfl, rfl, hky, hyb, mu, mf, ml, heq⟩ := half_of b i m _ hd
        clear ht hd
        go_wp2_with fail
        refine (encode_any _ m _ iv mf (by omega)).mono ?_
        rintro e w4 ⟨rfl, hb4⟩
        rw [encS_yes mu, err_yes mu]
        replace hp := pair_next hp hb4
        clear hb4
        obtain ⟨-, c0, c1, -⟩ := id hp
        generalize Gp.enc m = t at *
        go_wp2_with fail
        refine (does_any _).mono ?_
        rintro e w9 ⟨rfl, hb9⟩
        go_wp2
        go_ret
        exact ⟨rfl, bnext hp.2.2.2 hb9⟩

set_option maxRecDepth 100000 in
theorem gapsBack_lifted (os : Os) (started : os.Started) (H : Type) (enc : TypeId × Value → H) :
    ReturnsInHanded {} Try.checked os 5 .any (Rows.gapsBackSpec.pre6 enc Try.prog Try.f5 Rows.gapsBackRow.domain false) (Rows.gapsBackSpec.post enc Try.prog Try.f5 false true false false) := by
  refine returnsInHanded_of_change (C := Try.checked) Try.own started (by kernel_rfl) Try.func5
    (ChangeSpec.witness6 (enc := enc) (C := Try.checked) false ⟨#[], #[.slice none 0 0, .agg #[.string ByteArray.empty, .string ByteArray.empty], .int .i64 0], []⟩ 8 (by kernel_rfl) (by kernel_rfl) (by kernel_rfl) (by kernel_rfl)) ?_
  intro W base args ds gs before hval0 hW hcnd _
  have hval : ∀ (j : Nat) t v, Try.f5.params[j]? = some t → args[j]? = some v → Value.okWide Try.prog W .any base t v := hval0
  have hW' := hW
  obtain ⟨p, q, hA0, hV, rfl, hfz, hnd⟩ := hW
  have hA : DataW.TrodAll enc Try.prog W 0 (fun _ => true) true Try.f5.params.toList args.toList ds p := hA0
  rw [Try.params5] at hA hval
  obtain ⟨v0, vs0, d0, ds0, p0, q0, hargs, rfl, rfl, h0, r0⟩ := trodAll_cons hA
  obtain ⟨v1, vs1, d1, ds1, p1, q1, rfl, rfl, rfl, h1, r1⟩ := trodAll_cons r0
  obtain ⟨v2, vs2, d2, ds2, p2, q2, rfl, rfl, rfl, h2, r2⟩ := trodAll_cons r1
  obtain ⟨rfl, rfl, rfl⟩ := trodAll_nil r2
  obtain rfl : args = #[v0, v1, v2] := by cases args; simp_all
  obtain ⟨rfl, rfl⟩ := trodVars_none hV
  obtain ⟨a0, len0, cap0, rfl⟩ := okWide_slice Try.underlying22 (hval 0 22 v0 rfl rfl)
  have lt0 : ∀ x ∈ p0, x.block < W.heap.size := by obtain ⟨m, hm⟩ := h0; exact DataW.trod_lt m _ _ _ hm
  obtain ⟨z0, w0⟩ : ∃ zs, IsRow .i64 W a0 len0 cap0 zs := by
    obtain ⟨fuel, hf⟩ := h0
    rcases open_ints Try.underlying22 Try.underlying3 (by kernel_rfl) hf with ⟨hcs, _⟩ | ⟨x, l, c, zs, hcs, _, hl, hm, hz, _, hcell, hwz⟩
    · simp [Value.cells] at hcs
      obtain ⟨rfl, rfl, rfl⟩ := hcs
      exact ⟨[], .inl ⟨rfl, rfl, rfl, rfl⟩⟩
    · simp [Value.cells] at hcs
      obtain ⟨rfl, rfl, rfl⟩ := hcs
      exact ⟨zs, .inr ⟨_, rfl, hl, hm, by simpa using hz, hcell, hwz⟩⟩
  obtain ⟨l0, rfl, n0, k0, f0⟩ := ints_of_row w0
  obtain ⟨a1, b1, rfl, sa1, sb1⟩ := open_pair Try.underlying34 Try.underlying9 (by kernel_rfl) (by kernel_rfl) (hval 1 34 v1 rfl rfl) h1
  have lt1 : ∀ x ∈ p1, x.block < W.heap.size := by obtain ⟨m, hm⟩ := h1; exact DataW.trod_lt m _ _ _ hm
  obtain ⟨a2, rfl, rfl, rfl, w2⟩ := open_int Try.underlying3 (hval 2 3 v2 rfl rfl) h2
  clear hA0 hval0
  refine (gapsBack_walk a0 cap0 l0 a1 b1 a2 W n0 k0 f0 sa1 sb1 w2).mono fun e W' ⟨he, bel⟩ => ?_
  subst he
  exact ⟨_, rfl, _, _, _, [], _, [], hW', trodAll_mk1 (shut_bool Try.underlying4 _), (trodAll_cons_mk (Below.trod Try.laidOut (by kernel_rfl) (of_decide_eq_true (by kernel_rfl)) h0 bel lt0) (trodAll_cons_mk (Below.trod Try.laidOut (by kernel_rfl) (of_decide_eq_true (by kernel_rfl)) h1 bel lt1) (trodAll_cons_mk (shut_int Try.underlying3 w2) trodAll_mk0))), rfl, bel.frame _, fun h => by cases h⟩

theorem gapsBack_holds : Rows.GapsBackSaid :=
  OpenClaim.holds_of_wide 5 Try.f5 rfl rfl rfl rfl rfl rfl rfl ⟨rfl, rfl, rfl, rfl, rfl⟩ rfl rfl rfl rfl rfl (by kernel_rfl) Try.func5 (by kernel_rfl)
    (of_decide_eq_true (by kernel_rfl)) (by unfold Func.isWrapper; first | (rw [if_pos (by decide +kernel)]; kernel_rfl) | (rw [if_neg (by decide +kernel)]; exact ⟨rfl, rfl⟩))
    (fun os started H enc _ => gapsBack_lifted os started H enc)

end Go.Proofs.Ytiopomhiaipniaa
