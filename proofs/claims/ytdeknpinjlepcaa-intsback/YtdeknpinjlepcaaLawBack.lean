/- IntsBack: for every int and every two strings the call returns true: what is put between any bytes is got there, up to its end, and so is the int (P1.3). No conditions. -/
import Derived.Test.YtdeknpinjlepcaaDoes
import Derived.Test.YtdeknpinjlepcaaFrame
namespace Go.Proofs.Ytdeknpinjlepcaa
open Go.ChangeShapes Go.WideShapes Go.ChangeAt Go.RowKit
open Go.ChangeMaps (open_string shut_string)

theorem mid_data (a b : ByteArray) (l : List UInt8) : (a ++ ⟨l.toArray⟩ ++ b).data.toList = a.data.toList ++ (l ++ b.data.toList) := by
  simp

theorem size_data (a : ByteArray) : a.data.toList.length = a.size := by simp

theorem readS_mid (a b : ByteArray) (u : Nat) (h : u < 2 ^ 64) : Vi.readS (a.data.toList ++ (Vi.enc u ++ b.data.toList)) a.size = (u, (a.size : Int) + (Vi.enc u).length, true) := by
  have hl := Vi.enc_len u
  refine Vi.readS_some _ a.size u _ ?_ ?_
  · simp only [List.length_append, size_data]; omega
  · rw [← size_data a, List.drop_left]
    exact Vi.dec_enc u h _

theorem getI_mid (a b : ByteArray) (n : Int) (h0 : -9223372036854775808 ≤ n) (h1 : n ≤ 9223372036854775807) :
    Vi.getI (a ++ ⟨(Vi.putI n).toArray⟩ ++ b).data.toList a.size = (n, (a.size : Int) + (Vi.putI n).length, true) := by
  rw [mid_data, Vi.getI, Vi.putI, readS_mid a b _ (Vi.fold_lt n h0 h1)]
  simp only [if_true, Vi.unfold_fold]

theorem getS_mid (a b : ByteArray) (n : Int) (h0 : 0 ≤ n) (h1 : n ≤ 9223372036854775807) :
    Vi.getS (a ++ ⟨(Vi.putL n).toArray⟩ ++ b).data.toList a.size = (n, (a.size : Int) + (Vi.putL n).length, true) := by
  have e : Vi.putL n = Vi.enc n.toNat := by rw [Vi.putL, if_neg (by omega)]
  rw [e, mid_data, Vi.getS, readS_mid a b _ (by omega)]
  simp only [true_and]
  rw [if_pos (by omega), Int.toNat_of_nonneg h0]

theorem ne_of_len {l : List UInt8} (h : 1 ≤ l.length) : l.isEmpty = false := by cases l <;> simp at h ⊢

theorem mid_size (a b : ByteArray) (l : List UInt8) : (a ++ ⟨l.toArray⟩ ++ b).size = a.size + l.length + b.size := by
  rw [← size_data, mid_data]
  simp only [List.length_append, size_data]
  omega

/-- What a box of two values, laid first, is good for later. -/
def Boxed (w : World) (x y : Value) (w1 : World) : Prop :=
  w.heap.size < w1.heap.size ∧ w1.cell? ⟨w.heap.size, 0, none⟩ = some x ∧ w1.cell? ⟨w.heap.size, 1, none⟩ = some y ∧ Below w.heap.size w w1

theorem boxed_first {w w1 : World} {x y : Value} {t : TypeId} (hb : Below (w.heap.size + 1) (w.alloc (.cells #[x, y] t)) w1) : Boxed w x y w1 := by
  have hs := hb.size
  simp at hs
  refine ⟨by omega, ?_, ?_, ((Below.refl _ _).alloc (Nat.le_refl _) _).trans (hb.mono (by omega))⟩
  · rw [hb.cell (by simp)]; simp
  · rw [hb.cell (by simp)]; simp

theorem boxed_next {w w1 w2 : World} {x y : Value} (h : Boxed w x y w1) (hb : Below w1.heap.size w1 w2) : Boxed w x y w2 := by
  obtain ⟨h1, h2, h3, h4⟩ := h
  have hs := hb.size
  refine ⟨by omega, ?_, ?_, bnext h4 hb⟩
  · rw [hb.cell h1]; exact h2
  · rw [hb.cell h1]; exact h3

theorem three_to {p : Int × Int × Bool} {n x : Int} {b : Bool} {n' x' : Int} {b' : Bool} (h : p = (n, x, b)) (h' : p = (n', x', b')) : n' = n ∧ x' = x ∧ b' = b := by
  rw [h'] at h
  simpa using h

set_option maxHeartbeats 1000000 in
theorem intsBack_walk (n : Int) (a b : ByteArray) (w0 : (Lit.int .i64 n).wf = true) (ha : a.size ≤ maxLen) (hb : b.size ≤ maxLen) (w : World) :
    Calls Try.prog 5 #[.int .i64 n, .agg #[.string a, .string b]] w fun e w' => e = .returned (.bool true) ∧ Below w.heap.size w w' := by
  have b0 := bounds_i64 w0
  clear w0
  unfold maxLen at ha hb
  by_cases h200 : a.size ≤ 200 ∧ b.size ≤ 200
  · obtain ⟨ha2, hb2⟩ := h200
    clear ha hb
    have l1 : 1 ≤ (Vi.putI n).length := (Vi.enc_len _).1
    have l2 : (Vi.putI n).length ≤ 10 := (Vi.enc_len _).2
    have l4 : (Vi.putL n).length ≤ 10 := by
      unfold Vi.putL
      split
      · simp
      · exact (Vi.enc_len _).2
    go_enter Try.func5, Try.ntmps5
    go_wp2_with fail
    refine (put_any _ _ (by omega) (by omega)).mono ?_
    rintro e w1 ⟨rfl, hb1⟩
    replace hb1 := boxed_first (by simpa using hb1)
    go_wp2_with fail
    refine (putInt_any _ _ (by omega) (by omega)).mono ?_
    rintro e w2 ⟨rfl, hb3⟩
    replace hb3 := boxed_next hb1 hb3
    clear hb1
    obtain ⟨-, c0, c1, hbel⟩ := hb3
    go_wp2_with fail
    refine (get_any _ _ _ (by rw [mid_size]; omega)).mono ?_
    rintro e w' ⟨m, x, ok, rfl, hg, rfl⟩
    go_wp2_with fail
    refine (getInt_any _ _ _ (by rw [mid_size]; omega)).mono ?_
    rintro e w' ⟨m', x', ok', rfl, hg', rfl⟩
    obtain ⟨rfl, rfl, rfl⟩ := three_to hg'.out (getI_mid a b n b0.1 b0.2)
    clear hg' c0 c1
    by_cases hn : n < 0
    · have hp : Vi.putL n = [] := by rw [Vi.putL, if_pos hn]
      clear hg
      rw [hp]
      go_wp2_with fail
      refine (does_any _).mono ?_
      rintro e w3 ⟨rfl, hb3⟩
      go_wp2
      go_ret
      exact ⟨rfl, bnext hbel hb3⟩
    · obtain ⟨rfl, rfl, rfl⟩ := three_to hg.out (getS_mid a b n (by omega) b0.2)
      clear hg
      have l3 : 1 ≤ (Vi.putL n).length := by rw [Vi.putL, if_neg hn]; exact (Vi.enc_len _).1
      have e2 := ne_of_len l3
      have hd : decide (n < 0) = false := decide_eq_false hn
      go_wp2_with fail
      refine (does_any _).mono ?_
      rintro e w3 ⟨rfl, hb3⟩
      go_wp2
      go_ret
      exact ⟨rfl, bnext hbel hb3⟩
  · by_cases h1 : a.size ≤ 200
    · have h2 : 200 < b.size := by omega
      clear h200
      go_enter Try.func5, Try.ntmps5
      go_wp2
      go_ret
      exact ⟨rfl, (Below.refl _ _).alloc (Nat.le_refl _) _⟩
    · clear h200
      go_enter Try.func5, Try.ntmps5
      go_wp2
      go_ret
      exact ⟨rfl, (Below.refl _ _).alloc (Nat.le_refl _) _⟩

/-- An array of two strings, by value, opened. -/
theorem open_pair {P : Program} {w : World} {H : Type} {enc : TypeId × Value → H} {base b0 : Nat} {spare : Nat → Bool} {held : Bool} {r : Reach} {t e : TypeId} {v : Value} {d : DataW H} {p : List MemPlace}
    (ht : P.underlying t = some (.array 2 e)) (he : P.underlying e = some .string) (hC : P.cellsOf t = 2) (hE : P.cellsOf e = 1)
    (hv : Value.okWide P w r b0 t v) (h : DataW.Trod enc P w base spare held t v d p) : ∃ a b : ByteArray, v = .agg #[.string a, .string b] ∧ a.size ≤ maxLen ∧ b.size ≤ maxLen := by
  simp only [Value.okWide, ht] at hv
  obtain ⟨cs, rfl, h2, _⟩ := hv
  obtain ⟨fuel, hf⟩ := h
  obtain ⟨xs, m, _, _, hl, hlen, hi⟩ := DataW.trod_array ht hf
  have h0 := hi 0 (by omega)
  have h1 := hi 1 (by omega)
  rw [hE] at h0 h1
  obtain ⟨l⟩ := cs
  match xs, hlen with
  | [y0, y1], _ =>
    match l, h2.trans hC with
    | [v0, v1], _ =>
      simp [Value.cells] at h0 h1
      obtain ⟨a, ea, _, sa⟩ := DataW.trod_string he h0
      obtain ⟨b, eb, _, sb⟩ := DataW.trod_string he h1
      simp at ea eb
      subst ea eb
      exact ⟨a, b, rfl, sa, sb⟩

set_option maxRecDepth 100000 in
theorem intsBack_lifted (os : Os) (started : os.Started) (H : Type) (enc : TypeId × Value → H) :
    ReturnsInHanded {} Try.checked os 5 .any (Rows.intsBackSpec.pre6 enc Try.prog Try.f5 Rows.intsBackRow.domain false) (Rows.intsBackSpec.post enc Try.prog Try.f5 false true false false) := by
  refine returnsInHanded_of_change (C := Try.checked) Try.own started (by kernel_rfl) Try.func5
    (ChangeSpec.witness6 (enc := enc) (C := Try.checked) false ⟨#[], #[.int .i64 0, .agg #[.string ByteArray.empty, .string ByteArray.empty]], []⟩ 8 (by kernel_rfl) (by kernel_rfl) (by kernel_rfl) (by kernel_rfl)) ?_
  intro W base args ds gs before hval0 hW hcnd _
  have hval : ∀ (j : Nat) t v, Try.f5.params[j]? = some t → args[j]? = some v → Value.okWide Try.prog W .any base t v := hval0
  have hW' := hW
  obtain ⟨p, q, hA0, hV, rfl, hfz, hnd⟩ := hW
  have hA : DataW.TrodAll enc Try.prog W 0 (fun _ => true) true Try.f5.params.toList args.toList ds p := hA0
  rw [Try.params5] at hA hval
  obtain ⟨v0, vs0, d0, ds0, p0, q0, hargs, rfl, rfl, h0, r0⟩ := trodAll_cons hA
  obtain ⟨v1, vs1, d1, ds1, p1, q1, rfl, rfl, rfl, h1, r1⟩ := trodAll_cons r0
  obtain ⟨rfl, rfl, rfl⟩ := trodAll_nil r1
  obtain rfl : args = #[v0, v1] := by cases args; simp_all
  obtain ⟨rfl, rfl⟩ := trodVars_none hV
  obtain ⟨a0, rfl, rfl, rfl, w0⟩ := open_int Try.underlying3 (hval 0 3 v0 rfl rfl) h0
  obtain ⟨a, b, rfl, sa, sb⟩ := open_pair Try.underlying28 Try.underlying9 (by kernel_rfl) (by kernel_rfl) (hval 1 28 v1 rfl rfl) h1
  have lt1 : ∀ x ∈ p1, x.block < W.heap.size := by obtain ⟨m, hm⟩ := h1; exact DataW.trod_lt m _ _ _ hm
  clear hA0 hval0
  refine (intsBack_walk a0 a b w0 sa sb W).mono fun e W' ⟨he, bel⟩ => ?_
  subst he
  exact ⟨_, rfl, _, _, _, [], _, [], hW', trodAll_mk1 (shut_bool Try.underlying4 _), (trodAll_cons_mk (shut_int Try.underlying3 w0) (trodAll_cons_mk (Below.trod Try.laidOut (by kernel_rfl) (of_decide_eq_true (by kernel_rfl)) h1 bel lt1) trodAll_mk0)), rfl, bel.frame _, fun h => by cases h⟩

theorem intsBack_holds : Rows.IntsBackSaid :=
  OpenClaim.holds_of_wide 5 Try.f5 rfl rfl rfl rfl rfl rfl rfl ⟨rfl, rfl, rfl, rfl, rfl⟩ rfl rfl rfl rfl rfl (by kernel_rfl) Try.func5 (by kernel_rfl)
    (of_decide_eq_true (by kernel_rfl)) (by unfold Func.isWrapper; first | (rw [if_pos (by decide +kernel)]; kernel_rfl) | (rw [if_neg (by decide +kernel)]; exact ⟨rfl, rfl⟩))
    (fun os started H enc _ => intsBack_lifted os started H enc)

end Go.Proofs.Ytdeknpinjlepcaa
