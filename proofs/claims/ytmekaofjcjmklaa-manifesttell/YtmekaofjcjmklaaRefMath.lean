/- The plain mathematics of the document's own reading of a number (carouselref01): by the first byte below 128, by the value of the bytes up to it, by writing that anew. -/
import Derived.Test.YtmekaofjcjmklaaRefPut
namespace Go.Proofs.Ytmekaofjcjmklaa
namespace Vi

/-- What bytes are worth, seven bits a byte, the lowest first. -/
def val : List UInt8 → Nat
  | [] => 0
  | b :: r => b.toNat % 128 + 128 * val r

theorem val_lt (l : List UInt8) : val l < 128 ^ l.length := by
  induction l with
  | nil => simp [val]
  | cons b r ih => simp only [val, List.length_cons, Nat.pow_succ]; omega

theorem val_app (a b : List UInt8) : val (a ++ b) = val a + 128 ^ a.length * val b := by
  induction a with
  | nil => simp [val]
  | cons x a ih =>
    simp only [List.cons_append, val, ih, List.length_cons, Nat.pow_succ]
    rw [Nat.mul_add, Nat.mul_comm (128 ^ a.length) 128, Nat.mul_assoc]
    omega

theorem val_drop (l : List UInt8) (j : Nat) : val (l.drop j) ≤ val l := by
  induction j generalizing l with
  | zero => simp
  | succ j ih =>
    cases l with
    | nil => simp
    | cons b r =>
      rw [List.drop_succ_cons]
      have := ih r
      simp only [val]
      omega

theorem val_vb : ∀ (f v : Nat), v < 128 ^ (f + 1) → val (vb f v) = v := by
  intro f
  induction f with
  | zero =>
    intro v h
    have : (UInt8.ofNat v).toNat = v := by simp; omega
    simp only [vb, val, this]; omega
  | succ f ih =>
    intro v h
    by_cases hs : v < 128
    · have : (UInt8.ofNat v).toNat = v := by simp; omega
      rw [vb_small _ _ hs]
      simp only [val, this]; omega
    · have hd : v / 128 < 128 ^ (f + 1) := by
        rw [Nat.pow_succ] at h
        exact Nat.div_lt_of_lt_mul (by rw [Nat.mul_comm]; exact h)
      have : (UInt8.ofNat (v % 128 + 128)).toNat = v % 128 + 128 := by simp; omega
      rw [vb_big _ _ (by omega)]
      simp only [val, this, ih _ hd]; omega

theorem val_enc (n : Nat) (h : n < 2 ^ 64) : val (enc n) = n := val_vb 9 n (by omega)

/-- Where the first byte below 128 stands in the bytes of a number. -/
theorem enc_shape (n k : Nat) (h : n < 2 ^ 64) (b : UInt8) (hb : (enc n)[k]? = some b) : (k + 1 < (enc n).length → 128 ≤ b.toNat) ∧ (k + 1 = (enc n).length → b.toNat < 128 ∧ (k = 9 → b.toNat ≤ 1)) := by
  constructor
  · intro hk
    have := vb_get 9 n k hk
    unfold enc at hb
    rw [this] at hb
    obtain rfl := Option.some.inj hb
    have : (UInt8.ofNat (n / 128 ^ k % 128 + 128)).toNat = n / 128 ^ k % 128 + 128 := by simp; omega
    omega
  · intro hk
    have h1 := vb_last 9 n k hk
    have h2 := vb_top 9 n k (by omega) hk
    unfold enc at hb
    rw [h1] at hb
    obtain rfl := Option.some.inj hb
    have : (UInt8.ofNat (n / 128 ^ k)).toNat = n / 128 ^ k := by simp; omega
    refine ⟨by omega, ?_⟩
    rintro rfl
    have : (128 : Nat) ^ 9 = 9223372036854775808 := by decide
    omega

/-- Bytes ahead of the place k are 128 at least. -/
def Long (l : List UInt8) (k : Nat) : Prop := ∀ j b, j < k → l[j]? = some b → 128 ≤ b.toNat

/-- A number that stands there ends at the first byte below 128. -/
theorem dec_end (l : List UInt8) (k n m : Nat) (hL : Long l k) (hd : dec l = some (n, m)) : k < m ∧ n < 2 ^ 64 ∧ m ≤ 10 ∧ m ≤ l.length ∧ l.take m = enc n ∧ (∀ b, l[k]? = some b → b.toNat < 128 → m = k + 1) := by
  obtain ⟨hn, hm, ht, hl, h1⟩ := enc_dec l n m hd
  have hle := enc_len n
  have get : ∀ j, j < m → (enc n)[j]? = l[j]? := by
    intro j hj
    rw [← ht, List.getElem?_take, if_pos hj]
  have hkm : k < m := by
    rcases Nat.lt_or_ge k m with h | h
    · exact h
    · have hlt : m - 1 < l.length := by omega
      have hg := get (m - 1) (by omega)
      rw [List.getElem?_eq_getElem hlt] at hg
      have hs := (enc_shape n (m - 1) hn _ hg).2 (by omega)
      have := hL (m - 1) _ (by omega) (List.getElem?_eq_getElem hlt)
      omega
  refine ⟨hkm, hn, by omega, hl, ht, ?_⟩
  intro b hb hb128
  have hg := get k hkm
  rw [hb] at hg
  have hs := (enc_shape n k hn b hg).1
  omega

/-- No byte below 128: no number. -/
theorem dec_open (l : List UInt8) (hL : Long l l.length) : dec l = none := by
  cases hd : dec l with
  | none => rfl
  | some p =>
    obtain ⟨n, m⟩ := p
    have := dec_end l l.length n m hL hd
    omega

/-- Too long. -/
theorem dec_long (l : List UInt8) (k : Nat) (hL : Long l k) (hk : 9 < k) : dec l = none := by
  cases hd : dec l with
  | none => rfl
  | some p =>
    obtain ⟨n, m⟩ := p
    have := dec_end l k n m hL hd
    omega

/-- Ten bytes, the last one above 1. -/
theorem dec_ten (l : List UInt8) (b : UInt8) (hL : Long l 9) (hb : l[9]? = some b) (h1 : b.toNat < 128) (h2 : 1 < b.toNat) : dec l = none := by
  cases hd : dec l with
  | none => rfl
  | some p =>
    obtain ⟨n, m⟩ := p
    obtain ⟨g1, g2, g3, g4, g5, g6⟩ := dec_end l 9 n m hL hd
    have hm := g6 b hb h1
    have hg : (enc n)[9]? = some b := by rw [← g5, List.getElem?_take, if_pos (by omega)]; exact hb
    have hlen : (enc n).length = m := by rw [← g5, List.length_take]; omega
    have hs := (enc_shape n 9 g2 b hg).2 (by omega)
    have := hs.2 rfl
    omega

/-- What the bytes up to the first one below 128 are worth. -/
theorem val_small (l : List UInt8) (k : Nat) (hk : k ≤ 9) (b : UInt8) (hb : l[k]? = some b) (h9 : k = 9 → b.toNat ≤ 1) : val (l.take (k + 1)) < 2 ^ 64 := by
  have hlt := (List.getElem?_eq_some_iff.1 hb).1
  rcases Nat.lt_or_ge k 9 with h | h
  · have h1 := val_lt (l.take (k + 1))
    have h2 : (l.take (k + 1)).length = k + 1 := by rw [List.length_take]; omega
    rw [h2] at h1
    have h3 : 128 ^ (k + 1) ≤ 128 ^ 9 := Nat.pow_le_pow_right (by omega) (by omega)
    have : (128 : Nat) ^ 9 = 9223372036854775808 := by decide
    omega
  · obtain rfl : k = 9 := by omega
    have e : l.take (9 + 1) = l.take 9 ++ [b] := by rw [List.take_add_one, hb]; rfl
    have h2 : (l.take 9).length = 9 := by rw [List.length_take]; omega
    have h1 := val_lt (l.take 9)
    rw [e, val_app, h2]
    rw [h2] at h1
    have hb1 := h9 rfl
    have : (128 : Nat) ^ 9 = 9223372036854775808 := by decide
    rw [this] at h1 ⊢
    simp only [val]
    omega

/-- The bytes were written so: it is the number. -/
theorem dec_same (l : List UInt8) (k : Nat) (hk : k < l.length) (hv : val (l.take (k + 1)) < 2 ^ 64) (he : enc (val (l.take (k + 1))) = l.take (k + 1)) : dec l = some (val (l.take (k + 1)), k + 1) := by
  have h := dec_enc (val (l.take (k + 1))) hv (l.drop (k + 1))
  have e : enc (val (l.take (k + 1))) ++ l.drop (k + 1) = l := by rw [he, List.take_append_drop]
  have hl : (enc (val (l.take (k + 1)))).length = k + 1 := by rw [he, List.length_take]; omega
  rw [e, hl] at h
  exact h

/-- They were not: there is none. -/
theorem dec_other (l : List UInt8) (k : Nat) (hL : Long l k) (b : UInt8) (hb : l[k]? = some b) (h1 : b.toNat < 128) (he : enc (val (l.take (k + 1))) ≠ l.take (k + 1)) : dec l = none := by
  cases hd : dec l with
  | none => rfl
  | some p =>
    obtain ⟨n, m⟩ := p
    obtain ⟨g1, g2, g3, g4, g5, g6⟩ := dec_end l k n m hL hd
    have hm := g6 b hb h1
    subst hm
    exfalso
    apply he
    rw [g5, val_enc n g2]

end Vi
end Go.Proofs.Ytmekaofjcjmklaa
