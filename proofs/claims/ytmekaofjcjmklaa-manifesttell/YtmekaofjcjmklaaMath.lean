/- The plain mathematics of layer 1 (ints): the bytes of a number, the number at the head of bytes, and that the one undoes the other. Nothing of the program is named here. -/
import Derived.Lib.BitFns
namespace Go.Proofs.Ytmekaofjcjmklaa
namespace Vi

/-- The bytes of a number, of at most f + 1 bytes. -/
def vb : Nat → Nat → List UInt8
  | 0, u => [UInt8.ofNat u]
  | f + 1, u => if u < 128 then [UInt8.ofNat u] else UInt8.ofNat (u % 128 + 128) :: vb f (u / 128)

/-- The bytes of a number below 2^64. -/
def enc (u : Nat) : List UInt8 := vb 9 u

theorem vb_small (f u : Nat) (h : u < 128) : vb f u = [UInt8.ofNat u] := by
  cases f with
  | zero => rfl
  | succ f => simp [vb, h]

theorem vb_big (f u : Nat) (h : 128 ≤ u) : vb (f + 1) u = UInt8.ofNat (u % 128 + 128) :: vb f (u / 128) := by
  simp [vb, show ¬ u < 128 by omega]

theorem vb_ne (f u : Nat) : vb f u ≠ [] := by
  cases f with
  | zero => simp [vb]
  | succ f => unfold vb; split <;> simp

theorem vb_len (f u : Nat) : 1 ≤ (vb f u).length ∧ (vb f u).length ≤ f + 1 := by
  induction f generalizing u with
  | zero => simp [vb]
  | succ f ih =>
    by_cases h : u < 128
    · rw [vb_small _ _ h]; simp
    · rw [vb_big _ _ (by omega)]
      have := ih (u / 128)
      simp only [List.length_cons]
      omega

/-- Up to which number f + 1 bytes are enough. -/
theorem vb_bits : ∀ (f u : Nat), u < 128 ^ (f + 1) → u < 2 ^ 64 → max 1 ((Lib.bitLen u + 6) / 7) = (vb f u).length := by
  intro f
  induction f with
  | zero =>
    intro u h hu
    have h' : u < 2 ^ 7 := by simpa using h
    have := Lib.bitLen_le u 7 (by omega) h'
    simp only [vb, List.length_singleton]
    omega
  | succ f ih =>
    intro u h hu
    by_cases hs : u < 128
    · have := Lib.bitLen_le u 7 (by omega) (by simpa using hs)
      rw [vb_small _ _ hs, List.length_singleton]
      omega
    · have e := Lib.bitLen_shift 7 u (by simpa using (show 128 ≤ u by omega)) hu
      have e7 : (2 : Nat) ^ 7 = 128 := by decide
      rw [e7] at e
      have hd : u / 128 < 128 ^ (f + 1) := by
        rw [Nat.pow_succ] at h
        exact Nat.div_lt_of_lt_mul (by rw [Nat.mul_comm]; exact h)
      have i := ih (u / 128) hd (by omega)
      have hp : 1 ≤ Lib.bitLen (u / 128) := by
        have := Lib.bitLen_half (u / 128) (by omega) (by omega)
        omega
      rw [vb_big _ _ (by omega), List.length_cons, ← i, e]
      omega

theorem enc_bits (u : Nat) (h : u < 2 ^ 64) : max 1 ((Lib.bitLen u + 6) / 7) = (enc u).length :=
  vb_bits 9 u (by omega) h

theorem enc_len (u : Nat) : 1 ≤ (enc u).length ∧ (enc u).length ≤ 10 := vb_len 9 u

/-- Byte k of the bytes of a number, k not the last one. -/
theorem vb_get : ∀ (f u k : Nat), k + 1 < (vb f u).length → (vb f u)[k]? = some (UInt8.ofNat (u / 128 ^ k % 128 + 128)) := by
  intro f
  induction f with
  | zero => intro u k h; simp [vb] at h
  | succ f ih =>
    intro u k h
    by_cases hs : u < 128
    · rw [vb_small _ _ hs] at h; simp at h
    · rw [vb_big _ _ (by omega)] at h ⊢
      cases k with
      | zero => simp
      | succ k =>
        simp only [List.length_cons] at h
        rw [List.getElem?_cons_succ, ih (u / 128) k (by omega), Nat.div_div_eq_div_mul, Nat.pow_succ, Nat.mul_comm]

/-- The last byte. -/
theorem vb_last : ∀ (f u k : Nat), k + 1 = (vb f u).length → (vb f u)[k]? = some (UInt8.ofNat (u / 128 ^ k)) := by
  intro f
  induction f with
  | zero => intro u k h; simp [vb] at h; subst h; simp [vb]
  | succ f ih =>
    intro u k h
    by_cases hs : u < 128
    · rw [vb_small _ _ hs] at h ⊢
      simp at h
      subst h
      simp
    · rw [vb_big _ _ (by omega)] at h ⊢
      have hl := vb_len f (u / 128)
      simp only [List.length_cons] at h
      cases k with
      | zero => omega
      | succ k =>
        rw [List.getElem?_cons_succ, ih (u / 128) k (by omega), Nat.div_div_eq_div_mul, Nat.pow_succ, Nat.mul_comm]

/-- What is left for the last byte is below 128, and it is not 0, but of a single byte. -/
theorem vb_top : ∀ (f u k : Nat), u < 128 ^ (f + 1) → k + 1 = (vb f u).length → u / 128 ^ k < 128 ∧ (k = 0 ∨ 1 ≤ u / 128 ^ k) := by
  intro f
  induction f with
  | zero => intro u k h hk; simp [vb] at hk; subst hk; simpa using h
  | succ f ih =>
    intro u k h hk
    by_cases hs : u < 128
    · rw [vb_small _ _ hs] at hk
      simp at hk
      subst hk
      simpa using hs
    · rw [vb_big _ _ (by omega), List.length_cons] at hk
      have hl := vb_len f (u / 128)
      have hd : u / 128 < 128 ^ (f + 1) := by
        rw [Nat.pow_succ] at h
        exact Nat.div_lt_of_lt_mul (by rw [Nat.mul_comm]; exact h)
      cases k with
      | zero => omega
      | succ k =>
        have := ih (u / 128) k hd (by omega)
        rw [Nat.div_div_eq_div_mul, show 128 * 128 ^ k = 128 ^ (k + 1) by rw [Nat.pow_succ, Nat.mul_comm]] at this
        refine ⟨this.1, .inr ?_⟩
        rcases this.2 with h0 | h0
        · subst h0; simp; omega
        · exact h0

/-! The number at the head of bytes. -/

/-- What the first bytes make: d bytes were had, they made u. f: how many may still come. -/
def rd : Nat → Nat → Nat → List UInt8 → Option (Nat × Nat)
  | 0, _, _, _ => none
  | _, _, _, [] => none
  | f + 1, d, u, b :: r =>
    if 128 ≤ b.toNat then rd f (d + 1) (u + (b.toNat % 128) * 128 ^ d) r
    else if d = 9 then (if b.toNat = 1 then some (u + (b.toNat % 128) * 128 ^ d, d + 1) else none)
    else if b.toNat ≠ 0 ∨ d = 0 then some (u + (b.toNat % 128) * 128 ^ d, d + 1) else none

/-- The number whose bytes stand at the head of l, and how many they are. -/
def dec (l : List UInt8) : Option (Nat × Nat) := rd 10 0 0 l

theorem pow128 (d : Nat) : (128 : Nat) ^ d = 2 ^ (7 * d) := by rw [Nat.pow_mul]

/-- What rd tells was put so. -/
theorem rd_vb : ∀ (f d u : Nat) (l : List UInt8) (n m : Nat), f + d = 10 → u < 128 ^ d → rd f d u l = some (n, m) →
    ∃ v, n = u + v * 128 ^ d ∧ d + (vb (f - 1) v).length = m ∧ l.take (m - d) = vb (f - 1) v ∧ v < 2 ^ 64 / 128 ^ d ∧ m - d ≤ l.length ∧ (d = 0 ∨ 1 ≤ v) := by
  intro f
  induction f with
  | zero => intro d u l n m hf hu h; simp [rd] at h
  | succ f ih =>
    intro d u l n m hf hu h
    cases l with
    | nil => simp [rd] at h
    | cons b r =>
      rw [rd] at h
      have hb := UInt8.toNat_lt b
      by_cases h1 : 128 ≤ b.toNat
      · rw [if_pos h1] at h
        have hd : d < 9 := by
          rcases Nat.lt_or_ge d 9 with h9 | h9
          · exact h9
          · have : f = 0 := by omega
            subst this
            simp [rd] at h
        have hlt : u + b.toNat % 128 * 128 ^ d < 128 ^ (d + 1) := by
          have : b.toNat % 128 * 128 ^ d ≤ 127 * 128 ^ d := Nat.mul_le_mul_right _ (by omega)
          rw [Nat.pow_succ]
          omega
        obtain ⟨v, hn, hm, ht, hv, hl, hv1⟩ := ih (d + 1) _ r n m (by omega) hlt h
        have hv1' : 1 ≤ v := by rcases hv1 with h0 | h0 <;> omega
        refine ⟨v * 128 + b.toNat % 128, ?_, ?_, ?_, ?_, ?_, .inr (by omega)⟩
        · rw [hn, Nat.pow_succ, Nat.add_mul, Nat.mul_assoc, Nat.mul_comm 128 (128 ^ d)]
          omega
        · obtain ⟨g, rfl⟩ : ∃ g, f = g + 1 := ⟨f - 1, by omega⟩
          simp only [Nat.add_sub_cancel] at hm ⊢
          rw [vb_big _ _ (by omega), List.length_cons, show (v * 128 + b.toNat % 128) / 128 = v by omega]
          omega
        · obtain ⟨g, rfl⟩ : ∃ g, f = g + 1 := ⟨f - 1, by omega⟩
          simp only [Nat.add_sub_cancel] at hm ht ⊢
          have hpos := (vb_len g v).1
          rw [vb_big _ _ (by omega), show (v * 128 + b.toNat % 128) / 128 = v by omega, show m - d = (m - (d + 1)) + 1 by omega, List.take_succ_cons, ht]
          congr 1
          rw [show (v * 128 + b.toNat % 128) % 128 + 128 = b.toNat by omega]
          simp
        · have e : 2 ^ 64 / 128 ^ (d + 1) = 2 ^ 64 / 128 ^ d / 128 := by rw [Nat.div_div_eq_div_mul, ← Nat.pow_succ]
          rw [e] at hv
          have := (Nat.lt_div_iff_mul_lt (by omega : 0 < 128)).1 hv
          have h128 : 128 ∣ 2 ^ 64 / 128 ^ d := by
            have hk : d = 0 ∨ d = 1 ∨ d = 2 ∨ d = 3 ∨ d = 4 ∨ d = 5 ∨ d = 6 ∨ d = 7 ∨ d = 8 := by omega
            rcases hk with rfl | rfl | rfl | rfl | rfl | rfl | rfl | rfl | rfl <;> decide
          omega
        · simp only [List.length_cons]; omega
      · rw [if_neg h1] at h
        by_cases h9 : d = 9
        · rw [if_pos h9] at h
          by_cases hb1 : b.toNat = 1
          · rw [if_pos hb1] at h
            simp only [Option.some.injEq, Prod.mk.injEq] at h
            obtain ⟨rfl, rfl⟩ := h
            subst h9
            obtain rfl : f = 0 := by omega
            refine ⟨1, by rw [hb1], ?_, ?_, by decide, by simp, by omega⟩
            · simp [vb]
            · simp [vb]
              exact UInt8.toNat_inj.1 (by rw [hb1]; rfl)
          · rw [if_neg hb1] at h; simp at h
        · rw [if_neg h9] at h
          by_cases hz : b.toNat ≠ 0 ∨ d = 0
          · rw [if_pos hz] at h
            simp only [Option.some.injEq, Prod.mk.injEq] at h
            obtain ⟨rfl, rfl⟩ := h
            refine ⟨b.toNat, ?_, ?_, ?_, ?_, by simp, by omega⟩
            · rw [Nat.mod_eq_of_lt (by omega)]
            · rw [vb_small _ _ (by omega)]; simp
            · rw [vb_small _ _ (by omega), show d + 1 - d = 1 by omega]; simp
            · have : 128 ≤ 2 ^ 64 / 128 ^ d := by
                have hk : d = 0 ∨ d = 1 ∨ d = 2 ∨ d = 3 ∨ d = 4 ∨ d = 5 ∨ d = 6 ∨ d = 7 ∨ d = 8 := by omega
                rcases hk with rfl | rfl | rfl | rfl | rfl | rfl | rfl | rfl | rfl <;> decide
              omega
          · rw [if_neg hz] at h; simp at h

/-- What was put is told by rd, whatever comes behind it. -/
theorem vb_rd : ∀ (f d u v : Nat) (r : List UInt8), f + d = 9 → v < 2 ^ 64 / 128 ^ d → (d = 0 ∨ 1 ≤ v) →
    rd (f + 1) d u (vb f v ++ r) = some (u + v * 128 ^ d, d + (vb f v).length) := by
  intro f
  induction f with
  | zero =>
    intro d u v r hf hv hd
    obtain rfl : d = 9 := by omega
    have h2 : v < 2 := hv
    obtain rfl : v = 1 := by omega
    simp [vb, rd]
  | succ f ih =>
    intro d u v r hf hv hd
    by_cases hs : v < 128
    · rw [vb_small _ _ hs, List.singleton_append, rd]
      have e : (UInt8.ofNat v).toNat = v := by simp; omega
      rw [e, if_neg (by omega), if_neg (by omega), if_pos (by omega), Nat.mod_eq_of_lt hs]
      simp
    · rw [vb_big _ _ (by omega), List.cons_append, rd]
      have e : (UInt8.ofNat (v % 128 + 128)).toNat = v % 128 + 128 := by simp; omega
      rw [e, if_pos (by omega)]
      have e2 : 2 ^ 64 / 128 ^ (d + 1) = 2 ^ 64 / 128 ^ d / 128 := by rw [Nat.div_div_eq_div_mul, ← Nat.pow_succ]
      have h128 : 128 ∣ 2 ^ 64 / 128 ^ d := by
        have hk : d = 0 ∨ d = 1 ∨ d = 2 ∨ d = 3 ∨ d = 4 ∨ d = 5 ∨ d = 6 ∨ d = 7 ∨ d = 8 := by omega
        rcases hk with rfl | rfl | rfl | rfl | rfl | rfl | rfl | rfl | rfl <;> decide
      have := ih (d + 1) (u + (v % 128 + 128) % 128 * 128 ^ d) (v / 128) r (by omega) (by rw [e2]; omega) (by omega)
      rw [this]
      simp only [Option.some.injEq, Prod.mk.injEq, List.length_cons]
      refine ⟨?_, by omega⟩
      rw [show (v % 128 + 128) % 128 = v % 128 by omega, Nat.pow_succ, Nat.mul_comm (128 ^ d) 128, ← Nat.mul_assoc, Nat.add_assoc, ← Nat.add_mul]
      congr 2
      omega

theorem dec_enc (u : Nat) (h : u < 2 ^ 64) (r : List UInt8) : dec (enc u ++ r) = some (u, (enc u).length) := by
  have := vb_rd 9 0 0 u r (by omega) (by simpa using h) (.inl rfl)
  simpa [dec, enc] using this

theorem enc_dec (l : List UInt8) (n m : Nat) (h : dec l = some (n, m)) : n < 2 ^ 64 ∧ (enc n).length = m ∧ l.take m = enc n ∧ m ≤ l.length ∧ 1 ≤ m := by
  obtain ⟨v, hn, hm, ht, hv, hl, -⟩ := rd_vb 10 0 0 l n m (by omega) (by omega) h
  simp at hn hv hm ht hl
  subst hn
  have := (enc_len n).1
  exact ⟨by omega, hm, ht, hl, by unfold enc at this; omega⟩

theorem enc_inj (a b : Nat) (ha : a < 2 ^ 64) (hb : b < 2 ^ 64) (h : enc a = enc b) : a = b := by
  have h1 := dec_enc a ha []
  have h2 := dec_enc b hb []
  rw [h, h2] at h1
  simp at h1
  exact h1.symm

/-- Bytes of a number that are cut off are none's. -/
theorem dec_cut (u k : Nat) (h : u < 2 ^ 64) (hk : k < (enc u).length) : dec ((enc u).take k) = none := by
  cases hd : dec ((enc u).take k) with
  | none => rfl
  | some p =>
    obtain ⟨n, m⟩ := p
    obtain ⟨hn, hm, ht, hl, h1⟩ := enc_dec _ _ _ hd
    have hl' : m ≤ k := by simp at hl; omega
    have e : enc u = enc n ++ (enc u).drop m := by
      rw [List.take_take, Nat.min_eq_left hl'] at ht
      rw [← ht, List.take_append_drop]
    have h2 := dec_enc n hn ((enc u).drop m)
    rw [← e] at h2
    have h3 := dec_enc u h []
    rw [List.append_nil, h2] at h3
    simp at h3
    omega

theorem dec_nil : dec [] = none := rfl

/-! The number of an int. -/
def fold (n : Int) : Nat := if n < 0 then (-2 * n - 1).toNat else (2 * n).toNat
def unfold (u : Nat) : Int := if u % 2 = 1 then -((u / 2 : Nat) : Int) - 1 else ((u / 2 : Nat) : Int)

theorem fold_lt (n : Int) (h0 : -9223372036854775808 ≤ n) (h1 : n ≤ 9223372036854775807) : fold n < 2 ^ 64 := by
  unfold fold; split <;> omega

theorem unfold_fold (n : Int) : unfold (fold n) = n := by
  unfold fold unfold; split <;> split <;> omega

theorem fold_unfold (u : Nat) : fold (unfold u) = u := by
  unfold fold unfold; split <;> split <;> omega

/-- What read tells of the bytes l from the place at on: the number, the place behind it, whether there is one. -/
def readS (l : List UInt8) (i : Int) : Nat × Int × Bool :=
  if i < 0 ∨ (l.length : Int) ≤ i then (0, 0, false)
  else match dec (l.drop i.toNat) with
    | none => (0, 0, false)
    | some (n, m) => (n, i + m, true)

theorem readS_out (l : List UInt8) (i : Int) (h : i < 0 ∨ (l.length : Int) ≤ i) : readS l i = (0, 0, false) := by simp [readS, h]
theorem readS_none (l : List UInt8) (i : Nat) (h : i < l.length) (hd : dec (l.drop i) = none) : readS l i = (0, 0, false) := by
  have : ¬ ((i : Int) < 0 ∨ (l.length : Int) ≤ i) := by omega
  simp [readS, hd]
theorem readS_some (l : List UInt8) (i n m : Nat) (h : i < l.length) (hd : dec (l.drop i) = some (n, m)) : readS l i = (n, (i : Int) + m, true) := by
  have : ¬ ((i : Int) < 0 ∨ (l.length : Int) ≤ i) := by omega
  simp only [readS, if_neg this, Int.toNat_natCast, hd]

theorem rd_nil (f d u : Nat) : rd f d u [] = none := by cases f <;> rfl
theorem rd_zero (d u : Nat) (l : List UInt8) : rd 0 d u l = none := by cases l <;> rfl
theorem rd_more (f d u : Nat) (b : UInt8) (r : List UInt8) (h : 128 ≤ b.toNat) : rd (f + 1) d u (b :: r) = rd f (d + 1) (u + (b.toNat % 128) * 128 ^ d) r := by
  rw [rd, if_pos h]
theorem rd_end (f d u : Nat) (b : UInt8) (r : List UInt8) (h : b.toNat < 128) (he : (if d = 9 then b.toNat == 1 else (b.toNat != 0 || d == 0)) = true) :
    rd (f + 1) d u (b :: r) = some (u + (b.toNat % 128) * 128 ^ d, d + 1) := by
  rw [rd, if_neg (by omega)]
  by_cases h9 : d = 9
  · rw [if_pos h9] at he ⊢
    rw [if_pos (by simpa using he)]
  · rw [if_neg h9] at he ⊢
    rw [if_pos (by simpa using he)]
theorem rd_bad (f d u : Nat) (b : UInt8) (r : List UInt8) (h : b.toNat < 128) (he : (if d = 9 then b.toNat == 1 else (b.toNat != 0 || d == 0)) = false) :
    rd (f + 1) d u (b :: r) = none := by
  rw [rd, if_neg (by omega)]
  by_cases h9 : d = 9
  · rw [if_pos h9] at he ⊢
    rw [if_neg (by simpa using he)]
  · rw [if_neg h9] at he ⊢
    rw [if_neg (by simpa using he)]

end Vi
end Go.Proofs.Ytmekaofjcjmklaa
