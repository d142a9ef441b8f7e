/- Bytes that are filled bit by bit, as plain functions. -/
import Derived.Test.YtfhiheeicaoojaaPUnpack
namespace Go.Proofs.Ytfhiheeicaoojaa
namespace Pk

theorem two_pow_cast' (n : Nat) : ((2 : Int) ^ n) = ((2 ^ n : Nat) : Int) := by rw [Int.natCast_pow]; rfl

theorem num_add (f g : Nat → Nat) (p n : Nat) : num (fun k => f k + g k) p n = num f p n + num g p n := by
  induction n with
  | zero => rfl
  | succ n ih => simp only [num, ih, Nat.add_mul]; omega

/-- One bit. -/
def one (p c k : Nat) : Nat := if k = p then c else 0

theorem num_one (p c q n : Nat) : num (one p c) q n = if q ≤ p ∧ p < q + n then c * 2 ^ (p - q) else 0 := by
  induction n with
  | zero => rw [num, if_neg (by omega)]
  | succ n ih =>
    rw [num, ih, one]
    by_cases h : q + n = p
    · rw [if_neg (by omega), if_pos h, if_pos (by omega), show p - q = n by omega]
      omega
    · rw [if_neg h, Nat.zero_mul, Nat.add_zero]
      by_cases h2 : q ≤ p ∧ p < q + n
      · rw [if_pos h2, if_pos (by omega)]
      · rw [if_neg h2, if_neg (by omega)]

/-- The bits ahead of p. -/
def ahead (f : Nat → Nat) (p k : Nat) : Nat := if k < p then f k else 0
theorem ahead_le {f : Nat → Nat} (hf : ∀ k, f k ≤ 1) (p k : Nat) : ahead f p k ≤ 1 := by
  unfold ahead; split
  · exact hf k
  · omega
theorem ahead_succ (f : Nat → Nat) (p : Nat) : ahead f (p + 1) = fun k => ahead f p k + one p (f p) k := by
  funext k
  unfold ahead one
  by_cases h : k = p
  · subst h; simp
  · by_cases h2 : k < p
    · rw [if_pos (by omega), if_pos h2, if_neg h]; rfl
    · rw [if_neg (by omega), if_neg h2, if_neg h]

/-- The j-th byte, of the bits ahead of p. -/
def part8 (f : Nat → Nat) (p j : Nat) : Nat := num (ahead f p) (8 * j) 8
theorem part8_lt {f : Nat → Nat} (hf : ∀ k, f k ≤ 1) (p j : Nat) : part8 f p j < 256 := num_lt (ahead_le hf p) _ 8
theorem part8_succ (f : Nat → Nat) (p j : Nat) : part8 f (p + 1) j = part8 f p j + if p / 8 = j then f p * 2 ^ (p % 8) else 0 := by
  unfold part8
  rw [ahead_succ, num_add, num_one]
  congr 1
  by_cases h : p / 8 = j
  · rw [if_pos h, if_pos (by omega), show p - 8 * j = p % 8 by omega]
  · rw [if_neg h, if_neg (by omega)]

/-- N bytes, of the bits ahead of p. -/
def fill (f : Nat → Nat) (N p : Nat) : List UInt8 := (List.range N).map fun j => UInt8.ofNat (part8 f p j)
theorem fill_length (f : Nat → Nat) (N p : Nat) : (fill f N p).length = N := by simp [fill]
theorem fill_get {f : Nat → Nat} (hf : ∀ k, f k ≤ 1) (N p j : Nat) (h : j < (fill f N p).length) : ((fill f N p)[j]).toNat = part8 f p j := by
  have := part8_lt hf p j
  simp [fill]; omega
theorem fill_zero (f : Nat → Nat) (N : Nat) : fill f N 0 = List.replicate N 0 := by
  refine List.ext_getElem (by simp [fill]) fun i h1 h2 => ?_
  have e : part8 f 0 i = 0 := num_zero fun j _ => by simp [ahead]
  simp [fill, e]
theorem fill_none {f : Nat → Nat} (N p : Nat) (h : f p = 0) : fill f N (p + 1) = fill f N p := by
  unfold fill
  congr 1
  funext j
  rw [part8_succ, h]
  simp
theorem fill_some {f : Nat → Nat} (N p : Nat) (_hp : p / 8 < N) (h : f p = 1) : fill f N (p + 1) = (fill f N p).set (p / 8) (UInt8.ofNat (part8 f p (p / 8) + 2 ^ (p % 8))) := by
  refine List.ext_getElem (by simp [fill]) fun i h1 h2 => ?_
  rw [List.getElem_set]
  by_cases hi : p / 8 = i
  · subst hi
    rw [if_pos rfl]
    simp [fill, part8_succ, h]
  · rw [if_neg hi]
    simp [fill, part8_succ, hi]
theorem fill_room {f : Nat → Nat} (hf : ∀ k, f k ≤ 1) (p : Nat) (h : f p = 1) : part8 f p (p / 8) + 2 ^ (p % 8) < 256 := by
  have := part8_lt hf (p + 1) (p / 8)
  rw [part8_succ, if_pos rfl, h] at this
  omega
theorem fill_full (l : List Int) (n : Nat) : fill (tb l n) (size l.length n) (l.length * n) = pk l n := by
  have e : ahead (tb l n) (l.length * n) = tb l n := by
    funext k
    unfold ahead
    by_cases h : k < l.length * n
    · rw [if_pos h]
    · rw [if_neg h, tb, if_neg h]
  unfold fill pk pkn part8 byte
  rw [e]

theorem May.fits {l : List Int} {n : Nat} (h : May l n) (hn : n ≤ 32) : Fit l := by
  intro z hz
  have h1 := h z hz
  have hp := pow32 n hn
  rw [two_pow_cast'] at h1
  omega

theorem may_take (l : List Int) (n k : Nat) (h : k < l.length) : May (l.take (k + 1)) n ↔ May (l.take k) n ∧ (0 ≤ l.getD k 0 ∧ l.getD k 0 < 2 ^ n) := by
  rw [take_succ l k h]
  unfold May
  simp only [List.mem_append, List.mem_singleton]
  constructor
  · intro h; exact ⟨fun z hz => h z (.inl hz), h _ (.inr rfl)⟩
  · rintro ⟨h1, h2⟩ z (hz | rfl)
    · exact h1 z hz
    · exact h2
theorem may_of_take {l : List Int} {n : Nat} (k : Nat) (h : May l n) : May (l.take k) n := fun z hz => h z (List.mem_of_mem_take hz)

end Pk
end Go.Proofs.Ytfhiheeicaoojaa
