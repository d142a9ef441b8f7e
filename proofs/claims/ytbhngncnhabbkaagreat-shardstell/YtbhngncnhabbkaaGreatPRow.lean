/- Numbers in bits, as plain functions: the number of some bits, the bits of a table and of a text, and what follows for them. -/
import Derived.Test.YtbhngncnhabbkaaGreatSRef
import Derived.Lib.BitFns
import Derived.Test.YtbhngncnhabbkaaGreatRows
import Derived.WalkKit
import Derived.Below
import Derived.BigQuiet
namespace Go.Proofs.YtbhngncnhabbkaaGreat
namespace Pk

/-- The number of the n bits from p on, the lowest one first. -/
def num (f : Nat → Nat) (p : Nat) : Nat → Nat
  | 0 => 0
  | n + 1 => num f p n + f (p + n) * 2 ^ n

theorem num_lt {f : Nat → Nat} (hf : ∀ k, f k ≤ 1) (p n : Nat) : num f p n < 2 ^ n := by
  induction n with
  | zero => simp [num]
  | succ n ih =>
    have := hf (p + n)
    rw [num, Nat.pow_succ]
    have h2 : f (p + n) * 2 ^ n ≤ 1 * 2 ^ n := Nat.mul_le_mul_right _ this
    omega

theorem num_congr {f g : Nat → Nat} {p q n : Nat} (h : ∀ j, j < n → f (p + j) = g (q + j)) : num f p n = num g q n := by
  induction n with
  | zero => rfl
  | succ n ih => rw [num, num, ih fun j hj => h j (by omega), h n (by omega)]

theorem num_zero {f : Nat → Nat} {p n : Nat} (h : ∀ j, j < n → f (p + j) = 0) : num f p n = 0 := by
  induction n with
  | zero => rfl
  | succ n ih => rw [num, ih fun j hj => h j (by omega), h n (by omega)]; simp

theorem num_mod {f : Nat → Nat} {p n x : Nat} (h : ∀ j, j < n → f (p + j) = x / 2 ^ j % 2) : num f p n = x % 2 ^ n := by
  induction n with
  | zero => rw [num, Nat.pow_zero, Nat.mod_one]
  | succ n ih => rw [num, ih fun j hj => h j (by omega), h n (by omega), Nat.mod_pow_succ, Nat.mul_comm]

theorem num_bit {f : Nat → Nat} (hf : ∀ k, f k ≤ 1) (p n j : Nat) (hj : j < n) : num f p n / 2 ^ j % 2 = f (p + j) := by
  induction n with
  | zero => omega
  | succ n ih =>
    rw [num]
    by_cases h : j = n
    · subst h
      have h1 := num_lt hf p j
      have h2 := hf (p + j)
      rw [Nat.add_mul_div_right _ _ (Nat.two_pow_pos j), Nat.div_eq_of_lt h1]
      omega
    · have e : f (p + n) * 2 ^ n = (f (p + n) * 2 ^ (n - j - 1) * 2) * 2 ^ j := by
        rw [Nat.mul_assoc, Nat.mul_assoc, ← Nat.pow_succ', ← Nat.pow_add]
        congr 2
        omega
      rw [e, Nat.add_mul_div_right _ _ (Nat.two_pow_pos j), Nat.add_mul_mod_self_right]
      exact ih (by omega)

theorem num_eq_zero {f : Nat → Nat} (hf : ∀ k, f k ≤ 1) {p n : Nat} (h : num f p n = 0) (j : Nat) (hj : j < n) : f (p + j) = 0 := by
  rw [← num_bit hf p n j hj, h]
  simp

/-- The lowest bit first. -/
theorem num_low (f : Nat → Nat) (p n : Nat) : num f p (n + 1) = 2 * num f (p + 1) n + f p := by
  induction n with
  | zero => simp [num]
  | succ n ih =>
    rw [num, ih, num, Nat.pow_succ, show p + (n + 1) = p + 1 + n by omega, ← Nat.mul_assoc]
    omega

/-- Bit k of the bytes s. -/
def sb (s : List UInt8) (k : Nat) : Nat := (s.getD (k / 8) 0).toNat / 2 ^ (k % 8) % 2
/-- Bit k of the table of l in w bits. -/
def tb (l : List Int) (w k : Nat) : Nat := if k < l.length * w then (l.getD (k / w) 0).toNat / 2 ^ (k % w) % 2 else 0

theorem sb_le (s : List UInt8) (k : Nat) : sb s k ≤ 1 := by unfold sb; omega
theorem tb_le (l : List Int) (w k : Nat) : tb l w k ≤ 1 := by unfold tb; split <;> omega

def size (m w : Nat) : Nat := (m * w + 7) / 8

/-- The i-th byte of the table. -/
def byte (l : List Int) (w i : Nat) : UInt8 := UInt8.ofNat (num (tb l w) (8 * i) 8)
/-- The first n bytes of the table. -/
def pkn (l : List Int) (w n : Nat) : List UInt8 := (List.range n).map (byte l w)
/-- The bytes of the table of l in w bits. -/
def pk (l : List Int) (w : Nat) : List UInt8 := pkn l w (size l.length w)
/-- The first n of the numbers of the bytes s. -/
def un (s : List UInt8) (w n : Nat) : List Int := (List.range n).map fun i => (num (sb s) (i * w) w : Int)

theorem pkn_zero (l : List Int) (w : Nat) : pkn l w 0 = [] := rfl
theorem pkn_succ (l : List Int) (w n : Nat) : pkn l w (n + 1) = pkn l w n ++ [byte l w n] := by
  simp [pkn, List.range_succ]
theorem pkn_length (l : List Int) (w n : Nat) : (pkn l w n).length = n := by simp [pkn]
theorem pk_length (l : List Int) (w : Nat) : (pk l w).length = size l.length w := pkn_length _ _ _
theorem un_zero (s : List UInt8) (w : Nat) : un s w 0 = [] := rfl
theorem un_succ (s : List UInt8) (w n : Nat) : un s w (n + 1) = un s w n ++ [(num (sb s) (n * w) w : Int)] := by
  simp [un, List.range_succ]
theorem un_length (s : List UInt8) (w n : Nat) : (un s w n).length = n := by simp [un]
theorem un_getD (s : List UInt8) (w n i : Nat) (h : i < n) : (un s w n).getD i 0 = (num (sb s) (i * w) w : Int) := by
  simp [un, List.getD, h]
theorem byte_toNat (l : List Int) (w i : Nat) : (byte l w i).toNat = num (tb l w) (8 * i) 8 := by
  have := num_lt (tb_le l w) (8 * i) 8
  simp [byte]; omega

theorem sb_pk (l : List Int) (w k : Nat) : sb (pk l w) k = tb l w k := by
  unfold sb
  by_cases h : k / 8 < size l.length w
  · have e : (pk l w).getD (k / 8) 0 = byte l w (k / 8) := by simp [pk, pkn, List.getD, h]
    rw [e, byte_toNat, num_bit (tb_le l w) _ _ _ (by omega)]
    congr 1
    omega
  · have e : (pk l w).getD (k / 8) 0 = 0 := by simp [pk, pkn, List.getD, Nat.le_of_not_lt h]
    rw [e]
    unfold size at h
    have : ¬ k < l.length * w := by omega
    simp [tb, this]

theorem sb_past (s : List UInt8) (k : Nat) (h : s.length * 8 ≤ k) : sb s k = 0 := by
  have e : s.getD (k / 8) 0 = 0 := by simp [List.getD, List.getElem?_eq_none (show s.length ≤ k / 8 by omega)]
  unfold sb
  rw [e]
  simp

theorem byte_of (s : List UInt8) (i : Nat) (h : i < s.length) : num (sb s) (8 * i) 8 = s[i].toNat := by
  have := UInt8.toNat_lt s[i]
  rw [num_mod (x := s[i].toNat)]
  · omega
  · intro j hj
    have e1 : (8 * i + j) / 8 = i := by omega
    have e2 : (8 * i + j) % 8 = j := by omega
    simp [sb, e1, e2, List.getD, h]

theorem bytes_ext {s t : List UInt8} (hl : s.length = t.length) (h : ∀ k, sb s k = sb t k) : s = t := by
  refine List.ext_getElem hl fun i h1 h2 => ?_
  apply UInt8.toNat_inj.1
  rw [← byte_of s i h1, ← byte_of t i h2]
  exact num_congr fun j _ => h _

/-- All numbers may stand in w bits. -/
def May (l : List Int) (w : Nat) : Prop := ∀ z ∈ l, 0 ≤ z ∧ z < 2 ^ w

theorem May.at {l : List Int} {w : Nat} (h : May l w) (i : Nat) : 0 ≤ l.getD i 0 ∧ (l.getD i 0).toNat < 2 ^ w := by
  by_cases hi : i < l.length
  · have e : l.getD i 0 = l[i] := by simp [List.getD, hi]
    have := h l[i] (List.getElem_mem _)
    rw [e]
    refine ⟨this.1, ?_⟩
    have h2 : l[i] < ((2 ^ w : Nat) : Int) := by
      rw [Int.natCast_pow]; exact this.2
    omega
  · have e : l.getD i 0 = 0 := by simp [List.getD, List.getElem?_eq_none (Nat.le_of_not_lt hi)]
    rw [e]
    exact ⟨by omega, Nat.two_pow_pos w⟩

theorem tb_at (l : List Int) (w i j : Nat) (hi : i < l.length) (hj : j < w) : tb l w (i * w + j) = (l.getD i 0).toNat / 2 ^ j % 2 := by
  have h1 : (i + 1) * w ≤ l.length * w := Nat.mul_le_mul_right _ hi
  rw [Nat.add_mul, Nat.one_mul] at h1
  have e1 : (i * w + j) / w = i := by
    rw [Nat.mul_comm, Nat.mul_add_div (by omega), Nat.div_eq_of_lt hj]; omega
  have e2 : (i * w + j) % w = j := by
    rw [Nat.mul_comm, Nat.mul_add_mod, Nat.mod_eq_of_lt hj]
  unfold tb
  rw [if_pos (by omega), e1, e2]

theorem tb_num {l : List Int} {w : Nat} (hm : May l w) (i : Nat) (hi : i < l.length) : (num (tb l w) (i * w) w : Int) = l.getD i 0 := by
  have := hm.at i
  rw [num_mod (x := (l.getD i 0).toNat) fun j hj => tb_at l w i j hi hj, Nat.mod_eq_of_lt this.2]
  omega

theorem un_at {l : List Int} {w : Nat} (hm : May l w) (i : Nat) (hi : i < l.length) : (num (sb (pk l w)) (i * w) w : Int) = l.getD i 0 := by
  rw [← tb_num hm i hi]
  congr 1
  exact num_congr fun j _ => sb_pk l w _

theorem un_pk {l : List Int} {w : Nat} (hm : May l w) : un (pk l w) w l.length = l := by
  refine List.ext_getElem (un_length _ _ _) fun i h1 h2 => ?_
  have := un_at hm i h2
  simp [un, List.getD, h2] at *
  exact this

/-- The bytes s are those of a table of m numbers in w bits. -/
abbrev Ok (s : List UInt8) (w m : Nat) : Prop := s.length = size m w ∧ num (sb s) (m * w) (8 * s.length - m * w) = 0

theorem ok_pk (l : List Int) (w : Nat) : Ok (pk l w) w l.length := by
  refine ⟨pk_length l w, num_zero fun j _ => ?_⟩
  rw [sb_pk, tb, if_neg (by omega)]

theorem may_un (s : List UInt8) (w m : Nat) : May (un s w m) w := by
  intro z hz
  obtain ⟨i, _, rfl⟩ := List.mem_map.1 hz
  have := num_lt (sb_le s) (i * w) w
  refine ⟨by omega, ?_⟩
  have e : ((2 : Int) ^ w) = ((2 ^ w : Nat) : Int) := by rw [Int.natCast_pow]; rfl
  rw [e]
  omega

theorem tb_un {s : List UInt8} {w m : Nat} (h : Ok s w m) (k : Nat) : tb (un s w m) w k = sb s k := by
  by_cases hk : k < m * w
  · have hw : 0 < w := by
      rcases Nat.eq_zero_or_pos w with rfl | h
      · simp at hk
      · exact h
    have hd : k / w < m := Nat.div_lt_of_lt_mul (by rw [Nat.mul_comm]; exact hk)
    have e : k = k / w * w + k % w := by rw [Nat.mul_comm]; exact (Nat.div_add_mod k w).symm
    conv => lhs; rw [e]
    rw [tb_at _ _ _ _ (by rw [un_length]; exact hd) (Nat.mod_lt _ hw), un_getD _ _ _ _ hd, Int.toNat_natCast, num_bit (sb_le s) _ _ _ (Nat.mod_lt _ hw), ← e]
  · rw [tb, if_neg (by rw [un_length]; exact hk)]
    by_cases hs : k < 8 * s.length
    · have := num_eq_zero (sb_le s) h.2 (k - m * w) (by omega)
      rw [show m * w + (k - m * w) = k by omega] at this
      exact this.symm
    · exact (sb_past s k (by omega)).symm

theorem pk_un {s : List UInt8} {w m : Nat} (h : Ok s w m) : pk (un s w m) w = s := by
  refine bytes_ext ?_ fun k => ?_
  · rw [pk_length, un_length, h.1]
  · rw [sb_pk, tb_un h]

theorem pk_un_iff (s : List UInt8) (w m : Nat) : pk (un s w m) w = s ↔ Ok s w m := by
  refine ⟨fun h => ?_, pk_un⟩
  have := ok_pk (un s w m) w
  rwa [h, un_length] at this

/-- The uint of an int. -/
def u (z : Int) : Nat := (z % 18446744073709551616).toNat
def Fit (l : List Int) : Prop := ∀ z ∈ l, -9223372036854775808 ≤ z ∧ z ≤ 9223372036854775807

theorem Fit.at {l : List Int} (h : Fit l) (k : Nat) : -9223372036854775808 ≤ l.getD k 0 ∧ l.getD k 0 ≤ 9223372036854775807 := by
  by_cases hk : k < l.length
  · have := h l[k] (List.getElem_mem _)
    simpa [List.getD, hk] using this
  · simp [List.getD, List.getElem?_eq_none (Nat.le_of_not_lt hk)]

/-- The greatest number of bits, of at least a. -/
def wids (a : Nat) (l : List Int) : Nat := l.foldl (fun a z => max a (Lib.bitLen (u z))) a
def wid (l : List Int) : Nat := min (wids 0 l) 33

theorem wids_take (l : List Int) (k : Nat) (h : k < l.length) : wids 0 (l.take (k + 1)) = max (wids 0 (l.take k)) (Lib.bitLen (u (l.getD k 0))) := by
  have e : l.take (k + 1) = l.take k ++ [l.getD k 0] := by
    rw [List.take_add_one, List.getElem?_eq_getElem h]
    simp [List.getD, h]
  rw [e]
  simp [wids]

theorem wids_le (l : List Int) : ∀ (a w : Nat), wids a l ≤ w ↔ a ≤ w ∧ ∀ z ∈ l, Lib.bitLen (u z) ≤ w := by
  induction l with
  | nil => intro a w; simp [wids]
  | cons z l ih =>
    intro a w
    have e : wids a (z :: l) = wids (max a (Lib.bitLen (u z))) l := rfl
    rw [e, ih]
    simp only [List.mem_cons, forall_eq_or_imp]
    constructor
    · rintro ⟨h1, h2⟩; exact ⟨by omega, by omega, h2⟩
    · rintro ⟨h1, h2, h3⟩; exact ⟨by omega, h3⟩

theorem bitLenAux_lt : ∀ (f x : Nat), x < 2 ^ f → x < 2 ^ Lib.bitLenAux f x := by
  intro f
  induction f with
  | zero => intro x h; simpa [Lib.bitLenAux] using h
  | succ f ih =>
    intro x h
    rw [Lib.bitLenAux]
    by_cases hx : x = 0
    · subst hx; simp
    · rw [if_neg hx]
      have := ih (x / 2) (by rw [Nat.pow_succ] at h; omega)
      rw [Nat.add_comm, Nat.pow_succ]
      omega

theorem bitLen_iff (x w : Nat) (hx : x < 18446744073709551616) (hw : w ≤ 64) : Lib.bitLen x ≤ w ↔ x < 2 ^ w := by
  constructor
  · intro h
    exact Nat.lt_of_lt_of_le (bitLenAux_lt 64 x hx) (Nat.pow_le_pow_right (by omega) h)
  · exact Lib.bitLen_le x w hw

theorem pow32 (w : Nat) (h : w ≤ 32) : 2 ^ w ≤ 4294967296 := Nat.pow_le_pow_right (n := 2) (by omega) h

theorem u_iff (z : Int) (w : Nat) (hw : w ≤ 32) (h : -9223372036854775808 ≤ z ∧ z ≤ 9223372036854775807) : Lib.bitLen (u z) ≤ w ↔ 0 ≤ z ∧ z < 2 ^ w := by
  have hp := pow32 w hw
  have e : ((2 : Int) ^ w) = ((2 ^ w : Nat) : Int) := by rw [Int.natCast_pow]; rfl
  have hu : u z < 18446744073709551616 := by unfold u; omega
  rw [bitLen_iff _ w hu (by omega), e]
  unfold u
  omega

theorem wid_le {l : List Int} (hf : Fit l) (w : Nat) (hw : w ≤ 32) : wid l ≤ w ↔ May l w := by
  have : wid l ≤ w ↔ wids 0 l ≤ w := by unfold wid; omega
  rw [this, wids_le]
  unfold May
  constructor
  · rintro ⟨_, h⟩ z hz
    exact (u_iff z w hw (hf z hz)).1 (h z hz)
  · intro h
    exact ⟨by omega, fun z hz => (u_iff z w hw (hf z hz)).2 (h z hz)⟩

theorem wid_33 (l : List Int) : wid l ≤ 33 := by unfold wid; omega
theorem wids_64 (l : List Int) : wids 0 l ≤ 64 := by
  rw [wids_le]
  refine ⟨by omega, fun z _ => Lib.bitLen_le _ 64 (by omega) ?_⟩
  unfold u; omega

end Pk
end Go.Proofs.YtbhngncnhabbkaaGreat

/- Slices of ints; the walk of the statements' helper Same: what it returns, for all slices of ints. -/
namespace Go.Proofs.YtbhngncnhabbkaaGreat
open Go.RowKit

theorem take_succ (l : List Int) (k : Nat) (h : k < l.length) : l.take (k + 1) = l.take k ++ [l.getD k 0] := by
  rw [List.take_add_one, List.getElem?_eq_getElem h]
  simp [List.getD, h]

end Go.Proofs.YtbhngncnhabbkaaGreat
