/- The document's answer for sums, as plain functions over natural numbers: a register's shift, its powers, bytes that go in, products of registers; what follows of them. -/
import Derived.Test.YtmekaofjcjmklaaGRef2
import Derived.Test.YtmekaofjcjmklaaRows
namespace Go.Proofs.Ytmekaofjcjmklaa
namespace Cr

/-- A register, shifted down by one bit. -/
def sh (r : Nat) : Nat := if r % 2 = 1 then (r / 2) ^^^ 3988292384 else r / 2
/-- A register, shifted down by k bits. -/
def pw : Nat → Nat → Nat
  | 0, r => r
  | k + 1, r => pw k (sh r)
/-- A register, into which bytes go. -/
def goes (r : Nat) (l : List UInt8) : Nat := l.foldl (fun r b => pw 8 (r ^^^ b.toNat)) r
/-- All bits turned over. -/
def flip (r : Nat) : Nat := 4294967295 - r
/-- What More tells. -/
def more (s : Nat) (l : List UInt8) : Nat := flip (goes (flip s) l)
/-- What Sum tells. -/
def sum (l : List UInt8) : Nat := more 0 l
/-- What Join tells. -/
def join (a b : Nat) (n : Int) : Nat := if n < 0 then 0 else pw (8 * n.toNat) a ^^^ b
/-- k rounds of a product. -/
def mul : Nat → Nat → Nat → Nat → Nat
  | 0, p, _, _ => p
  | k + 1, p, r, q => mul k (if 2147483648 ≤ r then p ^^^ q else p) (r * 2 % 4294967296) (sh q)
/-- The product of registers. -/
def times (r q : Nat) : Nat := mul 32 0 r q

theorem xor_half (a b : Nat) : (a ^^^ b) / 2 = (a / 2) ^^^ (b / 2) := by
  refine Nat.eq_of_testBit_eq fun i => ?_
  simp [Nat.testBit_div_two]
theorem xor_odd (a b : Nat) : (a ^^^ b) % 2 = 1 ↔ ¬(a % 2 = 1 ↔ b % 2 = 1) := by
  have h := Nat.testBit_xor (x := a) (y := b) (i := 0)
  rw [Nat.testBit_zero, Nat.testBit_zero, Nat.testBit_zero] at h
  by_cases ha : a % 2 = 1 <;> by_cases hb : b % 2 = 1 <;> simp [ha, hb] at h ⊢ <;> omega

theorem sh_zero : sh 0 = 0 := rfl
theorem sh_xor (a b : Nat) : sh (a ^^^ b) = sh a ^^^ sh b := by
  unfold sh
  have h := xor_odd a b
  rw [xor_half]
  by_cases ha : a % 2 = 1 <;> by_cases hb : b % 2 = 1
  · rw [if_neg (by rw [h]; simp [ha, hb]), if_pos ha, if_pos hb, Nat.xor_assoc, Nat.xor_comm 3988292384, Nat.xor_assoc, Nat.xor_self, Nat.xor_zero]
  · rw [if_pos (by rw [h]; simp [ha, hb]), if_pos ha, if_neg hb, Nat.xor_assoc, Nat.xor_assoc, Nat.xor_comm 3988292384]
  · rw [if_pos (by rw [h]; simp [ha, hb]), if_neg ha, if_pos hb, Nat.xor_assoc]
  · rw [if_neg (by rw [h]; simp [ha, hb]), if_neg ha, if_neg hb]
theorem sh_lt (r : Nat) (h : r < 4294967296) : sh r < 4294967296 := by
  unfold sh
  split
  · exact Nat.xor_lt_two_pow (n := 32) (by omega) (by omega)
  · omega
theorem sh_none (r : Nat) (h : r < 4294967296) (h0 : sh r = 0) : r = 0 := by
  unfold sh at h0
  split at h0
  · have e : r / 2 = 3988292384 := by
      have : (r / 2 ^^^ 3988292384) ^^^ 3988292384 = 0 ^^^ 3988292384 := by rw [h0]
      rwa [Nat.xor_assoc, Nat.xor_self, Nat.xor_zero, Nat.zero_xor] at this
    omega
  · omega
theorem sh_two (r : Nat) : sh (2 * r) = r := by
  unfold sh; rw [if_neg (by omega)]; omega

theorem pw_succ (k r : Nat) : pw (k + 1) r = sh (pw k r) := by
  induction k generalizing r with
  | zero => rfl
  | succ k ih => rw [pw, ih (sh r), pw]
theorem pw_add (k l r : Nat) : pw l (pw k r) = pw (k + l) r := by
  induction l with
  | zero => rfl
  | succ l ih => rw [pw_succ, ih, ← Nat.add_assoc, pw_succ]
theorem pw_none (k : Nat) : pw k 0 = 0 := by
  induction k with
  | zero => rfl
  | succ k ih => rw [pw_succ, ih]; rfl
theorem pw_xor (k a b : Nat) : pw k (a ^^^ b) = pw k a ^^^ pw k b := by
  induction k with
  | zero => rfl
  | succ k ih => rw [pw_succ, ih, sh_xor, pw_succ, pw_succ]
theorem pw_lt (k r : Nat) (h : r < 4294967296) : pw k r < 4294967296 := by
  induction k with
  | zero => exact h
  | succ k ih => rw [pw_succ]; exact sh_lt _ ih
theorem pw_zero_iff (k r : Nat) (h : r < 4294967296) : pw k r = 0 ↔ r = 0 := by
  refine ⟨fun h0 => ?_, fun h0 => by rw [h0, pw_none]⟩
  induction k with
  | zero => exact h0
  | succ k ih => rw [pw_succ] at h0; exact ih (sh_none _ (pw_lt _ _ h) h0)
theorem pw_byte (m : Nat) : pw 8 (256 * m) = m := by
  have h : 256 * m = 2 * (2 * (2 * (2 * (2 * (2 * (2 * (2 * m))))))) := by omega
  rw [h]
  simp only [pw, sh_two]

theorem xor_lt (a b : Nat) (ha : a < 4294967296) (hb : b < 4294967296) : a ^^^ b < 4294967296 := Nat.xor_lt_two_pow (n := 32) ha hb
theorem byte_lt (b : UInt8) : b.toNat < 4294967296 := Nat.lt_trans b.toNat_lt (by decide)

theorem goes_cons (r : Nat) (b : UInt8) (l : List UInt8) : goes r (b :: l) = goes (pw 8 (r ^^^ b.toNat)) l := List.foldl_cons ..
theorem goes_nil (r : Nat) : goes r [] = r := List.foldl_nil
theorem goes_lt (r : Nat) (l : List UInt8) (h : r < 4294967296) : goes r l < 4294967296 := by
  induction l generalizing r with
  | nil => exact h
  | cons b l ih => rw [goes_cons]; exact ih _ (pw_lt _ _ (xor_lt _ _ h (byte_lt b)))
theorem goes_append (r : Nat) (l m : List UInt8) : goes r (l ++ m) = goes (goes r l) m := by
  induction l generalizing r with
  | nil => rfl
  | cons b l ih => rw [List.cons_append, goes_cons, goes_cons, ih]
/-- A register that is put against the first one: the bytes go in as they did. -/
theorem goes_xor (r q : Nat) (l : List UInt8) : goes (r ^^^ q) l = goes r l ^^^ pw (8 * l.length) q := by
  induction l generalizing r q with
  | nil => rfl
  | cons b l ih =>
    rw [goes_cons, goes_cons, Nat.xor_assoc, Nat.xor_comm q, ← Nat.xor_assoc, pw_xor, ih, pw_add, List.length_cons]
    congr 2; omega
theorem goes_zeros (r n : Nat) : goes r (List.replicate n 0) = pw (8 * n) r := by
  induction n generalizing r with
  | zero => rfl
  | succ n ih =>
    rw [List.replicate_succ, goes_cons, ih]
    show pw (8 * n) (pw 8 (r ^^^ 0)) = _
    rw [Nat.xor_zero, pw_add]
    congr 1; omega

/-- Lists that are put against one another. -/
def put (l m : List UInt8) : List UInt8 := l.zipWith (fun a b => a ^^^ b) m
theorem goes_put (r q : Nat) (l m : List UInt8) (h : l.length = m.length) : goes (r ^^^ q) (put l m) = goes r l ^^^ goes q m := by
  induction l generalizing r q m with
  | nil => cases m with
    | nil => rfl
    | cons => simp at h
  | cons a l ih => cases m with
    | nil => simp at h
    | cons b m =>
      have e : put (a :: l) (b :: m) = (a ^^^ b) :: put l m := rfl
      rw [e, goes_cons, goes_cons, goes_cons, UInt8.toNat_xor, ← ih _ _ _ (by simpa using h), ← pw_xor]
      congr 2
      rw [Nat.xor_assoc, Nat.xor_assoc, ← Nat.xor_assoc q, Nat.xor_comm q, Nat.xor_assoc]

theorem split_byte (n : Nat) : n = (n % 256) ^^^ (256 * (n / 256)) := by
  refine Nat.eq_of_testBit_eq fun i => ?_
  have e1 : n % 256 = n % 2 ^ 8 := rfl
  have e2 : 256 * (n / 256) = 2 ^ 8 * (n / 2 ^ 8) := rfl
  rw [Nat.testBit_xor, e1, e2, Nat.testBit_mod_two_pow, Nat.testBit_two_pow_mul, Nat.testBit_div_two_pow]
  by_cases h : i < 8
  · simp [h, show ¬ 8 ≤ i by omega]
  · have : i - 8 + 8 = i := by omega
    simp [h, show 8 ≤ i by omega, this]
theorem pw_split (r n : Nat) : pw 8 (r ^^^ (n % 256)) = pw 8 (r ^^^ n) ^^^ (n / 256) := by
  have h : pw 8 (r ^^^ n) = pw 8 (r ^^^ (n % 256)) ^^^ (n / 256) := by
    conv => rhs; rhs; rw [← pw_byte (n / 256)]
    rw [← pw_xor, Nat.xor_assoc, ← split_byte]
  rw [h, Nat.xor_assoc, Nat.xor_self, Nat.xor_zero]

/-- The four bytes of a number, the lowest first. -/
def four (n : Nat) : List UInt8 := [UInt8.ofNat n, UInt8.ofNat (n / 256), UInt8.ofNat (n / 65536), UInt8.ofNat (n / 16777216)]
theorem split_more (y m : Nat) : pw 8 ((y ^^^ m) ^^^ (UInt8.ofNat m).toNat) = pw 8 y ^^^ m / 256 := by
  have e : (UInt8.ofNat m).toNat = m % 256 := rfl
  have c (a b : Nat) : (a ^^^ b) ^^^ b = a := by rw [Nat.xor_assoc, Nat.xor_self, Nat.xor_zero]
  have h := pw_split (y ^^^ m) m
  rw [c] at h
  rw [e, h]
theorem goes_four (r n : Nat) (h : n < 4294967296) : goes r (four n) = pw 32 (r ^^^ n) := by
  obtain ⟨x, hx⟩ : ∃ x, x = r ^^^ n := ⟨_, rfl⟩
  have hr : r = x ^^^ n := by rw [hx, Nat.xor_assoc, Nat.xor_self, Nat.xor_zero]
  have d1 : n / 256 / 256 = n / 65536 := by omega
  have d2 : n / 65536 / 256 = n / 16777216 := by omega
  have d3 : n / 16777216 / 256 = 0 := by omega
  have k : pw 8 (pw 8 (pw 8 (pw 8 x))) = pw 32 x := by simp only [pw_add]
  rw [← hx]
  clear hx
  subst hr
  simp only [four, goes_cons, goes_nil, split_more, d1, d2, d3, Nat.xor_zero, k]

theorem flip_xor (r : Nat) (h : r < 4294967296) : flip r = 4294967295 ^^^ r := by
  have := (BitVec.ofNat 32 r).toNat_not
  have h2 : ~~~(BitVec.ofNat 32 r) = BitVec.allOnes 32 ^^^ BitVec.ofNat 32 r := by rw [BitVec.allOnes_xor]
  rw [h2, BitVec.toNat_xor, BitVec.toNat_ofNat, Nat.mod_eq_of_lt h] at this
  unfold flip
  have e : (BitVec.allOnes 32).toNat = 4294967295 := by decide
  rw [e] at this
  exact this.symm
theorem flip_lt (r : Nat) : flip r < 4294967296 := by unfold flip; omega
theorem flip_flip (r : Nat) (h : r < 4294967296) : flip (flip r) = r := by unfold flip; omega
theorem more_lt (s : Nat) (l : List UInt8) : more s l < 4294967296 := flip_lt _
theorem sum_lt (l : List UInt8) : sum l < 4294967296 := flip_lt _
theorem join_lt (a b : Nat) (n : Int) (ha : a < 4294967296) (hb : b < 4294967296) : join a b n < 4294967296 := by
  unfold join; split
  · decide
  · exact xor_lt _ _ (pw_lt _ _ ha) hb
theorem sum_eq (l : List UInt8) : sum l = 4294967295 ^^^ goes 4294967295 l := flip_xor _ (goes_lt _ _ (by decide))

/-- P3.4. -/
theorem sum_append (l m : List UInt8) : sum (l ++ m) = join (sum l) (sum m) m.length := by
  have h : join (sum l) (sum m) m.length = pw (8 * m.length) (sum l) ^^^ sum m := by
    unfold join; rw [if_neg (by omega), Int.toNat_natCast]
  rw [h, sum_eq, sum_eq, sum_eq, goes_append]
  have e : goes 4294967295 l = 4294967295 ^^^ (4294967295 ^^^ goes 4294967295 l) := by rw [← Nat.xor_assoc, Nat.xor_self, Nat.zero_xor]
  have g : goes (goes 4294967295 l) m = goes 4294967295 m ^^^ pw (8 * m.length) (4294967295 ^^^ goes 4294967295 l) := by
    conv => lhs; rw [e, goes_xor]
  rw [g, Nat.xor_comm (pw _ _), Nat.xor_assoc]

/-- P3.3: three texts. -/
theorem sum_three (a b c : List UInt8) (h : a.length = b.length) (k : b.length = c.length) : sum (put (put a b) c) = sum a ^^^ sum b ^^^ sum c := by
  have hl : (put a b).length = c.length := by simp [put]; omega
  have e : (4294967295 : Nat) = (4294967295 ^^^ 4294967295) ^^^ 4294967295 := by decide
  rw [sum_eq, sum_eq, sum_eq, sum_eq]
  have g : goes 4294967295 (put (put a b) c) = goes 4294967295 a ^^^ goes 4294967295 b ^^^ goes 4294967295 c := by
    conv => lhs; rw [e]
    rw [goes_put _ _ _ _ hl, goes_put _ _ _ _ h]
  rw [g]
  generalize goes 4294967295 a = x
  generalize goes 4294967295 b = y
  generalize goes 4294967295 c = z
  refine Nat.eq_of_testBit_eq fun i => ?_
  simp only [Nat.testBit_xor]
  cases (4294967295 : Nat).testBit i <;> cases x.testBit i <;> cases y.testBit i <;> cases z.testBit i <;> rfl

theorem xor_self_iff (a b : Nat) : a ^^^ b = a ↔ b = 0 := by
  constructor
  · intro h
    have : a ^^^ (a ^^^ b) = a ^^^ a := by rw [h]
    rw [← Nat.xor_assoc, Nat.xor_self, Nat.zero_xor] at this
    exact this
  · rintro rfl; rw [Nat.xor_zero]

/-- P3.3: a text with its sum behind it, or with another number. -/
theorem sum_sealed (l : List UInt8) (o : Nat) (h : o < 4294967296) : sum (l ++ four (sum l ^^^ o)) = 558161692 ↔ o = 0 := by
  have hn : sum l ^^^ o < 4294967296 := xor_lt _ _ (sum_lt l) h
  have e : goes 4294967295 (l ++ four (sum l ^^^ o)) = pw 32 4294967295 ^^^ pw 32 o := by
    rw [goes_append, goes_four _ _ hn, ← pw_xor, sum_eq, ← Nat.xor_assoc, ← Nat.xor_assoc, Nat.xor_comm (goes _ _), Nat.xor_assoc 4294967295, Nat.xor_self, Nat.xor_zero]
  have k : 4294967295 ^^^ pw 32 4294967295 = 558161692 := by decide
  rw [sum_eq, e, ← Nat.xor_assoc, k, xor_self_iff, pw_zero_iff _ _ h]

/-- P3.3: a text, in which four bytes side by side are put against others. -/
theorem sum_near (p m q : List UInt8) (n : Nat) (hm : m.length = 4) (h : n < 4294967296) : sum (p ++ put m (four n) ++ q) = sum (p ++ m ++ q) ↔ n = 0 := by
  have e : goes 4294967295 (p ++ put m (four n) ++ q) = goes 4294967295 (p ++ m ++ q) ^^^ pw (32 + 8 * q.length) n := by
    rw [goes_append, goes_append, goes_append, goes_append]
    generalize goes 4294967295 p = x
    have := goes_put x 0 m (four n) hm
    rw [Nat.xor_zero] at this
    rw [this, goes_four _ _ h, Nat.zero_xor, goes_xor, pw_add]
  rw [sum_eq, sum_eq, e, ← Nat.xor_assoc, xor_self_iff, pw_zero_iff _ _ h]

/-! Products. -/
theorem mul_sh (k p r q : Nat) : mul k (sh p) r (sh q) = sh (mul k p r q) := by
  induction k generalizing p r q with
  | zero => rfl
  | succ k ih =>
    rw [mul, mul, ← ih]
    split <;> simp [sh_xor]
theorem times_sh (r q : Nat) : times r (sh q) = sh (times r q) := mul_sh 32 0 r q
theorem times_pw (k r q : Nat) : times r (pw k q) = pw k (times r q) := by
  induction k with
  | zero => rfl
  | succ k ih => rw [pw_succ, pw_succ, times_sh, ih]
theorem mul_lt (k p r q : Nat) (hp : p < 4294967296) (hq : q < 4294967296) : mul k p r q < 4294967296 := by
  induction k generalizing p r q with
  | zero => exact hp
  | succ k ih =>
    refine ih _ _ _ ?_ (sh_lt _ hq)
    split
    · exact xor_lt _ _ hp hq
    · exact hp
theorem times_lt (r q : Nat) (hq : q < 4294967296) : times r q < 4294967296 := mul_lt _ _ _ _ (by decide) hq

theorem xor_high (i x y : Nat) (hx : x % 2 ^ i = 0) (hy : y < 2 ^ i) : x ^^^ y = x + y := by
  have h2 : x = 2 ^ i * (x / 2 ^ i) := by
    have := Nat.div_add_mod x (2 ^ i); omega
  rw [h2]
  refine Nat.eq_of_testBit_eq fun j => ?_
  rw [Nat.testBit_two_pow_mul_add _ hy, Nat.testBit_xor, Nat.testBit_two_pow_mul]
  by_cases hj : j < i
  · simp [hj, show ¬ i ≤ j by omega]
  · have : y.testBit j = false := Nat.testBit_lt_two_pow (Nat.lt_of_lt_of_le hy (Nat.pow_le_pow_right (by decide) (by omega)))
    simp [hj, show i ≤ j by omega, this]

theorem mul_unit (k : Nat) : k ≤ 32 → ∀ a p : Nat, a < 2 ^ k → p % 2 ^ k = 0 → ∀ q, (0 < k → q = 2 ^ (k - 1)) → mul k p (a * 2 ^ (32 - k)) q = p + a := by
  induction k with
  | zero => intro _ a p ha _ q _; have : a = 0 := by simpa using ha
            subst this; rfl
  | succ k ih =>
    intro hk a p ha hp q hq
    have hq := hq (by omega)
    rw [Nat.add_sub_cancel] at hq
    subst hq
    have hP : 2 ^ (k + 1) = 2 * 2 ^ k := by rw [Nat.pow_succ]; omega
    have hR : 2 ^ (32 - k) = 2 * 2 ^ (32 - (k + 1)) := by rw [show 32 - k = (32 - (k + 1)) + 1 by omega, Nat.pow_succ, Nat.mul_comm]
    have hPQ : 2 ^ k * 2 ^ (32 - (k + 1)) = 2147483648 := by rw [← Nat.pow_add, show k + (32 - (k + 1)) = 31 by omega]
    have hpos : 0 < 2 ^ (32 - (k + 1)) := Nat.pow_pos (by decide)
    have ih := ih (by omega)
    rw [hR] at ih
    rw [hP] at ha hp
    have hx : p % 2 ^ k = 0 := by
      have := Nat.mod_mod_of_dvd p (Nat.dvd_mul_left (2 ^ k) 2)
      rw [hp] at this; simpa using this.symm
    have hs : 0 < k → sh (2 ^ k) = 2 ^ (k - 1) := by
      intro h0
      rw [show 2 ^ k = 2 * 2 ^ (k - 1) by rw [Nat.mul_comm, ← Nat.pow_succ, show (k - 1).succ = k by omega], sh_two]
    rw [mul]
    have hxp : p ^^^ 2 ^ k = p + 2 ^ k := xor_high (k + 1) p _ (by rw [hP]; exact hp) (by rw [hP]; have := Nat.pow_pos (a := 2) (n := k) (by decide); omega)
    rw [hxp]
    generalize 2 ^ (32 - (k + 1)) = Q at *
    generalize hPg : 2 ^ k = P at *
    by_cases h : P ≤ a
    · obtain ⟨c, rfl⟩ := Nat.exists_eq_add_of_le h
      have hc : c < P := by omega
      have e1 : (P + c) * Q = 2147483648 + c * Q := by rw [Nat.add_mul, hPQ]
      have e2 : (P + c) * Q * 2 % 4294967296 = c * (2 * Q) := by
        have : c * (2 * Q) = 2 * (c * Q) := Nat.mul_left_comm _ _ _
        have hl : c * Q < P * Q := Nat.mul_lt_mul_of_pos_right hc hpos
        rw [this, e1]; omega
      rw [e2, if_pos (by rw [e1]; omega), ih c (p + P) hc (by rw [Nat.add_mod, hx]; simp) _ hs]
      omega
    · have hl : a * Q < P * Q := Nat.mul_lt_mul_of_pos_right (by omega) hpos
      have e2 : a * Q * 2 % 4294967296 = a * (2 * Q) := by
        have : a * (2 * Q) = 2 * (a * Q) := Nat.mul_left_comm _ _ _
        rw [this]; omega
      rw [e2, if_neg (by omega), ih a p (by omega) hx _ hs]

theorem times_unit (r : Nat) (h : r < 4294967296) : times r 2147483648 = r := by
  have := mul_unit 32 (by decide) r 0 h (by decide) 2147483648 (fun _ => by decide)
  simpa [times] using this
/-- The product with the polynomial x^8: eight bits. -/
theorem times_byte (r : Nat) (h : r < 4294967296) : times r 8388608 = pw 8 r := by
  have e : (8388608 : Nat) = pw 8 2147483648 := by decide
  rw [e, times_pw, times_unit r h]

/-- A step: the product with it is m bits. -/
def Step (q m : Nat) : Prop := q < 4294967296 ∧ ∀ r, r < 4294967296 → times r q = pw m r
theorem step_first : Step 8388608 8 := ⟨by decide, times_byte⟩
theorem step_next (q m : Nat) (h : Step q m) : Step (times q q) (m + m) := by
  refine ⟨times_lt _ _ h.1, fun r hr => ?_⟩
  rw [h.2 q h.1, times_pw, h.2 r hr, pw_add]
/-- Repeated steps. -/
theorem step_odd (r q m n : Nat) (hr : r < 4294967296) (h : Step q m) (ho : n % 2 = 1) : pw (m * n) r = pw ((m + m) * (n / 2)) (times r q) := by
  rw [h.2 r hr, pw_add]
  congr 1
  have : n = 2 * (n / 2) + 1 := by omega
  generalize n / 2 = c at this
  rw [this, Nat.mul_add, Nat.add_mul, Nat.mul_one, Nat.mul_left_comm]; omega
theorem step_even (r m n : Nat) (ho : n % 2 ≠ 1) : pw (m * n) r = pw ((m + m) * (n / 2)) r := by
  congr 1
  have : n = 2 * (n / 2) := by omega
  generalize n / 2 = c at this
  rw [this, Nat.add_mul, Nat.mul_left_comm]; omega

/-- P3.4: so many zero bytes, and then so many more. -/
theorem join_add (a : Nat) (x y : Nat) : join (join a 0 x) 0 y = join a 0 ((x : Int) + y) := by
  unfold join
  rw [if_neg (by omega), if_neg (by omega), if_neg (by omega), Nat.xor_zero, Nat.xor_zero, Nat.xor_zero, pw_add]
  congr 1; omega

/-! The numbers that the chapter names. -/
theorem sum_nine : sum [49, 50, 51, 52, 53, 54, 55, 56, 57] = 3421780262 := by decide +kernel
theorem sum_none : sum [] = 0 := by decide
theorem sum_null : sum [0] = 3523407757 := by decide +kernel
theorem join_nine : join (sum [49, 50, 51, 52]) (sum [53, 54, 55, 56, 57]) 5 = 3421780262 := by decide +kernel

end Cr
end Go.Proofs.Ytmekaofjcjmklaa
