/- The walks of packed's small functions: Width, mayBeWidth, size, the closures that tell bits, number. -/
import Derived.Test.YtbhngncnhabbkaaGreatPRow
import Derived.OneCell
import Derived.Laws.BitsAllLaws
import Derived.Maps.AppendAt
import Derived.RangeFuncBox
namespace Go.Proofs.YtbhngncnhabbkaaGreat
open Go.RowKit

theorem i64_and1 (n : Nat) (h : n < 9223372036854775808) : bits .and .i64 (n : Int) 1 = ((n % 2 : Nat) : Int) := by
  have h1 : (BitVec.ofInt 64 1).toNat = 2 ^ 1 - 1 := by decide
  show IntKind.i64.wrap ((BitVec.ofInt 64 (n : Int) &&& BitVec.ofInt 64 1).toNat : Int) = _
  rw [BitVec.toNat_and, ofInt_u64 n (by omega), h1, Nat.and_two_pow_sub_one_eq_mod, IntKind.wrap_i64]
  omega

theorem i64_or_add (a b k : Nat) (ha : a < 2 ^ k) (hb : b ≤ 1) (hk : k < 62) : bits .or .i64 (a : Int) ((b * 2 ^ k : Nat) : Int) = ((a + b * 2 ^ k : Nat) : Int) := by
  have hp : 2 ^ k ≤ 2 ^ 61 := Nat.pow_le_pow_right (by omega) (by omega)
  have hm : b * 2 ^ k ≤ 1 * 2 ^ k := Nat.mul_le_mul_right _ hb
  have e : a ||| b * 2 ^ k = a + b * 2 ^ k := by
    rw [Nat.or_comm, nat_join k (b * 2 ^ k) a (Nat.mul_mod_left _ _) ha, Nat.add_comm]
  show IntKind.i64.wrap ((BitVec.ofInt 64 (a : Int) ||| BitVec.ofInt 64 ((b * 2 ^ k : Nat) : Int)).toNat : Int) = _
  rw [BitVec.toNat_or, ofInt_u64 a (by omega), ofInt_u64 (b * 2 ^ k) (by omega), e, IntKind.wrap_i64]
  omega

theorem may_any (z : Int) (w : World) : Calls Tryz.prog 82 #[.int .i64 z] w fun e w' => e = .returned (.bool (decide (0 ≤ z ∧ z ≤ 32))) ∧ w' = w := by
  go_enter Tryz.func82, Tryz.ntmps82
  go_wp2
  all_goals go_ret
  all_goals refine ⟨congrArg (fun b => Ending.returned (.bool b)) ?_, rfl⟩
  all_goals (simp; try omega)

theorem size_anyXP (m n : Nat) (w : World) (hm : m ≤ 65536) (hn : n ≤ 32) : Calls Tryz.prog 84 #[.int .i64 m, .int .i64 n] w fun e w' => e = .returned (.int .i64 (Pk.size m n)) ∧ w' = w := by
  have hp : m * n ≤ 65536 * 32 := Nat.mul_le_mul hm hn
  have hp2 : (m : Int) * n = ((m * n : Nat) : Int) := by simp
  have HS : Hid (Pk.size m n = (m * n + 7) / 8) := rfl
  generalize m * n = x at *
  generalize Pk.size m n = y at *
  go_enter Tryz.func84, Tryz.ntmps84
  go_wp2
  go_ret
  refine ⟨congrArg (fun b => Ending.returned (.int .i64 b)) ?_, rfl⟩
  have := HS.out
  omega

theorem len_any (x : Int) (w : World) (h0 : 0 ≤ x) (h1 : x ≤ 18446744073709551615) :
    Calls Tryz.prog 80 #[.int .u64 x] w fun e w' => e = .returned (.int .i64 (Lib.bitLen x.toNat)) ∧ w' = w := by
  have HL := len64_any x w h0 h1
  generalize Lib.bitLen x.toNat = y at HL
  go_enter Tryz.func80, Tryz.ntmps80
  go_wp2_with fail
  refine HL.mono ?_
  rintro e w' ⟨rfl, rfl⟩
  go_wp2
  go_ret
  exact ⟨rfl, rfl⟩

set_option maxHeartbeats 1000000 in
theorem width_any (v : Value) (zs : List Int) (w : World) (h : Ints w v zs) (hf : Pk.Fit zs) (hl : zs.length ≤ 1000000000000) :
    Calls Tryz.prog 54 #[v] w fun e w' => e = .returned (.int .i64 (Pk.wid zs)) ∧ w' = w := by
  obtain ⟨a, cap, rfl, h⟩ := h
  have HC : Hid (∀ j, j < zs.length → ∃ b off, a = some ⟨b, off, none⟩ ∧ w.cell? ⟨b, off + j, none⟩ = some (.int .i64 (zs.getD j 0))) := by
    intro j hj
    rcases h with rfl | ⟨b, off, rfl, _, hc⟩
    · simp at hj
    · exact ⟨b, off, rfl, hc j hj⟩
  have HF : Hid _ := hf
  clear h hf
  go_enter Tryz.func54, Tryz.ntmps54
  go_wp2
  go_loop [3, 8] (fun p i => ∃ k : Nat, k ≤ zs.length ∧ i = .int .i64 k ∧ p = .int .i64 (Pk.wids 0 (zs.take k))) (fun _ i => zs.length - (intOf i).toNat)
  case atStart => exact ⟨0, Nat.zero_le _, rfl, rfl⟩
  case round =>
    obtain ⟨k, hk, rfl, rfl⟩ := hrel
    have H64 := Pk.wids_64 (zs.take k)
    by_cases hlt : k < zs.length
    · obtain ⟨b, off, rfl, hc⟩ := HC.out k hlt
      have hf1 := Pk.Fit.at HF.out k
      have HT : Hid _ := Pk.wids_take zs k hlt
      have HL := fun w => len_any (zs.getD k 0 % 18446744073709551616) w (by omega) (by omega)
      have HU : Hid (Pk.u (zs.getD k 0) = (zs.getD k 0 % 18446744073709551616).toNat) := rfl
      generalize zs.getD k 0 = z at *
      rw [HU.out] at HT
      generalize Lib.bitLen (z % 18446744073709551616).toNat = x at *
      generalize Pk.wids 0 (zs.take k) = y at *
      go_wp2_with fail
      refine (HL _).mono ?_
      rintro e w' ⟨rfl, rfl⟩
      go_wp2
      go_round
      case rel => exact ⟨k + 1, by omega, by go_num, by rw [HT.out]; go_num⟩
      case measure => simp [intOf]; omega
    · obtain rfl : k = zs.length := by omega
      have HE : Hid (Pk.wid zs = min (Pk.wids 0 (zs.take zs.length)) 33) := by
        show Pk.wid zs = _
        rw [List.take_length]; rfl
      generalize Pk.wids 0 (zs.take zs.length) = y at *
      go_wp2
      go_ret
      exact ⟨congrArg (fun b => Ending.returned (.int .i64 b)) (by have := HE.out; omega), rfl⟩

/-- A box of one cell. -/
abbrev Box (w : World) (b : Nat) (t : TypeId) (v : Value) : Prop := w.heap[b]? = some (.cells #[v] t (0, 0))

set_option maxHeartbeats 1000000 in
/-- The closure that tells the bits of a text. -/
theorem nextT_any (b1 b2 p : Nat) (s : ByteArray) (w : World) (h1 : Box w b1 9 (.string s)) (h2 : Box w b2 3 (.int .i64 p)) (hs : s.size ≤ 1000000000000) (hp : p < 8 * s.size) :
    Calls Tryz.prog 138 #[.pointer (some ⟨b1, 0, none⟩), .pointer (some ⟨b2, 0, none⟩)] w fun e w' =>
      e = .returned (.int .i64 (Pk.sb s.data.toList p)) ∧ w' = w.drew.setCell ⟨b2, 0, none⟩ (.int .i64 ((p + 1 : Nat) : Int)) := by
  have c1 := cell_of_one h1
  have c2 := cell_of_one h2
  have f2 := free_of_one h2
  obtain ⟨q, hq, hqs⟩ : ∃ q : Nat, (p : Int) / 8 = q ∧ q < s.size := ⟨p / 8, by omega, by omega⟩
  obtain ⟨r, hr, hr8⟩ : ∃ r : Nat, (p : Int) % 8 = r ∧ r < 8 := ⟨p % 8, by omega, by omega⟩
  obtain ⟨y, hy, hy8⟩ : ∃ y : Nat, (s[q].toNat : Int) / 2 ^ r = y ∧ y ≤ 255 := by
    refine ⟨s[q].toNat / 2 ^ r, by simp, ?_⟩
    have := Nat.div_le_self s[q].toNat (2 ^ r)
    have := UInt8.toNat_lt s[q]
    omega
  have ha := i64_and1 y (by omega)
  have HE : Hid (((y % 2 : Nat) : Int) = Pk.sb s.data.toList p) := by
    show ((y % 2 : Nat) : Int) = Pk.sb s.data.toList p
    have e1 : p / 8 = q := by omega
    have e2 : p % 8 = r := by omega
    have e3 : s.data.toList.getD q 0 = s[q] := by simp [List.getD, hqs]; rfl
    have e4 : s[q].toNat / 2 ^ r = y := by
      have : ((s[q].toNat / 2 ^ r : Nat) : Int) = y := by rw [← hy]; simp
      omega
    unfold Pk.sb
    rw [e1, e2, e3, e4]
  generalize (Pk.sb s.data.toList p : Int) = z at *
  rw [HE.out] at ha
  clear HE
  go_enter Tryz.func138, Tryz.ntmps138
  go_wp2
  go_region
  all_goals go_wp2
  all_goals go_ret
  all_goals exact ⟨rfl, rfl⟩

set_option maxHeartbeats 1000000 in
/-- The closure that tells the bits of a table, where there are some left. -/
theorem nextN_yes (b0 b1 b2 p n : Nat) (a : Option Addr) (cap : Nat) (l : List Int) (w : World) (hb : Box w b0 3 (.int .i64 p)) (h1 : Box w b1 58 (.slice a l.length cap)) (h2 : Box w b2 3 (.int .i64 n))
    (hc : ∀ j, j < l.length → ∃ b off, a = some ⟨b, off, none⟩ ∧ w.cell? ⟨b, off + j, none⟩ = some (.int .i64 (l.getD j 0))) (hm : Pk.May l n) (hn : n ≤ 32) (hl : l.length ≤ 65536) (hp : p < l.length * n) :
    Calls Tryz.prog 109 #[.pointer (some ⟨b0, 0, none⟩), .pointer (some ⟨b1, 0, none⟩), .pointer (some ⟨b2, 0, none⟩)] w fun e w' =>
      e = .returned (.int .i64 (Pk.tb l n p)) ∧ w' = w.drew.setCell ⟨b0, 0, none⟩ (.int .i64 ((p + 1 : Nat) : Int)) := by
  have c0 := cell_of_one hb
  have c1 := cell_of_one h1
  have c2 := cell_of_one h2
  have f0 := free_of_one hb
  have hn0 : 0 < n := by
    rcases Nat.eq_zero_or_pos n with rfl | h
    · simp at hp
    · exact h
  have hln : l.length * n ≤ 65536 * 32 := Nat.mul_le_mul hl hn
  have hln2 : (l.length : Int) * n = ((l.length * n : Nat) : Int) := by simp
  obtain ⟨q, hq, hq2⟩ : ∃ q : Nat, (p : Int) / n = q ∧ q < l.length := ⟨p / n, by simp, Nat.div_lt_of_lt_mul (by rw [Nat.mul_comm]; exact hp)⟩
  obtain ⟨r, hr, hr2⟩ : ∃ r : Nat, (p : Int) % n = r ∧ r < n := ⟨p % n, by simp, Nat.mod_lt _ hn0⟩
  obtain ⟨b, off, rfl, hcq⟩ := hc q hq2
  have hmq := hm.at q
  have hp32 := Pk.pow32 n hn
  obtain ⟨x, hx⟩ := Int.eq_ofNat_of_zero_le hmq.1
  have HE : Hid (Pk.tb l n p = x / 2 ^ r % 2) := by
    show Pk.tb l n p = x / 2 ^ r % 2
    have e1 : p / n = q := by have : ((p / n : Nat) : Int) = q := by rw [← hq]; simp
                              omega
    have e2 : p % n = r := by have : ((p % n : Nat) : Int) = r := by rw [← hr]; simp
                              omega
    unfold Pk.tb
    rw [if_pos hp, e1, e2, hx]
    rfl
  rw [hx] at hcq hmq
  have hx32 : x < 4294967296 := by simp at hmq; omega
  obtain ⟨y, hy, hy8⟩ : ∃ y : Nat, (x : Int) / 2 ^ r = y ∧ y ≤ 4294967295 := by
    refine ⟨x / 2 ^ r, by simp, ?_⟩
    have := Nat.div_le_self x (2 ^ r)
    omega
  have ha := i64_and1 y (by omega)
  have hyx : x / 2 ^ r = y := by have : ((x / 2 ^ r : Nat) : Int) = y := by rw [← hy]; simp
                                 omega
  rw [← hyx, ← HE.out, hyx] at ha
  generalize (Pk.tb l n p : Int) = z at *
  clear hb h1 h2 hc hm hx hmq hyx HE
  generalize l.length * n = N at *
  generalize l.length = L at *
  go_enter Tryz.func109, Tryz.ntmps109
  go_wp2
  go_region
  all_goals go_wp2
  all_goals go_ret
  all_goals exact ⟨rfl, rfl⟩

set_option maxHeartbeats 1000000 in
/-- Behind them it tells 0. -/
theorem nextN_no (b0 b1 b2 p n : Nat) (a : Option Addr) (cap L : Nat) (w : World) (hb : Box w b0 3 (.int .i64 p)) (h1 : Box w b1 58 (.slice a L cap)) (h2 : Box w b2 3 (.int .i64 n)) (hn : n ≤ 32) (hl : L ≤ 65536) (hp : L * n ≤ p) :
    Calls Tryz.prog 109 #[.pointer (some ⟨b0, 0, none⟩), .pointer (some ⟨b1, 0, none⟩), .pointer (some ⟨b2, 0, none⟩)] w fun e w' =>
      e = .returned (.int .i64 0) ∧ w' = w := by
  have c0 := cell_of_one hb
  have c1 := cell_of_one h1
  have c2 := cell_of_one h2
  have hln : L * n ≤ 65536 * 32 := Nat.mul_le_mul hl hn
  have hln2 : (L : Int) * n = ((L * n : Nat) : Int) := by simp
  generalize L * n = N at *
  go_enter Tryz.func109, Tryz.ntmps109
  go_wp2
  go_ret
  exact ⟨rfl, rfl⟩

end Go.Proofs.YtbhngncnhabbkaaGreat

/- The walk of packed.number: over a function that tells bits one by one it tells the number of so many. -/
namespace Go.Proofs.YtbhngncnhabbkaaGreat
open Go.RowKit

/-- The function value tells bit p where I p stands, up to hi. -/
def Tells (f : FuncId) (cap : Array Value) (g : Nat → Nat) (hi : Nat) (I : Nat → World → Prop) : Prop :=
  ∀ p w, I p w → p < hi → Calls Tryz.prog f cap w fun e w' => e = .returned (.int .i64 (g p)) ∧ I (p + 1) w'

theorem pow_lt62 {k : Nat} (h : k ≤ 32) : 2 ^ k ≤ 4294967296 := Pk.pow32 k h

set_option maxHeartbeats 1000000 in
theorem number_anyXP (f : FuncId) (hf : f = 138 ∨ f = 109) (cap : Array Value) (g : Nat → Nat) (hg : ∀ k, g k ≤ 1) (hi : Nat) (I : Nat → World → Prop) (H : Tells f cap g hi I) (p n : Nat) (hn : n ≤ 32) (hp : p + n ≤ hi) (w : World) (h0 : I p w) :
    Calls Tryz.prog 86 #[.func (.func f) #[] cap, .int .i64 n] w fun e w' => e = .returned (.int .i64 (Pk.num g p n)) ∧ I (p + n) w' := by
  have H : Hid _ := H
  have HI : Hid _ := h0
  clear h0
  rcases hf with rfl | rfl
  all_goals
    go_enter Tryz.func86, Tryz.ntmps86
    go_wp2
    go_loopw [5, 8] (fun x i wr => ∃ k : Nat, k ≤ n ∧ i = .int .i64 k ∧ x = .int .i64 (Pk.num g p k) ∧ Hid (I (p + k) wr)) (fun _ i _ => n - (intOf i).toNat)
    case atStart => exact ⟨0, Nat.zero_le _, rfl, rfl, HI⟩
    case round =>
      obtain ⟨k, hk, rfl, rfl, hI⟩ := hrel
      by_cases hlt : k < n
      · have HS : Hid (Calls _ _ _ _ _) := H.out (p + k) wr hI.out (by omega)
        have HN : Hid (Pk.num g p (k + 1) = Pk.num g p k + g (p + k) * 2 ^ k) := rfl
        have h1 := Pk.num_lt hg p k
        have h2 := hg (p + k)
        have h3 := pow_lt62 (show k ≤ 32 by omega)
        generalize Pk.num g p k = x at *
        generalize g (p + k) = y at *
        have ho := i64_or_add x y k h1 h2 (by omega)
        have h4 : y * 2 ^ k ≤ 1 * 2 ^ k := Nat.mul_le_mul_right _ h2
        have hm : (y : Int) * 2 ^ k = ((y * 2 ^ k : Nat) : Int) := by simp
        generalize y * 2 ^ k = m at *
        go_wp2_with fail
        refine Calls.mono HS.out ?_
        rintro e w' ⟨rfl, hI2⟩
        have hI2 : Hid _ := hI2
        go_wp2
        go_roundw
        case rel => exact ⟨k + 1, by omega, by go_num, by rw [HN.out]; go_num, hI2⟩
        case measure => simp [intOf]; omega
      · obtain rfl : k = n := by omega
        have HX : Hid _ := (show Hid (∃ x, x = Pk.num g p k) from ⟨_, rfl⟩)
        obtain ⟨x, hx⟩ := HX.out
        have HX : Hid _ := hx
        rw [← hx]
        clear hx
        go_wp2
        go_ret
        exact ⟨congrArg (fun n : Nat => Ending.returned (.int .i64 n)) HX.out, hI.out⟩

end Go.Proofs.YtbhngncnhabbkaaGreat

/- The walks of bitsOfText, bitsOfNumbers and packed.At. -/
namespace Go.Proofs.YtbhngncnhabbkaaGreat
open Go.RowKit

theorem step_grown (w : World) (b : Nat) (v : Value) : w.grownBy (w.drew.setCell ⟨b, 0, none⟩ v) (some b) := by
  have k := grownBy_setCell' w.drew b v
  exact ⟨k.os, k.tape, k.output, k.size, k.block⟩

theorem box_grown {w w' : World} {b : Nat} {t : TypeId} {v : Value} {row : Option Nat} (h : Box w b t v) (hg : w.grownBy w' row) (hne : some b ≠ row) : Box w' b t v := (hg.block b (lt_of_block h) hne).trans h

theorem box_new (w : World) (t : TypeId) (v : Value) (k : Nat) (hk : k = w.heap.size) : Box (w.alloc (.cells #[v] t)) k t v := by
  subst hk
  exact heap_alloc_new _ _
theorem box_alloc {w : World} {b : Nat} {t : TypeId} {v : Value} (h : Box w b t v) (o : Obj) : Box (w.alloc o) b t v := by
  rw [Box, Below.heap_alloc _ _ _ (lt_of_block h)]
  exact h
theorem box_other {w : World} {b c : Nat} {t : TypeId} {v u : Value} (h : Box w b t v) (hne : b ≠ c) : Box (w.setCell ⟨c, 0, none⟩ u) b t v := by
  rw [Box, Below.heap_setCell _ _ _ _ hne]
  exact h

/-- Where the closure over a text stands. -/
def TextAt (wS : World) (b1 b2 : Nat) (s : ByteArray) (p : Nat) (w : World) : Prop :=
  Box w b1 9 (.string s) ∧ Box w b2 3 (.int .i64 p) ∧ wS.grownBy w (some b2)

theorem tellsT (wS : World) (b1 b2 : Nat) (s : ByteArray) (hs : s.size ≤ 1000000000000) (hne : b1 ≠ b2) :
    Tells 138 #[.pointer (some ⟨b1, 0, none⟩), .pointer (some ⟨b2, 0, none⟩)] (Pk.sb s.data.toList) (8 * s.size) (TextAt wS b1 b2 s) := by
  rintro p w ⟨h1, h2, hg⟩ hp
  refine (nextT_any b1 b2 p s w h1 h2 hs hp).mono ?_
  rintro e w' ⟨rfl, rfl⟩
  have hk := step_grown w b2 (.int .i64 ((p + 1 : Nat) : Int))
  exact ⟨rfl, box_grown h1 hk (by simpa using hne), one_setCell (w := w.drew) h2, hg.trans hk⟩

/-- Where the closure over a table stands. -/
def TableAt (wS : World) (b0 b1 b2 : Nat) (a : Option Addr) (cap : Nat) (l : List Int) (n p : Nat) (w : World) : Prop :=
  Box w b0 3 (.int .i64 (min p (l.length * n) : Nat)) ∧ Box w b1 58 (.slice a l.length cap) ∧ Box w b2 3 (.int .i64 n) ∧ wS.grownBy w (some b0)

theorem tellsN (wS : World) (b0 b1 b2 : Nat) (a : Option Addr) (cap : Nat) (l : List Int) (n hi : Nat) (h01 : b1 ≠ b0) (h02 : b2 ≠ b0)
    (hc : ∀ j, j < l.length → ∃ b off, a = some ⟨b, off, none⟩ ∧ b ≠ b0 ∧ wS.cell? ⟨b, off + j, none⟩ = some (.int .i64 (l.getD j 0))) (hm : Pk.May l n) (hn : n ≤ 32) (hl : l.length ≤ 65536) :
    Tells 109 #[.pointer (some ⟨b0, 0, none⟩), .pointer (some ⟨b1, 0, none⟩), .pointer (some ⟨b2, 0, none⟩)] (Pk.tb l n) hi (TableAt wS b0 b1 b2 a cap l n) := by
  rintro p w ⟨h0, h1, h2, hg⟩ _
  by_cases hp : p < l.length * n
  · rw [show min p (l.length * n) = p by omega] at h0
    refine (nextN_yes b0 b1 b2 p n a cap l w h0 h1 h2 ?_ hm hn hl hp).mono ?_
    · intro j hj
      obtain ⟨b, off, rfl, hb, hcj⟩ := hc j hj
      exact ⟨b, off, rfl, hg.cell hcj (by simpa using hb)⟩
    · rintro e w' ⟨rfl, rfl⟩
      have hk := step_grown w b0 (.int .i64 ((p + 1 : Nat) : Int))
      refine ⟨rfl, ?_, box_grown h1 hk (by simpa using h01), box_grown h2 hk (by simpa using h02), hg.trans hk⟩
      rw [show min (p + 1) (l.length * n) = p + 1 by omega]
      exact one_setCell (w := w.drew) h0
  · have e1 : min p (l.length * n) = l.length * n := by omega
    have e2 : min (p + 1) (l.length * n) = l.length * n := by omega
    rw [e1] at h0
    have e3 : Pk.tb l n p = 0 := by unfold Pk.tb; rw [if_neg hp]
    rw [e3]
    refine (nextN_no b0 b1 b2 (l.length * n) n a cap l.length w h0 h1 h2 hn hl (Nat.le_refl _)).mono ?_
    rintro e w' ⟨rfl, rfl⟩
    refine ⟨rfl, ?_, h1, h2, hg⟩
    rw [e2]
    exact h0

theorem textBits_any (s : ByteArray) (p : Int) (w : World) :
    Calls Tryz.prog 131 #[.string s, .int .i64 p] w fun e w' =>
      e = .returned (.func (.func 138) #[] #[.pointer (some ⟨w.heap.size, 0, none⟩), .pointer (some ⟨w.heap.size + 1, 0, none⟩)]) ∧
      Box w' w.heap.size 9 (.string s) ∧ Box w' (w.heap.size + 1) 3 (.int .i64 p) ∧ Below w.heap.size w w' ∧ w'.heap.size = w.heap.size + 2 := by
  go_enter Tryz.func131, Tryz.ntmps131
  go_wp2
  go_ret
  exact ⟨rfl, box_alloc (box_new w _ _ _ rfl) _, box_new _ _ _ _ (by simp), ((Below.refl _ w).alloc (Nat.le_refl _) _).alloc (by simp) _, by simp⟩

set_option maxHeartbeats 1000000 in
theorem tableBits_any (a : Option Addr) (L cap n : Nat) (w : World) :
    Calls Tryz.prog 83 #[.slice a L cap, .int .i64 n] w fun e w' =>
      e = .returned (.func (.func 109) #[] #[.pointer (some ⟨w.heap.size + 2, 0, none⟩), .pointer (some ⟨w.heap.size, 0, none⟩), .pointer (some ⟨w.heap.size + 1, 0, none⟩)]) ∧
      Box w' (w.heap.size + 2) 3 (.int .i64 0) ∧ Box w' w.heap.size 58 (.slice a L cap) ∧ Box w' (w.heap.size + 1) 3 (.int .i64 n) ∧ Below w.heap.size w w' ∧ w'.heap.size = w.heap.size + 3 := by
  go_enter Tryz.func83, Tryz.ntmps83
  go_wp2
  go_ret
  have h0 := box_new ((w.alloc (.cells #[.slice a L cap] 58)).alloc (.cells #[.int .i64 n] 3)) 3 (.int .i64 0) (w.heap.size + 2) (by simp)
  have h1 := box_alloc (box_alloc (box_new w 58 (.slice a L cap) _ rfl) (.cells #[.int .i64 n] 3)) (.cells #[.int .i64 0] 3)
  have h2 := box_alloc (box_new (w.alloc (.cells #[.slice a L cap] 58)) 3 (.int .i64 n) (w.heap.size + 1) (by simp)) (.cells #[.int .i64 0] 3)
  exact ⟨rfl, h0, h1, h2, (((Below.refl _ w).alloc (Nat.le_refl _) _).alloc (by simp) _).alloc (by simp; omega) _, by simp⟩


end Go.Proofs.YtbhngncnhabbkaaGreat
