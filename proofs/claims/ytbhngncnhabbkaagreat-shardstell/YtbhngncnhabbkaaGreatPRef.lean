/- The walk of packed.Unpack. -/
import Derived.Test.YtbhngncnhabbkaaGreatPPack
namespace Go.Proofs.YtbhngncnhabbkaaGreat
open Go.RowKit Go.Shelf

namespace Pk
/-- What Unpack tells: numbers and an error. -/
def unpack (s : List UInt8) (m n : Int) : List Int × Int :=
  if ¬ (0 ≤ n ∧ n ≤ 32) ∨ m < 0 then ([], 2) else if 65536 < m then ([], 3) else if Ok s n.toNat m.toNat then (un s n.toNat m.toNat, 0) else ([], 10)

theorem unpack_arg {s : List UInt8} {m n : Int} (h : ¬ (0 ≤ n ∧ n ≤ 32) ∨ m < 0) : unpack s m n = ([], 2) := by unfold unpack; rw [if_pos h]
theorem unpack_long {s : List UInt8} {m n : Int} (h : ¬ (¬ (0 ≤ n ∧ n ≤ 32) ∨ m < 0)) (h2 : 65536 < m) : unpack s m n = ([], 3) := by unfold unpack; rw [if_neg h, if_pos h2]
theorem unpack_ok {s : List UInt8} {m n : Nat} (hn : n ≤ 32) (hm : m ≤ 65536) (h : Ok s n m) : unpack s m n = (un s n m, 0) := by
  unfold unpack
  rw [if_neg (by omega), if_neg (by omega), Int.toNat_natCast, Int.toNat_natCast, if_pos h]
theorem unpack_no {s : List UInt8} {m n : Nat} (hn : n ≤ 32) (hm : m ≤ 65536) (h : ¬ Ok s n m) : unpack s m n = ([], 10) := by
  unfold unpack
  rw [if_neg (by omega), if_neg (by omega), Int.toNat_natCast, Int.toNat_natCast, if_neg h]

/-- The first i numbers, and nothing yet behind them. -/
def part (s : List UInt8) (n m i : Nat) : List Int := un s n i ++ List.replicate (m - i) 0
theorem part_zero (s : List UInt8) (n m : Nat) : part s n m 0 = List.replicate m 0 := by simp [part, un_zero]
theorem part_full (s : List UInt8) (n m : Nat) : part s n m m = un s n m := by simp [part]
theorem part_length (s : List UInt8) (n m i : Nat) (h : i ≤ m) : (part s n m i).length = m := by
  simp [part, un_length]; omega
theorem part_set (s : List UInt8) (n m i : Nat) (h : i < m) : (part s n m i).set i (num (sb s) (i * n) n : Int) = part s n m (i + 1) := by
  obtain ⟨k, hk⟩ : ∃ k, m - i = k + 1 := ⟨m - i - 1, by omega⟩
  have h2 : m - (i + 1) = k := by omega
  unfold part
  rw [un_succ, hk, h2, List.set_append_right _ _ (by rw [un_length]; omega), un_length, Nat.sub_self, List.replicate_succ, List.set_cons_zero, List.append_assoc]
  rfl
end Pk

theorem ints_none (W : World) : Ints W (.slice none 0 0) [] := ⟨none, 0, rfl, .inl rfl⟩

theorem unpack_arg (s : ByteArray) (m n : Int) (w : World) (h : ¬ (0 ≤ n ∧ n ≤ 32) ∨ m < 0) :
    Calls Tryz.prog 114 #[.string s, .int .i64 m, .int .i64 n] w fun e w' => e = .returned (.tuple #[.slice none 0 0, .int .i64 2]) ∧ Below w.heap.size w w' := by
  have HM := may_any n w
  by_cases hn : 0 ≤ n ∧ n ≤ 32
  · rw [show decide (0 ≤ n ∧ n ≤ 32) = true by simpa using hn] at HM
    have hi : m < 0 := by omega
    go_enter Tryz.func114, Tryz.ntmps114
    go_wp2_with fail
    refine HM.mono ?_
    rintro e w' ⟨rfl, rfl⟩
    go_wp2
    go_ret2
    exact ⟨rfl, Below.refl _ _⟩
  · rw [show decide (0 ≤ n ∧ n ≤ 32) = false by simpa using hn] at HM
    clear h
    go_enter Tryz.func114, Tryz.ntmps114
    go_wp2_with fail
    refine HM.mono ?_
    rintro e w' ⟨rfl, rfl⟩
    go_wp2
    go_ret2
    exact ⟨rfl, Below.refl _ _⟩

theorem unpack_long (s : ByteArray) (m : Int) (n : Nat) (w : World) (hn : n ≤ 32) (h : 65536 < m) :
    Calls Tryz.prog 114 #[.string s, .int .i64 m, .int .i64 n] w fun e w' => e = .returned (.tuple #[.slice none 0 0, .int .i64 3]) ∧ Below w.heap.size w w' := by
  have HM := may_any n w
  rw [show decide (0 ≤ (n : Int) ∧ (n : Int) ≤ 32) = true by simp; omega] at HM
  go_enter Tryz.func114, Tryz.ntmps114
  go_wp2_with fail
  refine HM.mono ?_
  rintro e w' ⟨rfl, rfl⟩
  go_wp2
  go_ret2
  exact ⟨rfl, Below.refl _ _⟩

theorem unpack_form (s : ByteArray) (m n : Nat) (w : World) (hn : n ≤ 32) (hm : m ≤ 65536) (h : s.size ≠ Pk.size m n) :
    Calls Tryz.prog 114 #[.string s, .int .i64 m, .int .i64 n] w fun e w' => e = .returned (.tuple #[.slice none 0 0, .int .i64 10]) ∧ Below w.heap.size w w' := by
  have HM := may_any n w
  rw [show decide (0 ≤ (n : Int) ∧ (n : Int) ≤ 32) = true by simp; omega] at HM
  have HS := fun w => size_anyXP m n w hm hn
  generalize Pk.size m n = N at *
  have hb : ((s.size : Int) == (N : Int)) = false := by simp; omega
  go_enter Tryz.func114, Tryz.ntmps114
  go_wp2_with fail
  refine HM.mono ?_
  rintro e w' ⟨rfl, rfl⟩
  go_wp2_with fail
  refine (HS _).mono ?_
  rintro e w' ⟨rfl, rfl⟩
  go_wp2
  go_ret2
  exact ⟨rfl, Below.refl _ _⟩

/-- Where a round of Unpack's loop begins. -/
structure Unpacking (w wr : World) (B : Nat) (s : ByteArray) (n m i : Nat) : Prop where
  text : Box wr B 9 (.string s)
  place : Box wr (B + 1) 3 (.int .i64 (i * n : Nat))
  row : wr.ownsRow B 3 1 (.slice (some ⟨B + 2, 0, none⟩) m m) m ((Pk.part s.data.toList n m i).map (Value.int .i64))
  below : Below w.heap.size w wr
  size : B + 3 ≤ wr.heap.size

theorem Unpacking.next {w wr w3 : World} {s : ByteArray} {n m i : Nat} (R : Unpacking w wr w.heap.size s n m i) (h : TextAt wr w.heap.size (w.heap.size + 1) s (i * n + n) w3) (hi : i < m) :
    (∃ v, w3.cell? ⟨w.heap.size + 2, i, none⟩ = some v) ∧ w3.frozen? ⟨w.heap.size + 2, i, none⟩ = false ∧
    Unpacking w (w3.setCell ⟨w.heap.size + 2, i, none⟩ (.int .i64 (Pk.num (Pk.sb s.data.toList) (i * n) n))) w.heap.size s n m (i + 1) := by
  obtain ⟨h1, h2, hg⟩ := h
  have hrow := R.row.kept hg (.inr (by simp [Value.ownBlock]))
  have hst := hrow.stored i (.int .i64 (Pk.num (Pk.sb s.data.toList) (i * n) n))
  have hne : ∀ (b : Nat) (t : TypeId) (v u : Value), b < w.heap.size + 2 → Box w3 b t v → Box (w3.setCell ⟨w.heap.size + 2, i, none⟩ u) b t v := by
    intro b t v u hb h
    rw [Box, Below.heap_setCell _ _ _ _ (show b ≠ w.heap.size + 2 by omega)]
    exact h
  refine ⟨?_, hrow.frozenAt i, ?_⟩
  · have := hrow.cellAt i (by omega)
    rw [this, List.getElem?_map, List.getElem?_eq_getElem (by rw [Pk.part_length _ _ _ _ (by omega)]; exact hi)]
    exact ⟨_, rfl⟩
  · refine ⟨hne _ _ _ _ (by omega) h1, ?_, ?_, ?_, ?_⟩
    · rw [Nat.add_mul, Nat.one_mul]
      exact hne _ _ _ _ (by omega) h2
    · have := hst.1
      rw [← List.map_set, Pk.part_set _ _ _ _ hi] at this
      exact this
    · exact (R.below.grown hg (by have := R.size; omega) (fun k e => by cases e; omega)).setCell (by simp) _
    · have := R.size; have := hg.size; have := hst.2.size; omega

set_option maxHeartbeats 2000000 in
set_option maxRecDepth 100000 in
theorem unpack_walk (s : ByteArray) (m n : Nat) (w : World) (hs : s.size ≤ 1000000000000) (hn : n ≤ 32) (hm : m ≤ 65536) (h : s.size = Pk.size m n) :
    Calls Tryz.prog 114 #[.string s, .int .i64 m, .int .i64 n] w fun e w' => ∃ v er, e = .returned (.tuple #[v, .int .i64 er]) ∧ Below w.heap.size w w' ∧
      ((Pk.num (Pk.sb s.data.toList) (m * n) (8 * s.size - m * n) = 0 ∧ er = 0 ∧ Ints w' v (Pk.un s.data.toList n m)) ∨ (Pk.num (Pk.sb s.data.toList) (m * n) (8 * s.size - m * n) ≠ 0 ∧ er = 10 ∧ v = .slice none 0 0)) := by
  obtain ⟨i0, hi0, hz0, hz1, hz2⟩ := info_parts Tryz.intInfo
  have HM := may_any n w
  rw [show decide (0 ≤ (n : Int) ∧ (n : Int) ≤ 32) = true by simp; omega] at HM
  have HS := fun w => size_anyXP m n w hm hn
  rw [← h] at HS
  have hmn : m * n ≤ 8 * s.size ∧ 8 * s.size ≤ m * n + 7 := by unfold Pk.size at h; omega
  have hmn2 : m * n ≤ 65536 * 32 := Nat.mul_le_mul hm hn
  have hmn3 : (m : Int) * n = ((m * n : Nat) : Int) := by simp
  obtain ⟨r, hr⟩ : ∃ r, 8 * s.size - m * n = r := ⟨_, rfl⟩
  have hr2 : 8 * (s.size : Int) - ((m * n : Nat) : Int) = r := by omega
  have hr7 : r ≤ 7 := by omega
  rw [hr]
  obtain ⟨x, HX⟩ : ∃ x, Hid (Pk.num (Pk.sb s.data.toList) (m * n) r = x) := ⟨_, rfl⟩
  rw [HX.out]
  have hx := Pk.num_lt (Pk.sb_le s.data.toList) (m * n) r
  rw [HX.out] at hx
  have hx7 : x < 128 := Nat.lt_of_lt_of_le hx (Nat.pow_le_pow_right (n := 2) (by omega) hr7)
  clear hx h
  have HMN : Hid (m * n + r = 8 * s.size) := by show m * n + r = 8 * s.size; omega
  have HLE : Hid (∀ i, i < m → i * n + n ≤ 8 * s.size) := by
    intro i hi
    have h1 : (i + 1) * n ≤ m * n := Nat.mul_le_mul_right _ hi
    rw [Nat.add_mul, Nat.one_mul] at h1
    omega
  obtain ⟨N, HN⟩ : ∃ N, Hid (m * n = N) := ⟨_, rfl⟩
  rw [HN.out] at hr2 hmn3 hmn2
  clear hr hmn
  go_enter Tryz.func114, Tryz.ntmps114
  go_wp2_with fail
  refine HM.mono ?_
  rintro e w' ⟨rfl, rfl⟩
  go_wp2_with fail
  refine (HS _).mono ?_
  rintro e w' ⟨rfl, rfl⟩
  clear HM HS
  go_wp2_with fail
  refine (textBits_any s 0 w').mono ?_
  rintro e w1 ⟨rfl, h1, h2, hb, hz⟩
  go_wp2_with (at_make; refine wpList_make_full _ rfl _ _ 58 rfl w'.heap.size 3 i0 (.int .i64 0) 1 Tryz.underlying58 hi0 hz0 hz1 _ _ _ _ m rfl rfl rfl rfl ?b2 ?b3 ?b4 ?_)
  case b2 => rw [hz2]; omega
  case b3 => unfold maxLen; omega
  case b4 => omega
  intro w2 hown hgrow
  rw [toList_madeCells_one] at hown
  have R0 : Hid (Unpacking w' w2 w'.heap.size s n m 0) := by
    refine ⟨box_grown h1 hgrow (by simp), ?_, ?_, hb.grown hgrow (by omega) (by simp), ?_⟩
    · rw [Nat.zero_mul]; exact box_grown h2 hgrow (by simp)
    · rw [Pk.part_zero, List.map_replicate]; exact hown
    · have := hown.lt _ (show _ = some (w'.heap.size + 2) from rfl); omega
  clear h1 h2 hb hown hgrow hi0 hz0 hz1 hz2
  have hz : Hid _ := hz
  go_wp2
  go_loopw [32] (fun c wr => ∃ i : Nat, i ≤ m ∧ c = .int .i64 i ∧ Hid (Unpacking w' wr w'.heap.size s n m i)) (fun c _ => m - (intOf c).toNat)
  case atStart => exact ⟨0, by omega, rfl, R0⟩
  case round =>
    clear R0
    obtain ⟨i, hi, rfl, R⟩ := hrel
    by_cases hlt : i < m
    · have HT : Hid (Calls _ _ _ _ _) := number_anyXP 138 (.inl rfl) _ _ (Pk.sb_le _) _ _ (tellsT wr w'.heap.size (w'.heap.size + 1) s hs (by omega)) (i * n) n hn (HLE.out i hlt) wr ⟨R.out.text, R.out.place, World.grownBy.refl _ _⟩
      have HY := fun w3 (h : TextAt wr w'.heap.size (w'.heap.size + 1) s (i * n + n) w3) => R.out.next h hlt
      have HY : Hid _ := HY
      generalize Pk.num (Pk.sb s.data.toList) (i * n) n = y at *
      go_wp2_with fail
      refine Calls.mono HT.out ?_
      rintro e w3 ⟨rfl, hA⟩
      obtain ⟨⟨v, hc⟩, hf, R2⟩ := HY.out w3 hA
      have R2 : Hid _ := R2
      clear hA HY HT
      go_wp2
      go_roundw
      case rel => exact ⟨i + 1, by omega, by go_num, R2⟩
      case measure => simp [intOf]; omega
    · obtain rfl : i = m := by omega
      have HT : Hid (Calls _ _ _ _ _) := number_anyXP 138 (.inl rfl) _ _ (Pk.sb_le _) _ _ (tellsT wr w'.heap.size (w'.heap.size + 1) s hs (by omega)) (i * n) r (by omega) (Nat.le_of_eq HMN.out) wr ⟨R.out.text, R.out.place, World.grownBy.refl _ _⟩
      rw [HX.out] at HT
      go_wp2_with fail
      refine Calls.mono HT.out ?_
      rintro e w3 ⟨rfl, _, _, hg⟩
      have HB : Hid (Below w'.heap.size w' w3) := R.out.below.grown hg (by have := R.out.size; omega) (fun k e => by cases e; omega)
      have hrow := R.out.row.kept hg (.inr (by simp [Value.ownBlock]))
      rw [Pk.part_full] at hrow
      have HI : Hid (Ints w3 _ _) := Ints.of_own hrow
      clear hrow hg HT
      by_cases hx0 : x = 0
      · subst hx0
        go_wp2
        go_ret2
        exact ⟨_, _, rfl, HB.out, rfl, HI.out⟩
      · have hxb : ((x : Int) == 0) = false := by simp; omega
        go_wp2
        go_ret2
        exact ⟨_, _, rfl, HB.out, .inr ⟨hx0, rfl, rfl⟩⟩

theorem unpack_any (s : ByteArray) (m n : Int) (w : World) (hs : s.size ≤ 1000000000000) :
    Calls Tryz.prog 114 #[.string s, .int .i64 m, .int .i64 n] w fun e w' => ∃ v, e = .returned (.tuple #[v, .int .i64 (Pk.unpack s.data.toList m n).2]) ∧ Ints w' v (Pk.unpack s.data.toList m n).1 ∧ Below w.heap.size w w' := by
  by_cases h1 : ¬ (0 ≤ n ∧ n ≤ 32) ∨ m < 0
  · rw [Pk.unpack_arg h1]
    exact (unpack_arg s m n w h1).mono fun e w' ⟨he, hb⟩ => ⟨_, he, ints_none _, hb⟩
  · obtain ⟨N, rfl⟩ := Int.eq_ofNat_of_zero_le (show 0 ≤ n by omega)
    by_cases h2 : 65536 < m
    · rw [Pk.unpack_long h1 h2]
      exact (unpack_long s m N w (by omega) h2).mono fun e w' ⟨he, hb⟩ => ⟨_, he, ints_none _, hb⟩
    · obtain ⟨M, rfl⟩ := Int.eq_ofNat_of_zero_le (show 0 ≤ m by omega)
      have hl : s.data.toList.length = s.size := by simp
      by_cases h3 : s.size = Pk.size M N
      · refine (unpack_walk s M N w hs (by omega) (by omega) h3).mono ?_
        rintro e w' ⟨v, er, rfl, hb, ⟨hx, rfl, hI⟩ | ⟨hx, rfl, rfl⟩⟩
        · rw [Pk.unpack_ok (by omega) (by omega) ⟨by rw [hl]; exact h3, by rw [hl]; exact hx⟩]
          exact ⟨v, rfl, hI, hb⟩
        · rw [Pk.unpack_no (by omega) (by omega) (fun h => hx (by have := h.2; rwa [hl] at this))]
          exact ⟨_, rfl, ints_none _, hb⟩
      · rw [Pk.unpack_no (by omega) (by omega) (fun h => h3 (by have := h.1; rwa [hl] at this))]
        exact (unpack_form s M N w (by omega) (by omega) h3).mono fun e w' ⟨he, hb⟩ => ⟨_, he, ints_none _, hb⟩

end Go.Proofs.YtbhngncnhabbkaaGreat

/- Bytes that are filled bit by bit, as plain functions. -/
namespace Go.Proofs.YtbhngncnhabbkaaGreat
namespace Pk

theorem two_pow_cast' (n : Nat) : ((2 : Int) ^ n) = ((2 ^ n : Nat) : Int) := by rw [Int.natCast_pow]; rfl

theorem num_add (f g : Nat → Nat) (p n : Nat) : num (fun k => f k + g k) p n = num f p n + num g p n := by
  induction n with
  | zero => rfl
  | succ n ih => simp only [num, ih, Nat.add_mul]; omega

/-- One bit. -/
def one (p c k : Nat) : Nat := if k = p then c else 0

theorem num_one (p c q n : Nat) : num (one p c) q n = if q ≤ p ∧ p < q + n then c * 2 ^ (p - q) else 0 := by
  induction n with
  | zero => rw [num, if_neg (by omega)]
  | succ n ih =>
    rw [num, ih, one]
    by_cases h : q + n = p
    · rw [if_neg (by omega), if_pos h, if_pos (by omega), show p - q = n by omega]
      omega
    · rw [if_neg h, Nat.zero_mul, Nat.add_zero]
      by_cases h2 : q ≤ p ∧ p < q + n
      · rw [if_pos h2, if_pos (by omega)]
      · rw [if_neg h2, if_neg (by omega)]

/-- The bits ahead of p. -/
def ahead (f : Nat → Nat) (p k : Nat) : Nat := if k < p then f k else 0
theorem ahead_le {f : Nat → Nat} (hf : ∀ k, f k ≤ 1) (p k : Nat) : ahead f p k ≤ 1 := by
  unfold ahead; split
  · exact hf k
  · omega
theorem ahead_succ (f : Nat → Nat) (p : Nat) : ahead f (p + 1) = fun k => ahead f p k + one p (f p) k := by
  funext k
  unfold ahead one
  by_cases h : k = p
  · subst h; simp
  · by_cases h2 : k < p
    · rw [if_pos (by omega), if_pos h2, if_neg h]; rfl
    · rw [if_neg (by omega), if_neg h2, if_neg h]

/-- The j-th byte, of the bits ahead of p. -/
def part8 (f : Nat → Nat) (p j : Nat) : Nat := num (ahead f p) (8 * j) 8
theorem part8_lt {f : Nat → Nat} (hf : ∀ k, f k ≤ 1) (p j : Nat) : part8 f p j < 256 := num_lt (ahead_le hf p) _ 8
theorem part8_succ (f : Nat → Nat) (p j : Nat) : part8 f (p + 1) j = part8 f p j + if p / 8 = j then f p * 2 ^ (p % 8) else 0 := by
  unfold part8
  rw [ahead_succ, num_add, num_one]
  congr 1
  by_cases h : p / 8 = j
  · rw [if_pos h, if_pos (by omega), show p - 8 * j = p % 8 by omega]
  · rw [if_neg h, if_neg (by omega)]

/-- N bytes, of the bits ahead of p. -/
def fill (f : Nat → Nat) (N p : Nat) : List UInt8 := (List.range N).map fun j => UInt8.ofNat (part8 f p j)
theorem fill_length (f : Nat → Nat) (N p : Nat) : (fill f N p).length = N := by simp [fill]
theorem fill_get {f : Nat → Nat} (hf : ∀ k, f k ≤ 1) (N p j : Nat) (h : j < (fill f N p).length) : ((fill f N p)[j]).toNat = part8 f p j := by
  have := part8_lt hf p j
  simp [fill]; omega
theorem fill_zero (f : Nat → Nat) (N : Nat) : fill f N 0 = List.replicate N 0 := by
  refine List.ext_getElem (by simp [fill]) fun i h1 h2 => ?_
  have e : part8 f 0 i = 0 := num_zero fun j _ => by simp [ahead]
  simp [fill, e]
theorem fill_none {f : Nat → Nat} (N p : Nat) (h : f p = 0) : fill f N (p + 1) = fill f N p := by
  unfold fill
  congr 1
  funext j
  rw [part8_succ, h]
  simp
theorem fill_some {f : Nat → Nat} (N p : Nat) (_hp : p / 8 < N) (h : f p = 1) : fill f N (p + 1) = (fill f N p).set (p / 8) (UInt8.ofNat (part8 f p (p / 8) + 2 ^ (p % 8))) := by
  refine List.ext_getElem (by simp [fill]) fun i h1 h2 => ?_
  rw [List.getElem_set]
  by_cases hi : p / 8 = i
  · subst hi
    rw [if_pos rfl]
    simp [fill, part8_succ, h]
  · rw [if_neg hi]
    simp [fill, part8_succ, hi]
theorem fill_room {f : Nat → Nat} (hf : ∀ k, f k ≤ 1) (p : Nat) (h : f p = 1) : part8 f p (p / 8) + 2 ^ (p % 8) < 256 := by
  have := part8_lt hf (p + 1) (p / 8)
  rw [part8_succ, if_pos rfl, h] at this
  omega
theorem fill_full (l : List Int) (n : Nat) : fill (tb l n) (size l.length n) (l.length * n) = pk l n := by
  have e : ahead (tb l n) (l.length * n) = tb l n := by
    funext k
    unfold ahead
    by_cases h : k < l.length * n
    · rw [if_pos h]
    · rw [if_neg h, tb, if_neg h]
  unfold fill pk pkn part8 byte
  rw [e]

theorem May.fits {l : List Int} {n : Nat} (h : May l n) (hn : n ≤ 32) : Fit l := by
  intro z hz
  have h1 := h z hz
  have hp := pow32 n hn
  rw [two_pow_cast'] at h1
  omega

theorem may_take (l : List Int) (n k : Nat) (h : k < l.length) : May (l.take (k + 1)) n ↔ May (l.take k) n ∧ (0 ≤ l.getD k 0 ∧ l.getD k 0 < 2 ^ n) := by
  rw [take_succ l k h]
  unfold May
  simp only [List.mem_append, List.mem_singleton]
  constructor
  · intro h; exact ⟨fun z hz => h z (.inl hz), h _ (.inr rfl)⟩
  · rintro ⟨h1, h2⟩ z (hz | rfl)
    · exact h1 z hz
    · exact h2
theorem may_of_take {l : List Int} {n : Nat} (k : Nat) (h : May l n) : May (l.take k) n := fun z hz => h z (List.mem_of_mem_take hz)

end Pk
end Go.Proofs.YtbhngncnhabbkaaGreat

/- The walks of the document's own answers for packed: may, Width, bit, number, At. -/
namespace Go.Proofs.YtbhngncnhabbkaaGreat
open Go.RowKit

theorem rmay_any (z : Int) (n : Nat) (w : World) (hn : n ≤ 32) :
    Calls Tryz.prog 60 #[.int .i64 z, .int .i64 n] w fun e w' => e = .returned (.bool (decide (0 ≤ z ∧ z < 2 ^ n))) ∧ w' = w := by
  have hp := Pk.pow32 n hn
  rw [Pk.two_pow_cast']
  have hp2 := Pk.two_pow_cast' n
  generalize 2 ^ n = P at *
  go_enter Tryz.func60, Tryz.ntmps60
  go_wp2
  all_goals go_ret
  all_goals refine ⟨congrArg (fun b => Ending.returned (.bool b)) ?_, rfl⟩
  all_goals (simp; try omega)

theorem wid_ge {zs : List Int} (hf : Pk.Fit zs) {k : Nat} (hk : k ≤ 32) (h : ¬ Pk.May zs k) : k + 1 ≤ Pk.wid zs := by
  have h2 : ¬ Pk.wid zs ≤ k := fun h3 => h ((Pk.wid_le hf k hk).1 h3)
  omega

set_option maxHeartbeats 2000000 in
theorem rwidth_any (v : Value) (zs : List Int) (w : World) (h : Ints w v zs) (hf : Pk.Fit zs) (hl : zs.length ≤ 1000000000000) :
    Calls Tryz.prog 30 #[v] w fun e w' => e = .returned (.int .i64 (Pk.wid zs)) ∧ w' = w := by
  obtain ⟨a, cap, rfl, h⟩ := h
  have HC : Hid (∀ j, j < zs.length → ∃ b off, a = some ⟨b, off, none⟩ ∧ w.cell? ⟨b, off + j, none⟩ = some (.int .i64 (zs.getD j 0))) := by
    intro j hj
    rcases h with rfl | ⟨b, off, rfl, _, hc⟩
    · simp at hj
    · exact ⟨b, off, rfl, hc j hj⟩
  have HF : Hid (Pk.Fit zs) := hf
  clear h hf
  go_enter Tryz.func30, Tryz.ntmps30
  go_wp2
  go_loop [3] (fun x => ∃ k : Nat, k ≤ 33 ∧ x = .int .i64 k ∧ Hid (k ≤ Pk.wid zs)) (fun x => 33 - (intOf x).toNat)
  case atStart => exact ⟨0, by omega, rfl, Nat.zero_le _⟩
  case round =>
    obtain ⟨k, hk, rfl, hkw⟩ := hrel
    by_cases hlt : k < 33
    · go_wp2
      go_loop [4, 5] (fun y x => ∃ j : Nat, j ≤ zs.length ∧ x = .int .i64 j ∧ ∃ b, y = .bool b ∧ Hid (b = true ↔ Pk.May (zs.take j) k)) (fun _ x => zs.length - (intOf x).toNat)
      case atStart => exact ⟨0, Nat.zero_le _, rfl, true, rfl, by show true = true ↔ _; simp [Pk.May]⟩
      case round =>
        obtain ⟨j, hj, rfl, b, rfl, hb⟩ := hrel
        by_cases hjl : j < zs.length
        · obtain ⟨bl, off, rfl, hc⟩ := HC.out j hjl
          have HT : Hid _ := Pk.may_take zs k j hjl
          have HM := fun W => rmay_any (zs.getD j 0) k W (by omega)
          generalize zs.getD j 0 = z at *
          cases b with
          | true =>
            by_cases hz : 0 ≤ z ∧ z < 2 ^ k
            · have e : decide (0 ≤ z ∧ z < 2 ^ k) = true := decide_eq_true hz
              rw [e] at HM
              have R : Hid (Pk.May (zs.take (j + 1)) k) := HT.out.2 ⟨hb.out.1 rfl, hz⟩
              clear HT hb hz e
              go_wp2_with fail
              refine (HM _).mono ?_
              rintro e w' ⟨rfl, rfl⟩
              go_wp2
              go_round
              case rel => exact ⟨j + 1, by omega, by go_num, true, rfl, iff_of_true rfl R.out⟩
              case measure => simp [intOf]; omega
            · have e : decide (0 ≤ z ∧ z < 2 ^ k) = false := decide_eq_false hz
              rw [e] at HM
              have R : Hid (¬ Pk.May (zs.take (j + 1)) k) := fun h => hz (HT.out.1 h).2
              clear HT hb hz e
              go_wp2_with fail
              refine (HM _).mono ?_
              rintro e w' ⟨rfl, rfl⟩
              go_wp2
              go_round
              case rel => exact ⟨j + 1, by omega, by go_num, false, rfl, iff_of_false (by simp) R.out⟩
              case measure => simp [intOf]; omega
          | false =>
            have R : Hid (¬ Pk.May (zs.take (j + 1)) k) := fun h => by have := hb.out.2 (HT.out.1 h).1; simp at this
            clear HT hb HM
            go_wp2
            go_round
            case rel => exact ⟨j + 1, by omega, by go_num, false, rfl, iff_of_false (by simp) R.out⟩
            case measure => simp [intOf]; omega
        · obtain rfl : j = zs.length := by omega
          cases b with
          | true =>
            have HE : Hid ((k : Int) = Pk.wid zs) := by
              have h2 := hb.out
              rw [List.take_length] at h2
              have h3 := (Pk.wid_le HF.out k (by omega)).2 (h2.1 rfl)
              have h4 := hkw.out
              show (k : Int) = Pk.wid zs
              omega
            clear hb
            go_wp2
            go_ret
            exact ⟨congrArg (fun b => Ending.returned (.int .i64 b)) HE.out, rfl⟩
          | false =>
            have HE : Hid (k + 1 ≤ Pk.wid zs) := by
              have h2 := hb.out
              rw [List.take_length] at h2
              exact wid_ge HF.out (by omega) (fun h => by have := h2.2 h; simp at this)
            clear hb
            go_wp2
            go_round
            case rel => exact ⟨k + 1, by omega, by go_num, HE⟩
            case measure => simp [intOf]; omega
    · obtain rfl : k = 33 := by omega
      have HE : Hid ((33 : Int) = Pk.wid zs) := by
        have h3 := Pk.wid_33 zs
        have h4 := hkw.out
        show (33 : Int) = Pk.wid zs
        omega
      go_wp2
      go_ret
      exact ⟨congrArg (fun b => Ending.returned (.int .i64 b)) HE.out, rfl⟩


end Go.Proofs.YtbhngncnhabbkaaGreat
