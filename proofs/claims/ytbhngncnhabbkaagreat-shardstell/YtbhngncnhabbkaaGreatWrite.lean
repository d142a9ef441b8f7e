/- The walks of ints' small functions: what bits.Len64, size, fold, unfold and mayEnd return, for every number of their types. -/
import Derived.Test.YtbhngncnhabbkaaGreatLen
import Derived.Test.YtbhngncnhabbkaaGreatRows
import Derived.WalkKit
import Derived.WalkSpells
import Derived.WalkLawsBesides
namespace Go.Proofs.YtbhngncnhabbkaaGreat
open Go.RowKit

theorem ret_int {k : IntKind} {a b : Int} (h : a = b) : Ending.returned (.int k a) = .returned (.int k b) := by rw [h]

set_option maxHeartbeats 400000 in
theorem size_any (u : Nat) (w : World) (h : u < 18446744073709551616) :
    Calls Tryz.prog 81 #[.int .u64 u] w fun e w' => e = .returned (.int .i64 (Vi.enc u).length) ∧ w' = w := by
  have hb : Hid (max 1 ((Lib.bitLen u + 6) / 7) = (Vi.enc u).length) := Vi.enc_bits u (by omega)
  have hl : Lib.bitLen u ≤ 64 := Lib.bitLen_le u 64 (by omega) (by omega)
  generalize hg : Lib.bitLen u = l at hb hl
  have HG : Hid (Lib.bitLen u = l) := hg
  clear hg
  go_enter Tryz.func81, Tryz.ntmps81
  go_wp2_with fail
  refine (len64_any _ _ (by omega) (by omega)).mono ?_
  rintro e w' ⟨rfl, rfl⟩
  rw [Int.toNat_natCast, HG.out]
  go_wp2
  all_goals go_ret
  all_goals (refine ⟨ret_int ?_, rfl⟩; rw [← hb.out]; omega)

/-- Whether b may be the last byte, at the place i. -/
def endB (i b : Nat) : Bool := if i = 9 then b == 1 else (b != 0 || i == 0)

theorem ret_bool {a b : Bool} (h : a = b) : Ending.returned (.bool a) = .returned (.bool b) := by rw [h]

set_option maxHeartbeats 400000 in
theorem mayEnd_any (i b : Nat) (w : World) (h : i < 10) :
    Calls Tryz.prog 132 #[.int .i64 i, .int .u8 b] w fun e w' => e = .returned (.bool (endB i b)) ∧ w' = w := by
  by_cases h9 : i = 9
  · subst h9
    go_enter Tryz.func132, Tryz.ntmps132
    go_wp2
    go_ret
    refine ⟨ret_bool ?_, rfl⟩
    simp only [endB]
    rw [Bool.eq_iff_iff]; simp; omega
  · go_enter Tryz.func132, Tryz.ntmps132
    go_wp2
    all_goals go_ret
    all_goals (refine ⟨ret_bool ?_, rfl⟩; simp only [endB, h9, if_false])
    all_goals (rw [Bool.eq_iff_iff]; simp; omega)

end Go.Proofs.YtbhngncnhabbkaaGreat

/- The walk of ints.read: for every string and every place it returns the number that stands there, the place behind it, and whether there is one; the world is as it was. -/
namespace Go.Proofs.YtbhngncnhabbkaaGreat
open Go.RowKit

theorem ret_three {ka kb : IntKind} {a a' b b' : Int} {c c' : Bool} (h1 : a = a') (h2 : b = b') (h3 : c = c') : Ending.returned (.tuple #[.int ka a, .int kb b, .bool c]) = .returned (.tuple #[.int ka a', .int kb b', .bool c']) := by
  rw [h1, h2, h3]

theorem pow_le (k : Nat) (h : k < 9) : 128 ^ k ≤ 72057594037927936 := by
  have : k = 0 ∨ k = 1 ∨ k = 2 ∨ k = 3 ∨ k = 4 ∨ k = 5 ∨ k = 6 ∨ k = 7 ∨ k = 8 := by omega
  rcases this with rfl | rfl | rfl | rfl | rfl | rfl | rfl | rfl | rfl <;> decide

/-- One byte more, where nothing is lost. -/
theorem wrap_step (x b k : Nat) (hx : x < 128 ^ k) (hk : k < 9 ∨ (k = 9 ∧ b = 1)) :
    IntKind.u64.wrap ((x : Int) + IntKind.u64.wrap ((b : Int) % 128 * 2 ^ (7 * k))) = ((x + b % 128 * 128 ^ k : Nat) : Int) := by
  have e : ((b : Int) % 128 * 2 ^ (7 * k)) = ((b % 128 * 128 ^ k : Nat) : Int) := by
    rw [Vi.pow128]; simp
  rw [e, IntKind.wrap_u64, IntKind.wrap_u64]
  have hm : b % 128 * 128 ^ k ≤ 127 * 128 ^ k := Nat.mul_le_mul_right _ (by omega)
  rcases hk with hk | ⟨rfl, rfl⟩
  · have := pow_le k hk
    generalize b % 128 * 128 ^ k = y at *
    generalize 128 ^ k = p at *
    omega
  · have : (128 : Nat) ^ 9 = 9223372036854775808 := by decide
    rw [this] at hx ⊢
    omega

theorem wrap_any (y : Int) : ∃ v : Nat, IntKind.u64.wrap y = (v : Int) ∧ v < 18446744073709551616 := by
  refine ⟨(IntKind.u64.wrap y).toNat, ?_, ?_⟩ <;> rw [IntKind.wrap_u64] <;> omega

theorem drop_at (s : ByteArray) (k : Nat) (h : k < s.size) : s.data.toList.drop k = s[k] :: s.data.toList.drop (k + 1) := by
  rw [List.drop_eq_getElem_cons (by simpa using h)]; rfl

/-- What the round does, where another byte is to come. -/
theorem rel_more (s : ByteArray) (i k x : Nat) (hk : k < 10) (hi : i + k < s.size) (hb : 128 ≤ (s[i + k].toNat : Int))
    (hr : k < 10 → x < 128 ^ k ∧ Vi.dec (s.data.toList.drop i) = Vi.rd (10 - k) k x (s.data.toList.drop (i + k))) :
    ∃ v : Nat, IntKind.u64.wrap ((x : Int) + IntKind.u64.wrap ((s[i + k].toNat : Int) % 128 * 2 ^ (7 * k))) = (v : Int) ∧ v < 18446744073709551616 ∧
      (k + 1 < 10 → v < 128 ^ (k + 1) ∧ Vi.dec (s.data.toList.drop i) = Vi.rd (10 - (k + 1)) (k + 1) v (s.data.toList.drop (i + (k + 1)))) ∧ (k + 1 = 10 → Vi.dec (s.data.toList.drop i) = none) := by
  obtain ⟨hx, hd⟩ := hr hk
  rw [drop_at s _ hi, show 10 - k = (9 - k) + 1 by omega, Vi.rd_more _ _ _ _ _ (by omega)] at hd
  by_cases h9 : k < 9
  · have hm : s[i + k].toNat % 128 * 128 ^ k ≤ 127 * 128 ^ k := Nat.mul_le_mul_right _ (by omega)
    have hp := pow_le k h9
    refine ⟨x + s[i + k].toNat % 128 * 128 ^ k, wrap_step x _ k hx (.inl h9), by omega, fun _ => ⟨by rw [Nat.pow_succ]; omega, ?_⟩, fun h => by omega⟩
    rw [hd, show 10 - (k + 1) = 9 - k by omega]; rfl
  · obtain rfl : k = 9 := by omega
    obtain ⟨v, hv, hlt⟩ := wrap_any ((x : Int) + IntKind.u64.wrap ((s[i + 9].toNat : Int) % 128 * 2 ^ (7 * 9)))
    exact ⟨v, hv, hlt, fun h => by omega, fun _ => by rw [hd, Vi.rd_zero]⟩

theorem rel_end (s : ByteArray) (i k x : Nat) (hk : k < 10) (hi : i + k < s.size) (hb : (s[i + k].toNat : Int) < 128) (he : endB k s[i + k].toNat = true)
    (hr : k < 10 → x < 128 ^ k ∧ Vi.dec (s.data.toList.drop i) = Vi.rd (10 - k) k x (s.data.toList.drop (i + k))) :
    IntKind.u64.wrap ((x : Int) + IntKind.u64.wrap ((s[i + k].toNat : Int) % 128 * 2 ^ (7 * k))) = ((Vi.readS s.data.toList i).1 : Int) ∧ (i : Int) + k + 1 = (Vi.readS s.data.toList i).2.1 ∧ true = (Vi.readS s.data.toList i).2.2 := by
  obtain ⟨hx, hd⟩ := hr hk
  rw [drop_at s _ hi, show 10 - k = (9 - k) + 1 by omega, Vi.rd_end _ _ _ _ _ (by omega) he] at hd
  have hh : i < s.data.toList.length := by have : s.data.toList.length = s.size := by simp
                                           omega
  rw [Vi.readS_some _ i _ _ hh hd]
  refine ⟨wrap_step x _ k hx ?_, ?_, rfl⟩
  rotate_left
  · show (i : Int) + k + 1 = (i : Int) + ((k + 1 : Nat) : Int)
    omega
  by_cases h9 : k < 9
  · exact .inl h9
  · obtain rfl : k = 9 := by omega
    exact .inr ⟨rfl, by simpa [endB] using he⟩

theorem rel_bad (s : ByteArray) (i k x : Nat) (hk : k < 10) (hi : i + k < s.size) (hb : (s[i + k].toNat : Int) < 128) (he : endB k s[i + k].toNat = false)
    (hr : k < 10 → x < 128 ^ k ∧ Vi.dec (s.data.toList.drop i) = Vi.rd (10 - k) k x (s.data.toList.drop (i + k))) : Vi.readS s.data.toList i = (0, 0, false) := by
  obtain ⟨hx, hd⟩ := hr hk
  rw [drop_at s _ hi, show 10 - k = (9 - k) + 1 by omega, Vi.rd_bad _ _ _ _ _ (by omega) he] at hd
  exact Vi.readS_none _ i (by have : s.data.toList.length = s.size := by simp
                              omega) hd

theorem rel_out (s : ByteArray) (i k x : Nat) (h : i < s.size) (hk : k ≤ 10) (hlt : ¬ (k < 10 ∧ i + k < s.size))
    (hr : k < 10 → x < 128 ^ k ∧ Vi.dec (s.data.toList.drop i) = Vi.rd (10 - k) k x (s.data.toList.drop (i + k))) (hn : k = 10 → Vi.dec (s.data.toList.drop i) = none) : Vi.readS s.data.toList i = (0, 0, false) := by
  have hl : s.data.toList.length = s.size := by simp
  refine Vi.readS_none _ i (by omega) ?_
  by_cases h10 : k = 10
  · exact hn h10
  · rw [(hr (by omega)).2, List.drop_eq_nil_of_le (by omega), Vi.rd_nil]

set_option maxHeartbeats 400000 in
theorem read_out (s : ByteArray) (i : Int) (w : World) (h : i < 0 ∨ (s.size : Int) ≤ i) :
    Calls Tryz.prog 115 #[.string s, .int .i64 i] w fun e w' => e = .returned (.tuple #[.int .u64 0, .int .i64 0, .bool false]) ∧ w' = w := by
  by_cases h0 : i < 0
  · go_enter Tryz.func115, Tryz.ntmps115
    go_wp2
    go_ret3
    exact ⟨rfl, rfl⟩
  · have h1 : (s.size : Int) ≤ i := by omega
    go_enter Tryz.func115, Tryz.ntmps115
    go_wp2
    go_ret3
    exact ⟨rfl, rfl⟩

set_option maxHeartbeats 400000 in
set_option maxRecDepth 20000 in
theorem read_in (s : ByteArray) (i : Nat) (w : World) (hs : s.size ≤ 140737488351232) (h : i < s.size) :
    Calls Tryz.prog 115 #[.string s, .int .i64 i] w fun e w' => e = .returned (.tuple #[.int .u64 (Vi.readS s.data.toList i).1, .int .i64 (Vi.readS s.data.toList i).2.1, .bool (Vi.readS s.data.toList i).2.2]) ∧ w' = w := by
  have hb1 : decide ((i : Int) < 0) = false := by simp
  have hb2 : decide (s.size ≤ i) = false := by simp; omega
  go_enter Tryz.func115, Tryz.ntmps115
  go_wp2
  go_loop [4, 22] (fun u c => ∃ k x : Nat, k ≤ 10 ∧ i + k ≤ s.size ∧ c = .int .i64 k ∧ u = .int .u64 x ∧ x < 18446744073709551616 ∧ Hid (k < 10 → x < 128 ^ k ∧ Vi.dec (s.data.toList.drop i) = Vi.rd (10 - k) k x (s.data.toList.drop (i + k))) ∧ Hid (k = 10 → Vi.dec (s.data.toList.drop i) = none)) (fun _ c => 10 - (intOf c).toNat)
  case atStart => exact ⟨0, 0, by omega, by omega, rfl, rfl, by omega, fun _ => ⟨by omega, rfl⟩, fun h => by omega⟩
  case round =>
    obtain ⟨k, x, hk, hik, rfl, rfl, hx, hr, hn⟩ := hrel
    by_cases hlt : k < 10 ∧ i + k < s.size
    · obtain ⟨hk1, hk2⟩ := hlt
      go_wp2_with fail
      · have hb : 128 ≤ (s[i + k].toNat : Int) := by assumption
        obtain ⟨v, e1, e2, e3, e4⟩ := rel_more s i k x hk1 hk2 hb hr.out
        go_round
        case rel => exact ⟨k + 1, v, by omega, by omega, by go_num, by rw [e1], e2, e3, e4⟩
        case measure => simp [intOf]; omega
      · have hb : (s[i + k].toNat : Int) < 128 := by assumption
        refine (mayEnd_any _ _ _ (by omega)).mono ?_
        rintro e w' ⟨rfl, rfl⟩
        cases he : endB k s[i + k].toNat
        · have R := rel_bad s i k x hk1 hk2 hb he hr.out
          have HR : Hid (Vi.readS s.data.toList i = (0, 0, false)) := R
          clear R
          go_wp2
          go_ret3
          rw [HR.out]
          exact ⟨rfl, rfl⟩
        · have R := rel_end s i k x hk1 hk2 hb he hr.out
          have HR : Hid _ := R
          clear R
          go_wp2
          go_ret3
          exact ⟨ret_three HR.out.1 HR.out.2.1 HR.out.2.2, rfl⟩
    · have R := rel_out s i k x h hk hlt hr.out hn.out
      have HR : Hid (Vi.readS s.data.toList i = (0, 0, false)) := R
      clear R
      go_wp2
      go_ret3
      rw [HR.out]
      exact ⟨rfl, rfl⟩

theorem read_any (s : ByteArray) (i : Int) (w : World) (hs : s.size ≤ 140737488351232) :
    Calls Tryz.prog 115 #[.string s, .int .i64 i] w fun e w' => e = .returned (.tuple #[.int .u64 (Vi.readS s.data.toList i).1, .int .i64 (Vi.readS s.data.toList i).2.1, .bool (Vi.readS s.data.toList i).2.2]) ∧ w' = w := by
  by_cases h : i < 0 ∨ (s.size : Int) ≤ i
  · have e := Vi.readS_out s.data.toList i (by have : s.data.toList.length = s.size := by simp
                                               omega)
    rw [e]
    exact read_out s i w h
  · obtain ⟨n, rfl⟩ := Int.eq_ofNat_of_zero_le (show 0 ≤ i by omega)
    exact read_in s n w hs (by omega)

end Go.Proofs.YtbhngncnhabbkaaGreat

/- The walk of ints.write: for every uint64 it returns its bytes as a string; nothing that was in memory has changed. -/
namespace Go.Proofs.YtbhngncnhabbkaaGreat
open Go.RowKit

theorem Tryz.info5 : (Tryz.prog.info? 5).map (fun i => (i.zero, i.size, i.bytes)) = some (some (.int .u8 0), 1, 1) := by kernel_rfl

/-- Bytes as cells. -/
def bcells (l : List UInt8) : List Value := l.map fun b => .int .u8 b.toNat

theorem push_all : ∀ (l : List UInt8) (acc : ByteArray), (l.map (fun b => (b.toNat : Int))).foldl (fun r n => r.push (UInt8.ofNat n.toNat)) acc = ⟨(acc.data.toList ++ l).toArray⟩ := by
  intro l
  induction l with
  | nil => intro acc; simp
  | cons b l ih =>
    intro acc
    rw [List.map_cons, List.foldl_cons, ih]
    simp [ByteArray.push]

/-- string(b) of a row of bytes that the call itself made. -/
theorem conv_own (W : World) (base g n : Nat) (l : List UInt8) (hl : l.length = n) (hown : W.ownsRow base 5 1 (.slice (some ⟨g, 0, none⟩) n n) n (bcells l)) :
    (convert 47 9 (.slice (some ⟨g, 0, none⟩) n n)).run Tryz.prog W = .ok (.string ⟨l.toArray⟩) W := by
  rw [run_convert_bytes_string W 47 9 5 _ _ _ Tryz.underlying47 Tryz.underlying5 Tryz.underlying9]
  have hload : (loadCells ⟨g, 0, none⟩ n).run Tryz.prog W = .ok ((l.map (fun b => (b.toNat : Int))).map (Value.int .u8)).toArray W := by
    have := run_loadCells_list (P := Tryz.prog) (w := W) ⟨g, 0, none⟩ (bcells l) (by
      intro j v hj
      have hlt : j < n := by
        have := (List.getElem?_eq_some_iff.1 hj).1
        simpa [bcells, hl] using this
      have := hown.cellAt j (by omega)
      rw [Addr.add_lit, Nat.zero_add, this, hj])
    have e : (bcells l).length = n := by simp [bcells, hl]
    rw [e] at this
    rw [this]
    simp [bcells, Function.comp_def]
  rw [run_bytesToString W ⟨g, 0, none⟩ n n _ hload, push_all]
  rfl

/-- What lies in the row behind k rounds. -/
def part (l : List UInt8) (k n : Nat) : List Value := bcells (l.take k) ++ List.replicate (n - k) (.int .u8 0)

theorem part_set (l : List UInt8) (k n : Nat) (b : UInt8) (hn : l.length = n) (hk : k < n) (hb : l[k]? = some b) : (part l k n).set k (.int .u8 b.toNat) = part l (k + 1) n := by
  have hl : (bcells (l.take k)).length = k := by simp [bcells]; omega
  unfold part
  rw [List.set_append_right _ _ (by omega), hl, Nat.sub_self, show n - k = (n - (k + 1)) + 1 by omega, List.replicate_succ, List.set_cons_zero]
  have e : l.take (k + 1) = l.take k ++ [b] := by
    rw [List.take_add_one, hb]; rfl
  rw [e]
  simp [bcells]

theorem part_full (l : List UInt8) (n : Nat) (hn : l.length = n) : part l n n = bcells l := by
  unfold part
  rw [Nat.sub_self, List.take_of_length_le (by omega)]
  simp

theorem part_zero (l : List UInt8) (n : Nat) : (madeCells #[Value.int .u8 0] n).toList = part l 0 n := by
  rw [toList_madeCells_one]
  simp [part, bcells]

theorem ofNat_toNat (n : Nat) (h : n < 256) : (UInt8.ofNat n).toNat = n := by simp; omega

/-- A round's store. -/
theorem step_store {w w1 : World} {B : Nat} (u m k : Nat) (hk : k < m) (hm : (Vi.enc u).length = m + 1) (hB : B = w.heap.size)
    (hown : w1.ownsRow B 5 1 (.slice (some ⟨B, 0, none⟩) (m + 1) (m + 1)) (m + 1) (part (Vi.enc u) k (m + 1))) (hbel : Below w.heap.size w w1) :
    (w1.setCell ⟨B, k, none⟩ (.int .u8 (((u / 128 ^ k : Nat) : Int) % 128 + 128))).ownsRow B 5 1 (.slice (some ⟨B, 0, none⟩) (m + 1) (m + 1)) (m + 1) (part (Vi.enc u) (k + 1) (m + 1)) ∧
    Below w.heap.size w (w1.setCell ⟨B, k, none⟩ (.int .u8 (((u / 128 ^ k : Nat) : Int) % 128 + 128))) := by
  have hg := Vi.vb_get 9 u k (by show k + 1 < (Vi.enc u).length; omega)
  have hs := hown.stored k (.int .u8 (((u / 128 ^ k : Nat) : Int) % 128 + 128))
  have e : (((u / 128 ^ k : Nat) : Int) % 128 + 128) = ((UInt8.ofNat (u / 128 ^ k % 128 + 128)).toNat : Int) := by
    rw [ofNat_toNat _ (by omega)]; omega
  refine ⟨?_, hbel.setCell (by subst hB; exact Nat.le_refl _) _⟩
  have := part_set (Vi.enc u) k (m + 1) _ hm (by omega) hg
  rw [← e] at this
  rw [← this]
  exact hs.1

/-- The last store, and the text. -/
theorem step_last {w w1 : World} {B : Nat} (u m : Nat) (h : u < 18446744073709551616) (hm : (Vi.enc u).length = m + 1) (hB : B = w.heap.size)
    (hown : w1.ownsRow B 5 1 (.slice (some ⟨B, 0, none⟩) (m + 1) (m + 1)) (m + 1) (part (Vi.enc u) m (m + 1))) (hbel : Below w.heap.size w w1) :
    (convert 47 9 (.slice (some ⟨B, 0, none⟩) (m + 1) (m + 1))).run Tryz.prog (w1.setCell ⟨B, m, none⟩ (.int .u8 ((u / 128 ^ m : Nat) : Int))) = .ok (.string ⟨(Vi.enc u).toArray⟩) (w1.setCell ⟨B, m, none⟩ (.int .u8 ((u / 128 ^ m : Nat) : Int))) ∧
    Below w.heap.size w (w1.setCell ⟨B, m, none⟩ (.int .u8 ((u / 128 ^ m : Nat) : Int))) := by
  have hg := Vi.vb_last 9 u m (by show m + 1 = (Vi.enc u).length; omega)
  have ht := Vi.vb_top 9 u m (by omega) (by show m + 1 = (Vi.enc u).length; omega)
  have hs := hown.stored m (.int .u8 ((u / 128 ^ m : Nat) : Int))
  have e : ((u / 128 ^ m : Nat) : Int) = ((UInt8.ofNat (u / 128 ^ m)).toNat : Int) := by
    rw [ofNat_toNat _ (by omega)]
  refine ⟨?_, hbel.setCell (by subst hB; exact Nat.le_refl _) _⟩
  have := part_set (Vi.enc u) m (m + 1) _ hm (by omega) hg
  rw [part_full _ _ hm, ← e] at this
  have h1 := hs.1
  rw [this] at h1
  exact conv_own _ _ _ _ _ hm h1

theorem cell_part {w1 : World} {B : Nat} (l : List UInt8) (k n : Nat) (hn : l.length = n) (hk : k < n)
    (hown : w1.ownsRow B 5 1 (.slice (some ⟨B, 0, none⟩) n n) n (part l k n)) : w1.cell? ⟨B, k, none⟩ = some (.int .u8 0) := by
  rw [hown.cellAt k (by omega)]
  have hl : (bcells (l.take k)).length = k := by simp [bcells]; omega
  unfold part
  rw [List.getElem?_append_right (by omega), hl, Nat.sub_self, List.getElem?_replicate, if_pos (by omega)]

set_option maxHeartbeats 400000 in
set_option maxRecDepth 20000 in
theorem write_any (u : Nat) (w : World) (h : u < 18446744073709551616) :
    Calls Tryz.prog 53 #[.int .u64 u] w fun e w' => e = .returned (.string ⟨(Vi.enc u).toArray⟩) ∧ Below w.heap.size w w' := by
  obtain ⟨i0, hi, hz0, hz1, hz2⟩ := info_parts Tryz.info5
  have hle := Vi.enc_len u
  obtain ⟨m, hm⟩ : ∃ m, (Vi.enc u).length = m + 1 := ⟨(Vi.enc u).length - 1, by omega⟩
  have HM : Hid ((Vi.enc u).length = m + 1) := hm
  have hm9 : m ≤ 9 := by omega
  clear hle hm
  go_enter Tryz.func53, Tryz.ntmps53
  go_wp2_with fail
  refine (size_any _ _ h).mono ?_
  rintro e w' ⟨rfl, rfl⟩
  rw [HM.out]
  go_wp2_with (at_make; refine wpList_make_full _ rfl _ _ 47 rfl w'.heap.size 5 i0 (.int .u8 0) 1 Tryz.underlying47 hi hz0 hz1 _ _ _ _ (m + 1) rfl rfl rfl rfl ?b2 ?b3 ?b4 ?_)
  case b2 => rw [hz2]; omega
  case b3 => unfold maxLen; omega
  case b4 => omega
  intro w1 hown hgrow
  rw [part_zero (Vi.enc u)] at hown
  have hbel : Below w'.heap.size w' w1 := (Below.refl _ _).grown hgrow (Nat.le_refl _) (by simp)
  clear hgrow hi hz0 hz1 hz2
  go_wp2
  go_loopw [0, 13] (fun x c wr => ∃ k : Nat, k ≤ m ∧ c = .int .i64 k ∧ x = .int .u64 (u / 128 ^ k : Nat) ∧ wr.ownsRow w'.heap.size 5 1 (.slice (some ⟨w'.heap.size, 0, none⟩) (m + 1) (m + 1)) (m + 1) (part (Vi.enc u) k (m + 1)) ∧ Below w'.heap.size w' wr) (fun _ c _ => m - (intOf c).toNat)
  case atStart => exact ⟨0, Nat.zero_le _, rfl, by simp, hown, hbel⟩
  case round =>
    clear hown hbel
    obtain ⟨k, hk, rfl, rfl, hown, hbel⟩ := hrel
    have hc := cell_part (Vi.enc u) k (m + 1) HM.out (by omega) hown
    have hf := hown.frozenAt k
    have hx : u / 128 ^ k < 18446744073709551616 := Nat.lt_of_le_of_lt (Nat.div_le_self _ _) h
    by_cases hlt : k < m
    · have R := step_store u m k hlt HM.out rfl hown hbel
      have e7 : Hid (u / 128 ^ k / 128 = u / 128 ^ (k + 1)) := by
        show u / 128 ^ k / 128 = u / 128 ^ (k + 1)
        rw [Nat.div_div_eq_div_mul, Nat.pow_succ]
      clear hown hbel
      generalize u / 128 ^ k = x at *
      have HR : Hid _ := R
      clear R
      go_wp2
      go_roundw
      case rel => exact ⟨k + 1, by omega, by go_num, by rw [← e7.out]; go_num, HR.out.1, HR.out.2⟩
      case measure => simp [intOf]; omega
    · obtain rfl : k = m := by omega
      have R := step_last u k h HM.out rfl hown hbel
      have ht := (Vi.vb_top 9 u k (by omega) (by show k + 1 = (Vi.enc u).length; rw [HM.out])).1
      clear hown hbel
      generalize u / 128 ^ k = x at *
      obtain ⟨R1, R2⟩ := R
      have HR : Hid _ := R2
      clear R2
      go_wp2
      go_ret
      exact ⟨rfl, HR.out⟩

end Go.Proofs.YtbhngncnhabbkaaGreat
