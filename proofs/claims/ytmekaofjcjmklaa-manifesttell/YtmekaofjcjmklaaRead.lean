/- The walk of ints.read: for every string and every place it returns the number that stands there, the place behind it, and whether there is one; the world is as it was. -/
import Derived.Test.YtmekaofjcjmklaaSmall
namespace Go.Proofs.Ytmekaofjcjmklaa
open Go.RowKit

theorem ret_three {ka kb : IntKind} {a a' b b' : Int} {c c' : Bool} (h1 : a = a') (h2 : b = b') (h3 : c = c') : Ending.returned (.tuple #[.int ka a, .int kb b, .bool c]) = .returned (.tuple #[.int ka a', .int kb b', .bool c']) := by
  rw [h1, h2, h3]

theorem pow_le (k : Nat) (h : k < 9) : 128 ^ k ≤ 72057594037927936 := by
  have : k = 0 ∨ k = 1 ∨ k = 2 ∨ k = 3 ∨ k = 4 ∨ k = 5 ∨ k = 6 ∨ k = 7 ∨ k = 8 := by omega
  rcases this with rfl | rfl | rfl | rfl | rfl | rfl | rfl | rfl | rfl <;> decide

/-- One byte more, where nothing is lost. -/
theorem wrap_step (x b k : Nat) (hx : x < 128 ^ k) (hk : k < 9 ∨ (k = 9 ∧ b = 1)) :
    IntKind.u64.wrap ((x : Int) + IntKind.u64.wrap ((b : Int) % 128 * 2 ^ (7 * k))) = ((x + b % 128 * 128 ^ k : Nat) : Int) := by
  have e : ((b : Int) % 128 * 2 ^ (7 * k)) = ((b % 128 * 128 ^ k : Nat) : Int) := by
    rw [Vi.pow128]; simp
  rw [e, IntKind.wrap_u64, IntKind.wrap_u64]
  have hm : b % 128 * 128 ^ k ≤ 127 * 128 ^ k := Nat.mul_le_mul_right _ (by omega)
  rcases hk with hk | ⟨rfl, rfl⟩
  · have := pow_le k hk
    generalize b % 128 * 128 ^ k = y at *
    generalize 128 ^ k = p at *
    omega
  · have : (128 : Nat) ^ 9 = 9223372036854775808 := by decide
    rw [this] at hx ⊢
    omega

theorem wrap_any (y : Int) : ∃ v : Nat, IntKind.u64.wrap y = (v : Int) ∧ v < 18446744073709551616 := by
  refine ⟨(IntKind.u64.wrap y).toNat, ?_, ?_⟩ <;> rw [IntKind.wrap_u64] <;> omega

theorem drop_at (s : ByteArray) (k : Nat) (h : k < s.size) : s.data.toList.drop k = s[k] :: s.data.toList.drop (k + 1) := by
  rw [List.drop_eq_getElem_cons (by simpa using h)]; rfl

/-- What the round does, where another byte is to come. -/
theorem rel_more (s : ByteArray) (i k x : Nat) (hk : k < 10) (hi : i + k < s.size) (hb : 128 ≤ (s[i + k].toNat : Int))
    (hr : k < 10 → x < 128 ^ k ∧ Vi.dec (s.data.toList.drop i) = Vi.rd (10 - k) k x (s.data.toList.drop (i + k))) :
    ∃ v : Nat, IntKind.u64.wrap ((x : Int) + IntKind.u64.wrap ((s[i + k].toNat : Int) % 128 * 2 ^ (7 * k))) = (v : Int) ∧ v < 18446744073709551616 ∧
      (k + 1 < 10 → v < 128 ^ (k + 1) ∧ Vi.dec (s.data.toList.drop i) = Vi.rd (10 - (k + 1)) (k + 1) v (s.data.toList.drop (i + (k + 1)))) ∧ (k + 1 = 10 → Vi.dec (s.data.toList.drop i) = none) := by
  obtain ⟨hx, hd⟩ := hr hk
  rw [drop_at s _ hi, show 10 - k = (9 - k) + 1 by omega, Vi.rd_more _ _ _ _ _ (by omega)] at hd
  by_cases h9 : k < 9
  · have hm : s[i + k].toNat % 128 * 128 ^ k ≤ 127 * 128 ^ k := Nat.mul_le_mul_right _ (by omega)
    have hp := pow_le k h9
    refine ⟨x + s[i + k].toNat % 128 * 128 ^ k, wrap_step x _ k hx (.inl h9), by omega, fun _ => ⟨by rw [Nat.pow_succ]; omega, ?_⟩, fun h => by omega⟩
    rw [hd, show 10 - (k + 1) = 9 - k by omega]; rfl
  · obtain rfl : k = 9 := by omega
    obtain ⟨v, hv, hlt⟩ := wrap_any ((x : Int) + IntKind.u64.wrap ((s[i + 9].toNat : Int) % 128 * 2 ^ (7 * 9)))
    exact ⟨v, hv, hlt, fun h => by omega, fun _ => by rw [hd, Vi.rd_zero]⟩

theorem rel_end (s : ByteArray) (i k x : Nat) (hk : k < 10) (hi : i + k < s.size) (hb : (s[i + k].toNat : Int) < 128) (he : endB k s[i + k].toNat = true)
    (hr : k < 10 → x < 128 ^ k ∧ Vi.dec (s.data.toList.drop i) = Vi.rd (10 - k) k x (s.data.toList.drop (i + k))) :
    IntKind.u64.wrap ((x : Int) + IntKind.u64.wrap ((s[i + k].toNat : Int) % 128 * 2 ^ (7 * k))) = ((Vi.readS s.data.toList i).1 : Int) ∧ (i : Int) + k + 1 = (Vi.readS s.data.toList i).2.1 ∧ true = (Vi.readS s.data.toList i).2.2 := by
  obtain ⟨hx, hd⟩ := hr hk
  rw [drop_at s _ hi, show 10 - k = (9 - k) + 1 by omega, Vi.rd_end _ _ _ _ _ (by omega) he] at hd
  have hh : i < s.data.toList.length := by have : s.data.toList.length = s.size := by simp
                                           omega
  rw [Vi.readS_some _ i _ _ hh hd]
  refine ⟨wrap_step x _ k hx ?_, ?_, rfl⟩
  rotate_left
  · show (i : Int) + k + 1 = (i : Int) + ((k + 1 : Nat) : Int)
    omega
  by_cases h9 : k < 9
  · exact .inl h9
  · obtain rfl : k = 9 := by omega
    exact .inr ⟨rfl, by simpa [endB] using he⟩

theorem rel_bad (s : ByteArray) (i k x : Nat) (hk : k < 10) (hi : i + k < s.size) (hb : (s[i + k].toNat : Int) < 128) (he : endB k s[i + k].toNat = false)
    (hr : k < 10 → x < 128 ^ k ∧ Vi.dec (s.data.toList.drop i) = Vi.rd (10 - k) k x (s.data.toList.drop (i + k))) : Vi.readS s.data.toList i = (0, 0, false) := by
  obtain ⟨hx, hd⟩ := hr hk
  rw [drop_at s _ hi, show 10 - k = (9 - k) + 1 by omega, Vi.rd_bad _ _ _ _ _ (by omega) he] at hd
  exact Vi.readS_none _ i (by have : s.data.toList.length = s.size := by simp
                              omega) hd

theorem rel_out (s : ByteArray) (i k x : Nat) (h : i < s.size) (hk : k ≤ 10) (hlt : ¬ (k < 10 ∧ i + k < s.size))
    (hr : k < 10 → x < 128 ^ k ∧ Vi.dec (s.data.toList.drop i) = Vi.rd (10 - k) k x (s.data.toList.drop (i + k))) (hn : k = 10 → Vi.dec (s.data.toList.drop i) = none) : Vi.readS s.data.toList i = (0, 0, false) := by
  have hl : s.data.toList.length = s.size := by simp
  refine Vi.readS_none _ i (by omega) ?_
  by_cases h10 : k = 10
  · exact hn h10
  · rw [(hr (by omega)).2, List.drop_eq_nil_of_le (by omega), Vi.rd_nil]

set_option maxHeartbeats 400000 in
theorem read_out (s : ByteArray) (i : Int) (w : World) (h : i < 0 ∨ (s.size : Int) ≤ i) :
    Calls Try.prog 49 #[.string s, .int .i64 i] w fun e w' => e = .returned (.tuple #[.int .u64 0, .int .i64 0, .bool false]) ∧ w' = w := by
  by_cases h0 : i < 0
  · go_enter Try.func49, Try.ntmps49
    go_wp2
    go_ret3
    exact ⟨rfl, rfl⟩
  · have h1 : (s.size : Int) ≤ i := by omega
    go_enter Try.func49, Try.ntmps49
    go_wp2
    go_ret3
    exact ⟨rfl, rfl⟩

set_option maxHeartbeats 400000 in
set_option maxRecDepth 20000 in
theorem read_in (s : ByteArray) (i : Nat) (w : World) (hs : s.size ≤ 140737488351232) (h : i < s.size) :
    Calls Try.prog 49 #[.string s, .int .i64 i] w fun e w' => e = .returned (.tuple #[.int .u64 (Vi.readS s.data.toList i).1, .int .i64 (Vi.readS s.data.toList i).2.1, .bool (Vi.readS s.data.toList i).2.2]) ∧ w' = w := by
  have hb1 : decide ((i : Int) < 0) = false := by simp
  have hb2 : decide (s.size ≤ i) = false := by simp; omega
  go_enter Try.func49, Try.ntmps49
  go_wp2
  go_loop [4, 22] (fun u c => ∃ k x : Nat, k ≤ 10 ∧ i + k ≤ s.size ∧ c = .int .i64 k ∧ u = .int .u64 x ∧ x < 18446744073709551616 ∧ Hid (k < 10 → x < 128 ^ k ∧ Vi.dec (s.data.toList.drop i) = Vi.rd (10 - k) k x (s.data.toList.drop (i + k))) ∧ Hid (k = 10 → Vi.dec (s.data.toList.drop i) = none)) (fun _ c => 10 - (intOf c).toNat)
  case atStart => exact ⟨0, 0, by omega, by omega, rfl, rfl, by omega, fun _ => ⟨by omega, rfl⟩, fun h => by omega⟩
  case round =>
    obtain ⟨k, x, hk, hik, rfl, rfl, hx, hr, hn⟩ := hrel
    by_cases hlt : k < 10 ∧ i + k < s.size
    · obtain ⟨hk1, hk2⟩ := hlt
      go_wp2_with fail
      · have hb : 128 ≤ (s[i + k].toNat : Int) := by assumption
        obtain ⟨v, e1, e2, e3, e4⟩ := rel_more s i k x hk1 hk2 hb hr.out
        go_round
        case rel => exact ⟨k + 1, v, by omega, by omega, by go_num, by rw [e1], e2, e3, e4⟩
        case measure => simp [intOf]; omega
      · have hb : (s[i + k].toNat : Int) < 128 := by assumption
        refine (mayEnd_any _ _ _ (by omega)).mono ?_
        rintro e w' ⟨rfl, rfl⟩
        cases he : endB k s[i + k].toNat
        · have R := rel_bad s i k x hk1 hk2 hb he hr.out
          have HR : Hid (Vi.readS s.data.toList i = (0, 0, false)) := R
          clear R
          go_wp2
          go_ret3
          rw [HR.out]
          exact ⟨rfl, rfl⟩
        · have R := rel_end s i k x hk1 hk2 hb he hr.out
          have HR : Hid _ := R
          clear R
          go_wp2
          go_ret3
          exact ⟨ret_three HR.out.1 HR.out.2.1 HR.out.2.2, rfl⟩
    · have R := rel_out s i k x h hk hlt hr.out hn.out
      have HR : Hid (Vi.readS s.data.toList i = (0, 0, false)) := R
      clear R
      go_wp2
      go_ret3
      rw [HR.out]
      exact ⟨rfl, rfl⟩

theorem read_any (s : ByteArray) (i : Int) (w : World) (hs : s.size ≤ 140737488351232) :
    Calls Try.prog 49 #[.string s, .int .i64 i] w fun e w' => e = .returned (.tuple #[.int .u64 (Vi.readS s.data.toList i).1, .int .i64 (Vi.readS s.data.toList i).2.1, .bool (Vi.readS s.data.toList i).2.2]) ∧ w' = w := by
  by_cases h : i < 0 ∨ (s.size : Int) ≤ i
  · have e := Vi.readS_out s.data.toList i (by have : s.data.toList.length = s.size := by simp
                                               omega)
    rw [e]
    exact read_out s i w h
  · obtain ⟨n, rfl⟩ := Int.eq_ofNat_of_zero_le (show 0 ≤ i by omega)
    exact read_in s n w hs (by omega)

end Go.Proofs.Ytmekaofjcjmklaa
