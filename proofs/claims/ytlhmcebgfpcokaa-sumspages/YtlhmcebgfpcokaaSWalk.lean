/- The walks of sums' functions: what they return, for every argument; the world is as it was. -/
import Derived.Test.YtlhmcebgfpcokaaSMath
import Derived.WalkKit
import Derived.WalkSpells
import Derived.WalkLawsBesides
import Derived.Laws.BitsAllLaws
namespace Go.Proofs.Ytlhmcebgfpcokaa
open Go.RowKit

theorem ret_int {k : IntKind} {a b : Int} (h : a = b) : Ending.returned (.int k a) = .returned (.int k b) := by rw [h]

theorem and_one (r : Nat) (h : r < 4294967296) : bits .and .u32 (r : Int) 1 = ((r % 2 : Nat) : Int) := by
  rw [show (1 : Int) = ((1 : Nat) : Int) from rfl, u32_and_nat r 1 h (by decide), nat_mask1]
theorem xor_nat (a b : Nat) (ha : a < 4294967296) (hb : b < 4294967296) : bits .xor .u32 (a : Int) (b : Int) = ((a ^^^ b : Nat) : Int) := u32_xor_nat a b ha hb
theorem xor_fallen (r : Nat) (h : r < 4294967296) : bits .xor .u32 ((r : Int) / 2) 3988292384 = ((r / 2 ^^^ 3988292384 : Nat) : Int) := by
  rw [show ((r : Int) / 2) = ((r / 2 : Nat) : Int) by omega, show (3988292384 : Int) = ((3988292384 : Nat) : Int) from rfl]
  exact u32_xor_nat _ _ (by omega) (by decide)

set_option maxHeartbeats 400000 in
theorem shifted_any (r : Nat) (w : World) (h : r < 4294967296) :
    Calls Try.prog 20 #[.int .u32 r] w fun e w' => e = .returned (.int .u32 (Cr.sh r)) ∧ w' = w := by
  go_enter Try.func20, Try.ntmps20
  go_wp2
  all_goals go_ret
  · have hh : (bits BinOp.and IntKind.u32 (r : Int) 1 == 1) = true := by assumption
    rw [and_one r h, beq_iff_eq] at hh
    refine ⟨ret_int ?_, rfl⟩
    rw [xor_fallen r h, Cr.sh, if_pos (by omega)]
  · have hh : (bits BinOp.and IntKind.u32 (r : Int) 1 == 1) = false := by assumption
    rw [and_one r h, beq_eq_false_iff_ne] at hh
    refine ⟨ret_int ?_, rfl⟩
    rw [Cr.sh, if_neg (by omega)]; omega

set_option maxHeartbeats 400000 in
theorem with_any (r b : Nat) (w : World) (h : r < 4294967296) (hb : b < 256) :
    Calls Try.prog 16 #[.int .u32 r, .int .u8 b] w fun e w' => e = .returned (.int .u32 (Cr.pw 8 (r ^^^ b))) ∧ w' = w := by
  have hx := xor_nat r b h (by omega)
  have hl := Cr.xor_lt r b h (by omega)
  generalize hy : r ^^^ b = y at hx hl
  clear hy
  go_enter Try.func16, Try.ntmps16
  go_wp2
  go_loop [0, 9] (fun x c => ∃ k z : Nat, k ≤ 8 ∧ c = .int .i64 k ∧ x = .int .u32 z ∧ z < 4294967296 ∧ Hid (Cr.pw (8 - k) z = Cr.pw 8 y)) (fun _ c => 8 - (intOf c).toNat)
  case atStart => exact ⟨0, y, by omega, by simp, rfl, hl, rfl⟩
  case round =>
    obtain ⟨k, z, hk, rfl, rfl, hz, hp⟩ := hrel
    by_cases hlt : k < 8
    · go_wp2_with fail
      refine (shifted_any _ _ hz).mono ?_
      rintro e w' ⟨rfl, rfl⟩
      go_wp2
      go_round
      case rel =>
        refine ⟨k + 1, Cr.sh z, by omega, by go_num, rfl, Cr.sh_lt _ hz, ?_⟩
        have := hp.out
        rw [show 8 - k = (8 - (k + 1)) + 1 by omega, Cr.pw] at this
        exact this
      case measure => simp [intOf]; omega
    · obtain rfl : k = 8 := by omega
      go_wp2
      go_ret
      exact ⟨ret_int (congrArg _ hp.out), rfl⟩

theorem flip_spelt (m : Nat) (h : m < 4294967296) : bits .xor .u32 IntKind.u32.max (m : Int) = ((Cr.flip m : Nat) : Int) := by
  rw [show IntKind.u32.max = ((4294967295 : Nat) : Int) from rfl, Cr.flip_xor m h]
  exact u32_xor_nat _ _ (by decide) h

theorem byte_at (s : ByteArray) (k : Nat) (h : k < s.size) : s.data.toList.drop k = s[k] :: s.data.toList.drop (k + 1) := by
  rw [List.drop_eq_getElem_cons (by simpa using h)]; rfl

set_option maxHeartbeats 400000 in
theorem more_any (m : Nat) (s : ByteArray) (w : World) (h : m < 4294967296) (hs : s.size ≤ 140737488351232) :
    Calls Try.prog 10 #[.int .u32 m, .string s] w fun e w' => e = .returned (.int .u32 (Cr.more m s.data.toList)) ∧ w' = w := by
  have hx := flip_spelt m h
  have hl := Cr.flip_lt m
  have hm : Hid (Cr.more m s.data.toList = Cr.flip (Cr.goes (Cr.flip m) s.data.toList)) := rfl
  generalize Cr.flip m = y at hx hl hm
  generalize Cr.more m s.data.toList = z at hm
  go_enter Try.func10, Try.ntmps10
  go_wp2
  go_loop [5, 11] (fun x c => ∃ k v : Nat, k ≤ s.size ∧ c = .int .i64 k ∧ x = .int .u32 v ∧ v < 4294967296 ∧ Hid (Cr.goes v (s.data.toList.drop k) = Cr.goes y s.data.toList)) (fun _ c => s.size - (intOf c).toNat)
  case atStart => exact ⟨0, y, by omega, by simp, rfl, hl, rfl⟩
  case round =>
    obtain ⟨k, v, hk, rfl, rfl, hv, hp⟩ := hrel
    by_cases hlt : k < s.size
    · have hb : s[k].toNat < 256 := s[k].toNat_lt
      have hd := Cr.pw_lt 8 _ (Cr.xor_lt v s[k].toNat hv (by omega))
      have hg : Hid (Cr.goes (Cr.pw 8 (v ^^^ s[k].toNat)) (s.data.toList.drop (k + 1)) = Cr.goes y s.data.toList) := by
        have := hp.out
        rw [byte_at s k hlt, Cr.goes_cons] at this
        exact this
      have HW := with_any v s[k].toNat w hv hb
      generalize Cr.pw 8 (v ^^^ s[k].toNat) = u at hd hg HW
      go_wp2_with fail
      refine HW.mono ?_
      rintro e w' ⟨rfl, rfl⟩
      go_wp2
      go_round
      case rel => exact ⟨k + 1, u, by omega, by go_num, rfl, hd, hg⟩
      case measure => simp [intOf]; omega
    · obtain rfl : k = s.size := by omega
      have e : s.data.toList.drop s.size = [] := List.drop_eq_nil_of_le (by simp)
      have hf := flip_spelt v hv
      have hq := hp.out
      rw [e, Cr.goes_nil] at hq
      rw [← hq] at hm
      clear hq hp e
      go_wp2
      go_ret
      exact ⟨ret_int (congrArg _ hm.out.symm), rfl⟩

set_option maxHeartbeats 400000 in
theorem sum_any (s : ByteArray) (w : World) (hs : s.size ≤ 140737488351232) :
    Calls Try.prog 12 #[.string s] w fun e w' => e = .returned (.int .u32 (Cr.sum s.data.toList)) ∧ w' = w := by
  have HM := more_any 0 s w (by decide) hs
  rw [show Cr.more 0 s.data.toList = Cr.sum s.data.toList from rfl] at HM
  generalize Cr.sum s.data.toList = z at HM
  go_enter Try.func12, Try.ntmps12
  go_wp2_with fail
  refine HM.mono ?_
  rintro e w' ⟨rfl, rfl⟩
  go_wp2
  go_ret
  exact ⟨rfl, rfl⟩

theorem top_spelt (a : Nat) (h : a < 4294967296) : (bits .and .u32 (a : Int) 2147483648 != 0) = decide (2147483648 ≤ a) := by
  rw [show (2147483648 : Int) = ((2147483648 : Nat) : Int) from rfl, u32_and_nat a 2147483648 h (by decide)]
  have e : a &&& 2147483648 = a / 2147483648 % 2 * 2147483648 := nat_bit 31 a
  rw [e]
  by_cases h2 : 2147483648 ≤ a
  · rw [decide_eq_true h2, bne_iff_ne]; omega
  · rw [decide_eq_false h2, bne_eq_false_iff_eq]; omega

set_option maxHeartbeats 400000 in
theorem times_any (r q : Nat) (w : World) (h : r < 4294967296) (hq : q < 4294967296) :
    Calls Try.prog 19 #[.int .u32 r, .int .u32 q] w fun e w' => e = .returned (.int .u32 (Cr.times r q)) ∧ w' = w := by
  go_enter Try.func19, Try.ntmps19
  go_wp2
  go_loop [0, 1, 5, 6] (fun x y p c => ∃ k a b d : Nat, k ≤ 32 ∧ c = .int .i64 k ∧ x = .int .u32 a ∧ y = .int .u32 b ∧ p = .int .u32 d ∧ a < 4294967296 ∧ b < 4294967296 ∧ d < 4294967296 ∧ Hid (Cr.mul (32 - k) d a b = Cr.times r q)) (fun _ _ _ c => 32 - (intOf c).toNat)
  case atStart => exact ⟨0, r, q, 0, by omega, by simp, rfl, rfl, by simp, h, hq, by decide, rfl⟩
  case round =>
    obtain ⟨k, a, b, d, hk, rfl, rfl, rfl, rfl, ha, hb, hd, hp⟩ := hrel
    by_cases hlt : k < 32
    · have ht := top_spelt a ha
      have hx := xor_nat d b hd hb
      have hxl := Cr.xor_lt d b hd hb
      have hg := hp.out
      rw [show 32 - k = (32 - (k + 1)) + 1 by omega, Cr.mul] at hg
      by_cases h2 : 2147483648 ≤ a
      · rw [decide_eq_true h2] at ht
        rw [if_pos h2] at hg
        generalize d ^^^ b = f at hx hxl hg
        replace hg : Hid (Cr.mul (32 - (k + 1)) f (a * 2 % 4294967296) (Cr.sh b) = Cr.times r q) := hg
        go_wp2_with fail
        refine (shifted_any _ _ hb).mono ?_
        rintro e w' ⟨rfl, rfl⟩
        go_wp2
        go_round
        case rel => exact ⟨k + 1, a * 2 % 4294967296, Cr.sh b, f, by omega, by go_num, by simp, rfl, rfl, by omega, Cr.sh_lt _ hb, hxl, hg⟩
        case measure => simp [intOf]; omega
      · rw [decide_eq_false h2] at ht
        rw [if_neg h2] at hg
        clear hx hxl
        replace hg : Hid (Cr.mul (32 - (k + 1)) d (a * 2 % 4294967296) (Cr.sh b) = Cr.times r q) := hg
        go_wp2_with fail
        refine (shifted_any _ _ hb).mono ?_
        rintro e w' ⟨rfl, rfl⟩
        go_wp2
        go_round
        case rel => exact ⟨k + 1, a * 2 % 4294967296, Cr.sh b, d, by omega, by go_num, by simp; omega, rfl, rfl, by omega, Cr.sh_lt _ hb, hd, hg⟩
        case measure => simp [intOf]; omega
    · obtain rfl : k = 32 := by omega
      go_wp2
      go_ret
      exact ⟨ret_int (congrArg _ hp.out), rfl⟩

set_option maxHeartbeats 400000 in
theorem repeat_any (r n : Nat) (w : World) (h : r < 4294967296) (hn : n < 9223372036854775808) :
    Calls Try.prog 18 #[.func (.func 19) #[] #[], .int .u32 r, .int .u32 8388608, .int .i64 n] w fun e w' => e = .returned (.int .u32 (Cr.pw (8 * n) r)) ∧ w' = w := by
  go_enter Try.func18, Try.ntmps18
  go_wp2
  go_loop [1, 2, 3] (fun x y c => ∃ m a b k : Nat, c = .int .i64 k ∧ k < 9223372036854775808 ∧ x = .int .u32 a ∧ y = .int .u32 b ∧ a < 4294967296 ∧ b < 4294967296 ∧ Hid (Cr.Step b m) ∧ Hid (Cr.pw (m * k) a = Cr.pw (8 * n) r)) (fun _ _ c => (intOf c).toNat)
  case atStart => exact ⟨8, r, 8388608, n, rfl, hn, rfl, by simp, h, by decide, Cr.step_first, rfl⟩
  case round =>
    obtain ⟨m, a, b, k, rfl, hk, rfl, rfl, ha, hb, hs, hp⟩ := hrel
    by_cases h0 : 0 < k
    · have hbb := Cr.times_lt b b hb
      have hs2 : Hid (Cr.Step (Cr.times b b) (m + m)) := Cr.step_next b m hs.out
      have HB := times_any b b w hb hb
      by_cases ho : k % 2 = 1
      · have hab := Cr.times_lt a b hb
        have hg : Hid (Cr.pw ((m + m) * (k / 2)) (Cr.times a b) = Cr.pw (8 * n) r) := (Cr.step_odd a b m k ha hs.out ho).symm.trans hp.out
        have HA := times_any a b w ha hb
        generalize Cr.times b b = bb at hbb hs2 HB
        generalize Cr.times a b = ab at hab hg HA
        go_wp2_with fail
        refine HA.mono ?_
        rintro e w' ⟨rfl, rfl⟩
        go_wp2_with fail
        refine HB.mono ?_
        rintro e w'' ⟨rfl, rfl⟩
        go_wp2
        go_round
        case rel => exact ⟨m + m, ab, bb, k / 2, by simp, by omega, rfl, rfl, hab, hbb, hs2, hg⟩
        case measure => simp [intOf]; omega
      · have hg : Hid (Cr.pw ((m + m) * (k / 2)) a = Cr.pw (8 * n) r) := (Cr.step_even a m k ho).symm.trans hp.out
        generalize Cr.times b b = bb at hbb hs2 HB
        go_wp2_with fail
        refine HB.mono ?_
        rintro e w'' ⟨rfl, rfl⟩
        go_wp2
        go_round
        case rel => exact ⟨m + m, a, bb, k / 2, by simp, by omega, rfl, rfl, ha, hbb, hs2, hg⟩
        case measure => simp [intOf]; omega
    · obtain rfl : k = 0 := by omega
      have hg := hp.out
      rw [Nat.mul_zero, Cr.pw] at hg
      replace hg : Hid (a = Cr.pw (8 * n) r) := hg
      go_wp2
      go_ret
      exact ⟨ret_int (congrArg _ hg.out), rfl⟩

set_option maxHeartbeats 400000 in
theorem join_any (a b : Nat) (n : Int) (w : World) (ha : a < 4294967296) (hb : b < 4294967296) (h0 : -9223372036854775808 ≤ n) (h1 : n ≤ 9223372036854775807) :
    Calls Try.prog 14 #[.int .u32 a, .int .u32 b, .int .i64 n] w fun e w' => e = .returned (.int .u32 (Cr.join a b n)) ∧ w' = w := by
  by_cases hn : n < 0
  · have e : Cr.join a b n = 0 := if_pos hn
    rw [e]
    go_enter Try.func14, Try.ntmps14
    go_wp2
    go_ret
    exact ⟨rfl, rfl⟩
  · have e : Cr.join a b n = Cr.pw (8 * n.toNat) a ^^^ b := if_neg hn
    obtain ⟨k, rfl⟩ := Int.eq_ofNat_of_zero_le (show 0 ≤ n by omega)
    rw [Int.toNat_natCast] at e
    have HR := repeat_any a k w ha (by omega)
    have hl := Cr.pw_lt (8 * k) a ha
    rw [e]
    generalize Cr.pw (8 * k) a = y at HR hl
    have hx := xor_nat y b hl hb
    generalize y ^^^ b = z at hx
    clear e
    go_enter Try.func14, Try.ntmps14
    go_wp2_with fail
    refine HR.mono ?_
    rintro e w' ⟨rfl, rfl⟩
    go_wp2
    go_ret
    exact ⟨rfl, rfl⟩

set_option maxHeartbeats 400000 in
theorem check_any (w : World) : Calls Try.prog 9 #[] w fun e w' => e = .returned (.bool true) ∧ w' = w := by
  have H1 := sum_any ⟨#[49, 50, 51, 52, 53, 54, 55, 56, 57]⟩ w (by decide)
  rw [show Cr.sum (⟨#[49, 50, 51, 52, 53, 54, 55, 56, 57]⟩ : ByteArray).data.toList = 3421780262 from Cr.sum_nine] at H1
  have H2 := sum_any ⟨#[]⟩ w (by decide)
  rw [show Cr.sum (⟨#[]⟩ : ByteArray).data.toList = 0 from Cr.sum_none] at H2
  have H3 := sum_any ⟨#[0]⟩ w (by decide)
  rw [show Cr.sum (⟨#[0]⟩ : ByteArray).data.toList = 3523407757 from Cr.sum_null] at H3
  have H4 := sum_any ⟨#[49, 50, 51, 52]⟩ w (by decide)
  rw [show Cr.sum (⟨#[49, 50, 51, 52]⟩ : ByteArray).data.toList = Cr.sum [49, 50, 51, 52] from rfl] at H4
  have H5 := sum_any ⟨#[53, 54, 55, 56, 57]⟩ w (by decide)
  rw [show Cr.sum (⟨#[53, 54, 55, 56, 57]⟩ : ByteArray).data.toList = Cr.sum [53, 54, 55, 56, 57] from rfl] at H5
  have H6 := join_any (Cr.sum [49, 50, 51, 52]) (Cr.sum [53, 54, 55, 56, 57]) 5 w (Cr.sum_lt _) (Cr.sum_lt _) (by decide) (by decide)
  rw [Cr.join_nine] at H6
  generalize Cr.sum [49, 50, 51, 52] = x at H4 H6
  generalize Cr.sum [53, 54, 55, 56, 57] = y at H5 H6
  go_enter Try.func9, Try.ntmps9
  go_wp2_with fail
  refine H1.mono ?_
  rintro e w' ⟨rfl, rfl⟩
  go_wp2_with fail
  refine H2.mono ?_
  rintro e w2 ⟨rfl, rfl⟩
  go_wp2_with fail
  refine H3.mono ?_
  rintro e w3 ⟨rfl, rfl⟩
  go_wp2_with fail
  refine H4.mono ?_
  rintro e w4 ⟨rfl, rfl⟩
  go_wp2_with fail
  refine H5.mono ?_
  rintro e w5 ⟨rfl, rfl⟩
  go_wp2_with fail
  refine H6.mono ?_
  rintro e w6 ⟨rfl, rfl⟩
  go_wp2
  go_ret
  exact ⟨rfl, rfl⟩

end Go.Proofs.Ytlhmcebgfpcokaa
