/- The walks of sums' functions: what they return, for every argument; the world is as it was. -/
import Derived.Test.YtmekaofjcjmklaaSMath
import Derived.WalkKit
import Derived.WalkSpells
import Derived.WalkLawsBesides
import Derived.Laws.BitsAllLaws
namespace Go.Proofs.Ytmekaofjcjmklaa
open Go.RowKit

theorem and_one (r : Nat) (h : r < 4294967296) : bits .and .u32 (r : Int) 1 = ((r % 2 : Nat) : Int) := by
  rw [show (1 : Int) = ((1 : Nat) : Int) from rfl, u32_and_nat r 1 h (by decide), nat_mask1]
theorem xor_nat (a b : Nat) (ha : a < 4294967296) (hb : b < 4294967296) : bits .xor .u32 (a : Int) (b : Int) = ((a ^^^ b : Nat) : Int) := u32_xor_nat a b ha hb
theorem xor_fallen (r : Nat) (h : r < 4294967296) : bits .xor .u32 ((r : Int) / 2) 3988292384 = ((r / 2 ^^^ 3988292384 : Nat) : Int) := by
  rw [show ((r : Int) / 2) = ((r / 2 : Nat) : Int) by omega, show (3988292384 : Int) = ((3988292384 : Nat) : Int) from rfl]
  exact u32_xor_nat _ _ (by omega) (by decide)

set_option maxHeartbeats 400000 in
theorem shifted_any (r : Nat) (w : World) (h : r < 4294967296) :
    Calls Try.prog 58 #[.int .u32 r] w fun e w' => e = .returned (.int .u32 (Cr.sh r)) ∧ w' = w := by
  go_enter Try.func58, Try.ntmps58
  go_wp2
  all_goals go_ret
  · have hh : (bits BinOp.and IntKind.u32 (r : Int) 1 == 1) = true := by assumption
    rw [and_one r h, beq_iff_eq] at hh
    refine ⟨ret_int ?_, rfl⟩
    rw [xor_fallen r h, Cr.sh, if_pos (by omega)]
  · have hh : (bits BinOp.and IntKind.u32 (r : Int) 1 == 1) = false := by assumption
    rw [and_one r h, beq_eq_false_iff_ne] at hh
    refine ⟨ret_int ?_, rfl⟩
    rw [Cr.sh, if_neg (by omega)]; omega

set_option maxHeartbeats 400000 in
theorem with_any (r b : Nat) (w : World) (h : r < 4294967296) (hb : b < 256) :
    Calls Try.prog 53 #[.int .u32 r, .int .u8 b] w fun e w' => e = .returned (.int .u32 (Cr.pw 8 (r ^^^ b))) ∧ w' = w := by
  have hx := xor_nat r b h (by omega)
  have hl := Cr.xor_lt r b h (by omega)
  generalize hy : r ^^^ b = y at hx hl
  clear hy
  go_enter Try.func53, Try.ntmps53
  go_wp2
  go_loop [0, 9] (fun x c => ∃ k z : Nat, k ≤ 8 ∧ c = .int .i64 k ∧ x = .int .u32 z ∧ z < 4294967296 ∧ Hid (Cr.pw (8 - k) z = Cr.pw 8 y)) (fun _ c => 8 - (intOf c).toNat)
  case atStart => exact ⟨0, y, by omega, by simp, rfl, hl, rfl⟩
  case round =>
    obtain ⟨k, z, hk, rfl, rfl, hz, hp⟩ := hrel
    by_cases hlt : k < 8
    · go_wp2_with fail
      refine (shifted_any _ _ hz).mono ?_
      rintro e w' ⟨rfl, rfl⟩
      go_wp2
      go_round
      case rel =>
        refine ⟨k + 1, Cr.sh z, by omega, by go_num, rfl, Cr.sh_lt _ hz, ?_⟩
        have := hp.out
        rw [show 8 - k = (8 - (k + 1)) + 1 by omega, Cr.pw] at this
        exact this
      case measure => simp [intOf]; omega
    · obtain rfl : k = 8 := by omega
      go_wp2
      go_ret
      exact ⟨ret_int (congrArg _ hp.out), rfl⟩

theorem flip_spelt (m : Nat) (h : m < 4294967296) : bits .xor .u32 IntKind.u32.max (m : Int) = ((Cr.flip m : Nat) : Int) := by
  rw [show IntKind.u32.max = ((4294967295 : Nat) : Int) from rfl, Cr.flip_xor m h]
  exact u32_xor_nat _ _ (by decide) h

theorem byte_at (s : ByteArray) (k : Nat) (h : k < s.size) : s.data.toList.drop k = s[k] :: s.data.toList.drop (k + 1) := by
  rw [List.drop_eq_getElem_cons (by simpa using h)]; rfl

set_option maxHeartbeats 400000 in
theorem more_any (m : Nat) (s : ByteArray) (w : World) (h : m < 4294967296) (hs : s.size ≤ 140737488351232) :
    Calls Try.prog 47 #[.int .u32 m, .string s] w fun e w' => e = .returned (.int .u32 (Cr.more m s.data.toList)) ∧ w' = w := by
  have hx := flip_spelt m h
  have hl := Cr.flip_lt m
  have hm : Hid (Cr.more m s.data.toList = Cr.flip (Cr.goes (Cr.flip m) s.data.toList)) := rfl
  generalize Cr.flip m = y at hx hl hm
  generalize Cr.more m s.data.toList = z at hm
  go_enter Try.func47, Try.ntmps47
  go_wp2
  go_loop [5, 11] (fun x c => ∃ k v : Nat, k ≤ s.size ∧ c = .int .i64 k ∧ x = .int .u32 v ∧ v < 4294967296 ∧ Hid (Cr.goes v (s.data.toList.drop k) = Cr.goes y s.data.toList)) (fun _ c => s.size - (intOf c).toNat)
  case atStart => exact ⟨0, y, by omega, by simp, rfl, hl, rfl⟩
  case round =>
    obtain ⟨k, v, hk, rfl, rfl, hv, hp⟩ := hrel
    by_cases hlt : k < s.size
    · have hb : s[k].toNat < 256 := s[k].toNat_lt
      have hd := Cr.pw_lt 8 _ (Cr.xor_lt v s[k].toNat hv (by omega))
      have hg : Hid (Cr.goes (Cr.pw 8 (v ^^^ s[k].toNat)) (s.data.toList.drop (k + 1)) = Cr.goes y s.data.toList) := by
        have := hp.out
        rw [byte_at s k hlt, Cr.goes_cons] at this
        exact this
      have HW := with_any v s[k].toNat w hv hb
      generalize Cr.pw 8 (v ^^^ s[k].toNat) = u at hd hg HW
      go_wp2_with fail
      refine HW.mono ?_
      rintro e w' ⟨rfl, rfl⟩
      go_wp2
      go_round
      case rel => exact ⟨k + 1, u, by omega, by go_num, rfl, hd, hg⟩
      case measure => simp [intOf]; omega
    · obtain rfl : k = s.size := by omega
      have e : s.data.toList.drop s.size = [] := List.drop_eq_nil_of_le (by simp)
      have hf := flip_spelt v hv
      have hq := hp.out
      rw [e, Cr.goes_nil] at hq
      rw [← hq] at hm
      clear hq hp e
      go_wp2
      go_ret
      exact ⟨ret_int (congrArg _ hm.out.symm), rfl⟩

set_option maxHeartbeats 400000 in
theorem sum_any (s : ByteArray) (w : World) (hs : s.size ≤ 140737488351232) :
    Calls Try.prog 34 #[.string s] w fun e w' => e = .returned (.int .u32 (Cr.sum s.data.toList)) ∧ w' = w := by
  have HM := more_any 0 s w (by decide) hs
  rw [show Cr.more 0 s.data.toList = Cr.sum s.data.toList from rfl] at HM
  generalize Cr.sum s.data.toList = z at HM
  go_enter Try.func34, Try.ntmps34
  go_wp2_with fail
  refine HM.mono ?_
  rintro e w' ⟨rfl, rfl⟩
  go_wp2
  go_ret
  exact ⟨rfl, rfl⟩

theorem top_spelt (a : Nat) (h : a < 4294967296) : (bits .and .u32 (a : Int) 2147483648 != 0) = decide (2147483648 ≤ a) := by
  rw [show (2147483648 : Int) = ((2147483648 : Nat) : Int) from rfl, u32_and_nat a 2147483648 h (by decide)]
  have e : a &&& 2147483648 = a / 2147483648 % 2 * 2147483648 := nat_bit 31 a
  rw [e]
  by_cases h2 : 2147483648 ≤ a
  · rw [decide_eq_true h2, bne_iff_ne]; omega
  · rw [decide_eq_false h2, bne_eq_false_iff_eq]; omega





end Go.Proofs.Ytmekaofjcjmklaa
