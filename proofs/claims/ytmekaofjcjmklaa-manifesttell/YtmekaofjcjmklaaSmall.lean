/- The walks of ints' small functions: what bits.Len64, size, fold, unfold and mayEnd return, for every number of their types. -/
import Derived.Test.YtmekaofjcjmklaaLen
import Derived.Test.YtmekaofjcjmklaaRows
import Derived.WalkKit
import Derived.WalkSpells
import Derived.WalkLawsBesides
namespace Go.Proofs.Ytmekaofjcjmklaa
open Go.RowKit

theorem ret_int {k : IntKind} {a b : Int} (h : a = b) : Ending.returned (.int k a) = .returned (.int k b) := by rw [h]

set_option maxHeartbeats 400000 in
theorem size_any (u : Nat) (w : World) (h : u < 18446744073709551616) :
    Calls Try.prog 48 #[.int .u64 u] w fun e w' => e = .returned (.int .i64 (Vi.enc u).length) ∧ w' = w := by
  have hb : Hid (max 1 ((Lib.bitLen u + 6) / 7) = (Vi.enc u).length) := Vi.enc_bits u (by omega)
  have hl : Lib.bitLen u ≤ 64 := Lib.bitLen_le u 64 (by omega) (by omega)
  generalize hg : Lib.bitLen u = l at hb hl
  have HG : Hid (Lib.bitLen u = l) := hg
  clear hg
  go_enter Try.func48, Try.ntmps48
  go_wp2_with fail
  refine (len64_any _ _ (by omega) (by omega)).mono ?_
  rintro e w' ⟨rfl, rfl⟩
  rw [Int.toNat_natCast, HG.out]
  go_wp2
  all_goals go_ret
  all_goals (refine ⟨ret_int ?_, rfl⟩; rw [← hb.out]; omega)

/-- Whether b may be the last byte, at the place i. -/
def endB (i b : Nat) : Bool := if i = 9 then b == 1 else (b != 0 || i == 0)

theorem ret_bool {a b : Bool} (h : a = b) : Ending.returned (.bool a) = .returned (.bool b) := by rw [h]

set_option maxHeartbeats 400000 in
theorem mayEnd_any (i b : Nat) (w : World) (h : i < 10) :
    Calls Try.prog 55 #[.int .i64 i, .int .u8 b] w fun e w' => e = .returned (.bool (endB i b)) ∧ w' = w := by
  by_cases h9 : i = 9
  · subst h9
    go_enter Try.func55, Try.ntmps55
    go_wp2
    go_ret
    refine ⟨ret_bool ?_, rfl⟩
    simp only [endB]
    rw [Bool.eq_iff_iff]; simp; omega
  · go_enter Try.func55, Try.ntmps55
    go_wp2
    all_goals go_ret
    all_goals (refine ⟨ret_bool ?_, rfl⟩; simp only [endB, h9, if_false])
    all_goals (rw [Bool.eq_iff_iff]; simp; omega)

end Go.Proofs.Ytmekaofjcjmklaa
