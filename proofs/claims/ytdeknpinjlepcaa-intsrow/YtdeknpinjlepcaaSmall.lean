/- The walks of ints' small functions: what bits.Len64, size, fold, unfold and mayEnd return, for every number of their types. -/
import Derived.Test.YtdeknpinjlepcaaRows
import Derived.Test.YtdeknpinjlepcaaMath
import Derived.WalkKit
import Derived.WalkSpells
import Derived.WalkLawsBesides
import Derived.Test.YtdeknpinjlepcaaLen
namespace Go.Proofs.Ytdeknpinjlepcaa
open Go.RowKit

theorem ret_int {k : IntKind} {a b : Int} (h : a = b) : Ending.returned (.int k a) = .returned (.int k b) := by rw [h]

set_option maxHeartbeats 400000 in
theorem size_any (u : Nat) (w : World) (h : u < 18446744073709551616) :
    Calls Try.prog 24 #[.int .u64 u] w fun e w' => e = .returned (.int .i64 (Vi.enc u).length) ∧ w' = w := by
  have hb : Hid (max 1 ((Lib.bitLen u + 6) / 7) = (Vi.enc u).length) := Vi.enc_bits u (by omega)
  have hl : Lib.bitLen u ≤ 64 := Lib.bitLen_le u 64 (by omega) (by omega)
  generalize hg : Lib.bitLen u = l at hb hl
  have HG : Hid (Lib.bitLen u = l) := hg
  clear hg
  go_enter Try.func24, Try.ntmps24
  go_wp2_with fail
  refine (len64_any _ _ (by omega) (by omega)).mono ?_
  rintro e w' ⟨rfl, rfl⟩
  rw [Int.toNat_natCast, HG.out]
  go_wp2
  all_goals go_ret
  all_goals (refine ⟨ret_int ?_, rfl⟩; rw [← hb.out]; omega)

set_option maxHeartbeats 400000 in
theorem fold_any (n : Int) (w : World) (h0 : -9223372036854775808 ≤ n) (h1 : n ≤ 9223372036854775807) :
    Calls Try.prog 20 #[.int .i64 n] w fun e w' => e = .returned (.int .u64 (Vi.fold n)) ∧ w' = w := by
  go_enter Try.func20, Try.ntmps20
  go_wp2
  all_goals go_ret
  all_goals (refine ⟨ret_int ?_, rfl⟩; unfold Vi.fold; split <;> omega)

set_option maxHeartbeats 400000 in
theorem unfold_any (u : Nat) (w : World) (h : u < 18446744073709551616) :
    Calls Try.prog 23 #[.int .u64 u] w fun e w' => e = .returned (.int .i64 (Vi.unfold u)) ∧ w' = w := by
  go_enter Try.func23, Try.ntmps23
  go_wp2
  all_goals go_ret
  all_goals (refine ⟨ret_int ?_, rfl⟩; unfold Vi.unfold)
  all_goals first
    | (have hh : ((u : Int) % 2 == 1) = true := by assumption
       rw [beq_iff_eq] at hh
       split <;> omega)
    | (have hh : ((u : Int) % 2 == 1) = false := by assumption
       rw [beq_eq_false_iff_ne] at hh
       split <;> omega)

/-- Whether b may be the last byte, at the place i. -/
def endB (i b : Nat) : Bool := if i = 9 then b == 1 else (b != 0 || i == 0)

theorem ret_bool {a b : Bool} (h : a = b) : Ending.returned (.bool a) = .returned (.bool b) := by rw [h]

set_option maxHeartbeats 400000 in
theorem mayEnd_any (i b : Nat) (w : World) (h : i < 10) :
    Calls Try.prog 25 #[.int .i64 i, .int .u8 b] w fun e w' => e = .returned (.bool (endB i b)) ∧ w' = w := by
  by_cases h9 : i = 9
  · subst h9
    go_enter Try.func25, Try.ntmps25
    go_wp2
    go_ret
    refine ⟨ret_bool ?_, rfl⟩
    simp only [endB]
    rw [Bool.eq_iff_iff]; simp; omega
  · go_enter Try.func25, Try.ntmps25
    go_wp2
    all_goals go_ret
    all_goals (refine ⟨ret_bool ?_, rfl⟩; simp only [endB, h9, if_false])
    all_goals (rw [Bool.eq_iff_iff]; simp; omega)

end Go.Proofs.Ytdeknpinjlepcaa
