/- The walk of bits.Len64: for every uint64 it returns the number of its bits, and the world is as it was. -/
import Derived.Test.YtmekaofjcjmklaaMath
import Derived.Test.YtmekaofjcjmklaaRows
import Derived.Lib.Strings
import Derived.Lib.Slices
import Derived.Lib.Small
import Derived.Lib.Walk
import Derived.Lib.BitFns
namespace Go.Proofs.Ytmekaofjcjmklaa

/-- The last step: the number was shifted down by S bits, what is left is y, one byte. -/
theorem len_way (x y : Int) (S : Nat) (h1 : x ≤ 18446744073709551615) (hy0 : 0 ≤ y) (hy1 : y ≤ 255) (hs : y.toNat = x.toNat / 2 ^ S) (hg : 2 ^ S ≤ x.toNat ∨ S = 0) :
    Lib.len8 y = (Lib.bitLen x.toNat : Int) - S ∧ Lib.bitLen x.toNat ≤ S + 8 ∧ S ≤ Lib.bitLen x.toNat := by
  have hb := Lib.bitLen_le8' y hy0 hy1
  have he : Lib.bitLen x.toNat = S + Lib.bitLen y.toNat := by
    rcases hg with hg | rfl
    · rw [hs]; exact Lib.bitLen_shift S x.toNat hg (by omega)
    · rw [hs]; simp
  rw [Lib.len8_of y hy0 hy1]
  omega

set_option maxHeartbeats 4000000 in
set_option maxRecDepth 100000 in
theorem len64_any (x : Int) (w : World) (h0 : 0 ≤ x) (h1 : x ≤ 18446744073709551615) :
    Calls Try.prog 54 #[.int .u64 x] w fun e w' => e = .returned (.int .i64 (Lib.bitLen x.toNat)) ∧ w' = w := by
  go_enter Try.func54, Try.ntmps54
  go_wp2
  all_goals go_ret
  all_goals refine ⟨congrArg (fun n => Ending.returned (Value.int IntKind.i64 n)) ?_, rfl⟩
  · have := len_way x (x / 4294967296 / 65536 / 256 % 256) 56 h1 (by omega) (by omega) (by omega) (by omega)
    omega
  · have := len_way x (x / 4294967296 / 65536 % 256) 48 h1 (by omega) (by omega) (by omega) (by omega)
    omega
  · have := len_way x (x / 4294967296 / 256 % 256) 40 h1 (by omega) (by omega) (by omega) (by omega)
    omega
  · have := len_way x (x / 4294967296 % 256) 32 h1 (by omega) (by omega) (by omega) (by omega)
    omega
  · have := len_way x (x / 65536 / 256 % 256) 24 h1 (by omega) (by omega) (by omega) (by omega)
    omega
  · have := len_way x (x / 65536 % 256) 16 h1 (by omega) (by omega) (by omega) (by omega)
    omega
  · have := len_way x (x / 256 % 256) 8 h1 (by omega) (by omega) (by omega) (by omega)
    omega
  · have := len_way x (x % 256) 0 h1 (by omega) (by omega) (by omega) (by omega)
    omega

end Go.Proofs.Ytmekaofjcjmklaa
