/- The walk of packed.number: over a function that tells bits one by one it tells the number of so many. -/
import Derived.Test.YtbhngncnhabbkaaPWalk
namespace Go.Proofs.Ytbhngncnhabbkaa
open Go.RowKit

/-- The function value tells bit p where I p stands, up to hi. -/
def Tells (f : FuncId) (cap : Array Value) (g : Nat → Nat) (hi : Nat) (I : Nat → World → Prop) : Prop :=
  ∀ p w, I p w → p < hi → Calls Try.prog f cap w fun e w' => e = .returned (.int .i64 (g p)) ∧ I (p + 1) w'

theorem pow_lt62 {k : Nat} (h : k ≤ 32) : 2 ^ k ≤ 4294967296 := Pk.pow32 k h

set_option maxHeartbeats 1000000 in
theorem number_any (f : FuncId) (hf : f = 86 ∨ f = 77) (cap : Array Value) (g : Nat → Nat) (hg : ∀ k, g k ≤ 1) (hi : Nat) (I : Nat → World → Prop) (H : Tells f cap g hi I) (p n : Nat) (hn : n ≤ 32) (hp : p + n ≤ hi) (w : World) (h0 : I p w) :
    Calls Try.prog 63 #[.func (.func f) #[] cap, .int .i64 n] w fun e w' => e = .returned (.int .i64 (Pk.num g p n)) ∧ I (p + n) w' := by
  have H : Hid _ := H
  have HI : Hid _ := h0
  clear h0
  rcases hf with rfl | rfl
  all_goals
    go_enter Try.func63, Try.ntmps63
    go_wp2
    go_loopw [5, 8] (fun x i wr => ∃ k : Nat, k ≤ n ∧ i = .int .i64 k ∧ x = .int .i64 (Pk.num g p k) ∧ Hid (I (p + k) wr)) (fun _ i _ => n - (intOf i).toNat)
    case atStart => exact ⟨0, Nat.zero_le _, rfl, rfl, HI⟩
    case round =>
      obtain ⟨k, hk, rfl, rfl, hI⟩ := hrel
      by_cases hlt : k < n
      · have HS : Hid (Calls _ _ _ _ _) := H.out (p + k) wr hI.out (by omega)
        have HN : Hid (Pk.num g p (k + 1) = Pk.num g p k + g (p + k) * 2 ^ k) := rfl
        have h1 := Pk.num_lt hg p k
        have h2 := hg (p + k)
        have h3 := pow_lt62 (show k ≤ 32 by omega)
        generalize Pk.num g p k = x at *
        generalize g (p + k) = y at *
        have ho := i64_or_add x y k h1 h2 (by omega)
        have h4 : y * 2 ^ k ≤ 1 * 2 ^ k := Nat.mul_le_mul_right _ h2
        have hm : (y : Int) * 2 ^ k = ((y * 2 ^ k : Nat) : Int) := by simp
        generalize y * 2 ^ k = m at *
        go_wp2_with fail
        refine Calls.mono HS.out ?_
        rintro e w' ⟨rfl, hI2⟩
        have hI2 : Hid _ := hI2
        go_wp2
        go_roundw
        case rel => exact ⟨k + 1, by omega, by go_num, by rw [HN.out]; go_num, hI2⟩
        case measure => simp [intOf]; omega
      · obtain rfl : k = n := by omega
        have HX : Hid _ := (show Hid (∃ x, x = Pk.num g p k) from ⟨_, rfl⟩)
        obtain ⟨x, hx⟩ := HX.out
        have HX : Hid _ := hx
        rw [← hx]
        clear hx
        go_wp2
        go_ret
        exact ⟨congrArg (fun n : Nat => Ending.returned (.int .i64 n)) HX.out, hI.out⟩

end Go.Proofs.Ytbhngncnhabbkaa
