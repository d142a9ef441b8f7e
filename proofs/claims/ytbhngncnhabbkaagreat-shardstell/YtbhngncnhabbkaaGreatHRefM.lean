/- The walk of the document's own may. -/
import Derived.Test.YtbhngncnhabbkaaGreatHSize
namespace Go.Proofs.YtbhngncnhabbkaaGreat
open Go.RowKit

theorem rmayP_any (p : Int × Int) (w : World) :
    Calls Tryz.prog 36 #[.agg #[.int .i64 p.1, .int .i64 p.2]] w fun e w' => e = .returned (.bool (Sh.mayP p)) ∧ Below w.heap.size w w' := by
  obtain ⟨a, b⟩ := p
  dsimp only
  have hb : Hid (Below w.heap.size w (w.alloc (.cells #[.int .i64 a, .int .i64 b] 23))) := (Below.refl _ w).alloc (Nat.le_refl _) _
  by_cases h1 : 0 ≤ a
  · by_cases h2 : a < b
    · by_cases h3 : b ≤ 256
      · have HR : Hid (Sh.mayP (a, b) = true) := Sh.mayP_iff.2 ⟨h1, h2, h3⟩
        generalize Sh.mayP (a, b) = r at *
        go_enter Tryz.func36, Tryz.ntmps36
        go_wp2
        go_ret
        exact ⟨ret_bool HR.out.symm, hb.out⟩
      · have HR : Hid (Sh.mayP (a, b) = false) := by simp [Hid, Sh.mayP, h3]
        generalize Sh.mayP (a, b) = r at *
        go_enter Tryz.func36, Tryz.ntmps36
        go_wp2
        go_ret
        exact ⟨ret_bool HR.out.symm, hb.out⟩
    · have HR : Hid (Sh.mayP (a, b) = false) := by simp [Hid, Sh.mayP, h2]
      generalize Sh.mayP (a, b) = r at *
      go_enter Tryz.func36, Tryz.ntmps36
      go_wp2
      go_ret
      exact ⟨ret_bool HR.out.symm, hb.out⟩
  · have HR : Hid (Sh.mayP (a, b) = false) := by simp [Hid, Sh.mayP, h1]
    generalize Sh.mayP (a, b) = r at *
    go_enter Tryz.func36, Tryz.ntmps36
    go_wp2
    go_ret
    exact ⟨ret_bool HR.out.symm, hb.out⟩

end Go.Proofs.YtbhngncnhabbkaaGreat
