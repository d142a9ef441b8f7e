/- What a shard that may be is held to; what Decode tells, case by case. -/
import Derived.Test.YtbhngncnhabbkaaHDoes
namespace Go.Proofs.Ytbhngncnhabbkaa
open Go.RowKit

namespace Sh
theorem may_fit {s : Shard} (h : may s = true) : FitS s.2 ∧ (-9223372036854775808 ≤ s.1.1 ∧ s.1.1 ≤ 9223372036854775807) ∧ (-9223372036854775808 ≤ s.1.2 ∧ s.1.2 ≤ 9223372036854775807) := by
  obtain ⟨h1, h2, h3, h4⟩ := may_iff.1 h
  rw [mayP_iff] at h1
  refine ⟨⟨by omega, fun l hl => ?_⟩, ⟨by omega, by omega⟩, by omega, by omega⟩
  have h5 := many_ge l hl
  obtain ⟨_, h6⟩ := okF_mem h3 l hl
  exact ⟨by omega, fun z hz => by have := h6 z hz; omega⟩
theorem decS_cases (b : List UInt8) : (decE b = 10 ∧ decS b = none_) ∨ ∃ s, may s = true ∧ enc s = b ∧ decE b = 0 ∧ decS b = s := by
  cases h : dec b with
  | none => exact .inl ⟨decE_none h, decS_none h⟩
  | some s => exact .inr ⟨s, (dec_some h).1, (dec_some h).2, decE_some h, decS_some h⟩
theorem encS_enc {s : Shard} (h : may s = true) : encS s = enc s := by unfold encS; rw [if_pos h]
end Sh
theorem none_fit : FitS Sh.none_.2 := ⟨by decide, fun l hl => by simp [Sh.none_] at hl⟩

end Go.Proofs.Ytbhngncnhabbkaa
