/- Slices of ints; the walk of the statements' helper Same: what it returns, for all slices of ints. -/
import Derived.Test.YtbhngncnhabbkaaPMath
import Derived.Test.YtbhngncnhabbkaaRows
import Derived.WalkKit
import Derived.Below
import Derived.BigQuiet
namespace Go.Proofs.Ytbhngncnhabbkaa
open Go.RowKit

theorem take_succ (l : List Int) (k : Nat) (h : k < l.length) : l.take (k + 1) = l.take k ++ [l.getD k 0] := by
  rw [List.take_add_one, List.getElem?_eq_getElem h]
  simp [List.getD, h]

end Go.Proofs.Ytbhngncnhabbkaa
