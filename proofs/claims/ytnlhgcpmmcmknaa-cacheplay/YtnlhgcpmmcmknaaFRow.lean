/- Slices of strings, rows of bytes, and the walks of the statements' helpers Texts, Great and Some, and of strings.Clone. -/
import Derived.Test.YtnlhgcpmmcmknaaQSplit
import Derived.Test.YtnlhgcpmmcmknaaFrame
import Derived.WalkKit
import Derived.WalkSpells
import Derived.WalkLawsBesides
import Derived.Laws.BitsAllLaws
import Derived.Laws.IdiomStrings
import Derived.Laws.MakeOwn
import Derived.Lib.BufferWrite
import Derived.Below
import Derived.SliceStrings
import Derived.BigQuiet
import Derived.OwnWalk
import Derived.Maps.AppendAt
import Derived.Shelf.Strconv.Clone
namespace Go.Proofs.Ytnlhgcpmmcmknaa
open Go.ChangeShapes Go.WideShapes Go.ChangeAt Go.RowKit Go.Shelf

theorem wf_u8 {n : Int} (h : (Lit.int .u8 n).wf = true) : ∃ k : Nat, n = k ∧ k < 256 := by
  have : 0 ≤ n ∧ n ≤ 255 := by simpa [Lit.wf, IntKind.min, IntKind.max, IntKind.signed, IntKind.bits] using h
  exact ⟨n.toNat, by omega, by omega⟩

theorem scells_length (l : List ByteArray) : (scells l).length = l.length := by simp [scells]

theorem scells_one (l : List ByteArray) : ∀ u ∈ scells l, u.oneCell' = true := by
  intro u hu
  obtain ⟨s, _, rfl⟩ := List.mem_map.1 hu
  rfl

theorem scells_set (l : List ByteArray) (k : Nat) (s : ByteArray) : (scells l).set k (.string s) = scells (l.set k s) := by simp [scells, List.map_set]

theorem scells_snoc (l : List ByteArray) (q : ByteArray) : scells l ++ [.string q] = scells (l ++ [q]) := by simp [scells]

theorem size_list (s : ByteArray) : s.data.toList.length = s.size := by simp

end Go.Proofs.Ytnlhgcpmmcmknaa
