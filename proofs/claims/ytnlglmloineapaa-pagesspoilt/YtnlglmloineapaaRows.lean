/-
  No cell of these rows narrows 'for every input' (looked for: loops, veiled, ifaces, maps, wideKeys, modest, calm, conditions, laid).
  DERIVED. THE GIVEN ROWS OF THIS SEAT. 6 by the template 'for every input the law returns true; each argument reads behind the call as it read before'; 0 by the template 'total and deterministic' (their statements: YtnlglmloineapaaTotals.lean).
  GIVEN WITH THE SEED: the statements are not yours to turn. If you find one false, say at which input.
  Laid BY PROGRAM, IN A SANDBOX (cutbox-rows.mjs): the forced cells as the released guide's own fill.sh prints them over the translation 66ac2d399ce54935… (all of the seat's roots in one cut). By AI agents, Wed Nov 11 2026. No macro, syntax, notation, axiom, sorry.
-/
import Derived.Test.YtnlglmloineapaaChecked
import GoSem.Claim
import GoSem.ClaimJoined
import GoSem.ClaimMapViews
import Derived.JoinedTies
import Derived.KernelRfl
namespace Go.Proofs.Ytnlglmloineapaa
/- THE CELL 'sum', in the pinned program and in every row, IS THE sha256 OF THE DUMP (.gsa) THAT YtnlglmloineapaaProg.lean LOADS. Nothing in Lean hashes anything: it is a label: what it is worth is what the hold of that sum in a sandbox is worth. -/
noncomputable def Try.pinned : Pinned := { name := "ytnlglmloineapaa", sum := "66ac2d399ce549356d5c474df003782410d7ca33f3f83a917a7a647d770c3e6b", checked := Try.checked }
namespace Rows
def none {H : Type} : Left H := { results := [], args := [] }

/-- 'carousellaw05.PagesEncode': WHATEVER THE INPUT: true; the input reads as it did. -/
def pagesEncodeSpec : ChangeSpec := { name := "pagesEncode", fn := fun _ => fun
  | [d] => { results := [.lit (.bool true)], args := [d] }
  | _ => none }
def pagesEncodeRow : OpenClaim := { program := "ytnlglmloineapaa", sum := "66ac2d399ce549356d5c474df003782410d7ca33f3f83a917a7a647d770c3e6b", func := "carousel/carousellaw05.PagesEncode", spec := "pagesEncode", inPlace := ["internal/abi.NoEscape"], unfollowed := true, recurses := true, apart := false }
def PagesEncodeSaid : Prop := pagesEncodeRow.holds Try.pinned (OpenSpec.ofChange pagesEncodeSpec)

/-- ITS FALSE NEIGHBOUR: 'it returns false'. Refute it at one input. -/
def pagesEncodeWrong : ChangeSpec := { name := "pagesEncode", fn := fun _ => fun
  | [d] => { results := [.lit (.bool false)], args := [d] }
  | _ => none }
def PagesEncodeWrongFalsely : Prop := pagesEncodeRow.holds Try.pinned (OpenSpec.ofChange pagesEncodeWrong)

/-- 'carousellaw05.PagesDecode': WHATEVER THE INPUT: true; the input reads as it did. -/
def pagesDecodeSpec : ChangeSpec := { name := "pagesDecode", fn := fun _ => fun
  | [d1, d2] => { results := [.lit (.bool true)], args := [d1, d2] }
  | _ => none }
def pagesDecodeRow : OpenClaim := { program := "ytnlglmloineapaa", sum := "66ac2d399ce549356d5c474df003782410d7ca33f3f83a917a7a647d770c3e6b", func := "carousel/carousellaw05.PagesDecode", spec := "pagesDecode", inPlace := ["internal/abi.NoEscape"], unfollowed := true, recurses := true, apart := false }
def PagesDecodeSaid : Prop := pagesDecodeRow.holds Try.pinned (OpenSpec.ofChange pagesDecodeSpec)

/-- ITS FALSE NEIGHBOUR: 'it returns false'. Refute it at one input. -/
def pagesDecodeWrong : ChangeSpec := { name := "pagesDecode", fn := fun _ => fun
  | [d1, d2] => { results := [.lit (.bool false)], args := [d1, d2] }
  | _ => none }
def PagesDecodeWrongFalsely : Prop := pagesDecodeRow.holds Try.pinned (OpenSpec.ofChange pagesDecodeWrong)

/-- 'carousellaw05.PagesBack': WHATEVER THE INPUT: true; the input reads as it did. -/
def pagesBackSpec : ChangeSpec := { name := "pagesBack", fn := fun _ => fun
  | [d] => { results := [.lit (.bool true)], args := [d] }
  | _ => none }
def pagesBackRow : OpenClaim := { program := "ytnlglmloineapaa", sum := "66ac2d399ce549356d5c474df003782410d7ca33f3f83a917a7a647d770c3e6b", func := "carousel/carousellaw05.PagesBack", spec := "pagesBack", inPlace := ["internal/abi.NoEscape"], unfollowed := true, recurses := true, apart := false }
def PagesBackSaid : Prop := pagesBackRow.holds Try.pinned (OpenSpec.ofChange pagesBackSpec)

/-- ITS FALSE NEIGHBOUR: 'it returns false'. Refute it at one input. -/
def pagesBackWrong : ChangeSpec := { name := "pagesBack", fn := fun _ => fun
  | [d] => { results := [.lit (.bool false)], args := [d] }
  | _ => none }
def PagesBackWrongFalsely : Prop := pagesBackRow.holds Try.pinned (OpenSpec.ofChange pagesBackWrong)

/-- 'carousellaw05.PagesWay': WHATEVER THE INPUT: true; the input reads as it did. -/
def pagesWaySpec : ChangeSpec := { name := "pagesWay", fn := fun _ => fun
  | [d1, d2] => { results := [.lit (.bool true)], args := [d1, d2] }
  | _ => none }
def pagesWayRow : OpenClaim := { program := "ytnlglmloineapaa", sum := "66ac2d399ce549356d5c474df003782410d7ca33f3f83a917a7a647d770c3e6b", func := "carousel/carousellaw05.PagesWay", spec := "pagesWay", inPlace := ["internal/abi.NoEscape"], unfollowed := true, recurses := true, apart := false }
def PagesWaySaid : Prop := pagesWayRow.holds Try.pinned (OpenSpec.ofChange pagesWaySpec)

/-- ITS FALSE NEIGHBOUR: 'it returns false'. Refute it at one input. -/
def pagesWayWrong : ChangeSpec := { name := "pagesWay", fn := fun _ => fun
  | [d1, d2] => { results := [.lit (.bool false)], args := [d1, d2] }
  | _ => none }
def PagesWayWrongFalsely : Prop := pagesWayRow.holds Try.pinned (OpenSpec.ofChange pagesWayWrong)

/-- 'carousellaw05.PagesBurst': WHATEVER THE INPUT: true; the input reads as it did. -/
def pagesBurstSpec : ChangeSpec := { name := "pagesBurst", fn := fun _ => fun
  | [d1, d2, d3] => { results := [.lit (.bool true)], args := [d1, d2, d3] }
  | _ => none }
def pagesBurstRow : OpenClaim := { program := "ytnlglmloineapaa", sum := "66ac2d399ce549356d5c474df003782410d7ca33f3f83a917a7a647d770c3e6b", func := "carousel/carousellaw05.PagesBurst", spec := "pagesBurst", inPlace := ["internal/abi.NoEscape"], unfollowed := true, recurses := true, apart := false }
def PagesBurstSaid : Prop := pagesBurstRow.holds Try.pinned (OpenSpec.ofChange pagesBurstSpec)

/-- ITS FALSE NEIGHBOUR: 'it returns false'. Refute it at one input. -/
def pagesBurstWrong : ChangeSpec := { name := "pagesBurst", fn := fun _ => fun
  | [d1, d2, d3] => { results := [.lit (.bool false)], args := [d1, d2, d3] }
  | _ => none }
def PagesBurstWrongFalsely : Prop := pagesBurstRow.holds Try.pinned (OpenSpec.ofChange pagesBurstWrong)

/-- 'carousellaw05.PagesSpoilt': WHATEVER THE INPUT: true; the input reads as it did. -/
def pagesSpoiltSpec : ChangeSpec := { name := "pagesSpoilt", fn := fun _ => fun
  | [d1, d2, d3] => { results := [.lit (.bool true)], args := [d1, d2, d3] }
  | _ => none }
def pagesSpoiltRow : OpenClaim := { program := "ytnlglmloineapaa", sum := "66ac2d399ce549356d5c474df003782410d7ca33f3f83a917a7a647d770c3e6b", func := "carousel/carousellaw05.PagesSpoilt", spec := "pagesSpoilt", inPlace := ["internal/abi.NoEscape"], unfollowed := true, recurses := true, apart := false }
def PagesSpoiltSaid : Prop := pagesSpoiltRow.holds Try.pinned (OpenSpec.ofChange pagesSpoiltSpec)

/-- ITS FALSE NEIGHBOUR: 'it returns false'. Refute it at one input. -/
def pagesSpoiltWrong : ChangeSpec := { name := "pagesSpoilt", fn := fun _ => fun
  | [d1, d2, d3] => { results := [.lit (.bool false)], args := [d1, d2, d3] }
  | _ => none }
def PagesSpoiltWrongFalsely : Prop := pagesSpoiltRow.holds Try.pinned (OpenSpec.ofChange pagesSpoiltWrong)

/- THE SECOND FORM. 'bulk': how many values and letters a reading holds, each counted each time it is reached (what is shared counts as often as it is met; a slice's spare places count too). A statement '..UptoSaid' is the law's where the arguments, and the package variables that the reading takes, are together of bulk at most 1048576: NARROWER than '..Said'. Prove '..Said' where nothing that the law and all that it calls make is longer than what came in: it says more and counts as full. Else prove '..UptoSaid'. A law counts once. -/
mutual
def uptoBulk {H : Type} : DataW H → Nat
  | .lit (.string bytes) => bytes.length + 1
  | .lit _ => 1
  | .nil => 1
  | .ptr d => uptoBulk d + 1
  | .slice elems spare => uptoBulkAll elems + uptoBulkAll spare + 1
  | .agg parts => uptoBulkAll parts + 1
  | .iface _ d => uptoBulk d + 1
  | .map entries => uptoBulkEntries entries + 1
  | .held _ => 1
def uptoBulkAll {H : Type} : List (DataW H) → Nat
  | [] => 0
  | d :: r => uptoBulk d + uptoBulkAll r
def uptoBulkEntries {H : Type} : List (Lit × DataW H) → Nat
  | [] => 0
  | x :: r => uptoBulkEntry x + uptoBulkEntries r
def uptoBulkEntry {H : Type} : Lit × DataW H → Nat
  | (.string bytes, d) => bytes.length + uptoBulk d + 1
  | (_, d) => uptoBulk d + 1
 end
def uptoSmall : (H : Type) → List (DataW H) → Bool := fun _ ds => decide (uptoBulkAll ds ≤ 1048576)
def OpenSpec.upto (s : _root_.Go.ChangeSpec) : _root_.Go.OpenSpec := { _root_.Go.OpenSpec.ofChange s with cond := some uptoSmall }

/-- 'carousellaw05.PagesEncode', WHERE WHAT IT READS IS OF BULK AT MOST 1048576: true; the input reads as it did. -/
def pagesEncodeUptoRow : OpenClaim := { program := "ytnlglmloineapaa", sum := "66ac2d399ce549356d5c474df003782410d7ca33f3f83a917a7a647d770c3e6b", func := "carousel/carousellaw05.PagesEncode", spec := "pagesEncode", inPlace := ["internal/abi.NoEscape"], unfollowed := true, recurses := true, apart := false, narrowed := true }
def PagesEncodeUptoSaid : Prop := pagesEncodeUptoRow.holds Try.pinned (OpenSpec.upto pagesEncodeSpec)

/-- 'carousellaw05.PagesDecode', WHERE WHAT IT READS IS OF BULK AT MOST 1048576: true; the input reads as it did. -/
def pagesDecodeUptoRow : OpenClaim := { program := "ytnlglmloineapaa", sum := "66ac2d399ce549356d5c474df003782410d7ca33f3f83a917a7a647d770c3e6b", func := "carousel/carousellaw05.PagesDecode", spec := "pagesDecode", inPlace := ["internal/abi.NoEscape"], unfollowed := true, recurses := true, apart := false, narrowed := true }
def PagesDecodeUptoSaid : Prop := pagesDecodeUptoRow.holds Try.pinned (OpenSpec.upto pagesDecodeSpec)

/-- 'carousellaw05.PagesBack', WHERE WHAT IT READS IS OF BULK AT MOST 1048576: true; the input reads as it did. -/
def pagesBackUptoRow : OpenClaim := { program := "ytnlglmloineapaa", sum := "66ac2d399ce549356d5c474df003782410d7ca33f3f83a917a7a647d770c3e6b", func := "carousel/carousellaw05.PagesBack", spec := "pagesBack", inPlace := ["internal/abi.NoEscape"], unfollowed := true, recurses := true, apart := false, narrowed := true }
def PagesBackUptoSaid : Prop := pagesBackUptoRow.holds Try.pinned (OpenSpec.upto pagesBackSpec)

/-- 'carousellaw05.PagesWay', WHERE WHAT IT READS IS OF BULK AT MOST 1048576: true; the input reads as it did. -/
def pagesWayUptoRow : OpenClaim := { program := "ytnlglmloineapaa", sum := "66ac2d399ce549356d5c474df003782410d7ca33f3f83a917a7a647d770c3e6b", func := "carousel/carousellaw05.PagesWay", spec := "pagesWay", inPlace := ["internal/abi.NoEscape"], unfollowed := true, recurses := true, apart := false, narrowed := true }
def PagesWayUptoSaid : Prop := pagesWayUptoRow.holds Try.pinned (OpenSpec.upto pagesWaySpec)

/-- 'carousellaw05.PagesBurst', WHERE WHAT IT READS IS OF BULK AT MOST 1048576: true; the input reads as it did. -/
def pagesBurstUptoRow : OpenClaim := { program := "ytnlglmloineapaa", sum := "66ac2d399ce549356d5c474df003782410d7ca33f3f83a917a7a647d770c3e6b", func := "carousel/carousellaw05.PagesBurst", spec := "pagesBurst", inPlace := ["internal/abi.NoEscape"], unfollowed := true, recurses := true, apart := false, narrowed := true }
def PagesBurstUptoSaid : Prop := pagesBurstUptoRow.holds Try.pinned (OpenSpec.upto pagesBurstSpec)

/-- 'carousellaw05.PagesSpoilt', WHERE WHAT IT READS IS OF BULK AT MOST 1048576: true; the input reads as it did. -/
def pagesSpoiltUptoRow : OpenClaim := { program := "ytnlglmloineapaa", sum := "66ac2d399ce549356d5c474df003782410d7ca33f3f83a917a7a647d770c3e6b", func := "carousel/carousellaw05.PagesSpoilt", spec := "pagesSpoilt", inPlace := ["internal/abi.NoEscape"], unfollowed := true, recurses := true, apart := false, narrowed := true }
def PagesSpoiltUptoSaid : Prop := pagesSpoiltUptoRow.holds Try.pinned (OpenSpec.upto pagesSpoiltSpec)

end Rows
end Go.Proofs.Ytnlglmloineapaa
