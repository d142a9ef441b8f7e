/-
  No cell of these rows narrows 'for every input' (looked for: loops, veiled, ifaces, maps, wideKeys, modest, calm, conditions, laid).
  DERIVED. THE GIVEN ROWS OF THIS SEAT. 4 by the template 'for every input the law returns true; each argument reads behind the call as it read before'; 0 by the template 'total and deterministic' (their statements: YtbhngncnhabbkaaGreatTotals.lean).
  GIVEN WITH THE SEED: the statements are not yours to turn. If you find one false, say at which input.
  Laid BY PROGRAM, IN A SANDBOX (cutbox-rows.mjs): the forced cells as the released guide's own fill.sh prints them over the translation 69006316230570db… (all of the seat's roots in one cut). By AI agents, Wed Nov 11 2026. No macro, syntax, notation, axiom, sorry.
-/
import Derived.Test.YtbhngncnhabbkaaGreatChecked
import GoSem.Claim
import GoSem.ClaimJoined
import GoSem.ClaimMapViews
import Derived.JoinedTies
import Derived.KernelRfl
namespace Go.Proofs.YtbhngncnhabbkaaGreat
/- THE CELL 'sum', in the pinned program and in every row, IS THE sha256 OF THE DUMP (.gsa) THAT YtbhngncnhabbkaaGreatProg.lean LOADS. Nothing in Lean hashes anything: it is a label: what it is worth is what the hold of that sum in a sandbox is worth. -/
noncomputable def Tryz.pinned : Pinned := { name := "ytbhngncnhabbkaagreat", sum := "69006316230570db2f101b0eabed0bc610e287c7f6be40c1841fc92de59f805b", checked := Tryz.checked }
namespace Rows
def none {H : Type} : Left H := { results := [], args := [] }

/-- 'carousellaw10.ShardsTell': WHATEVER THE INPUT: true; the input reads as it did. -/
def shardsTellSpec : ChangeSpec := { name := "shardsTell", fn := fun _ => fun
  | [d1, d2] => { results := [.lit (.bool true)], args := [d1, d2] }
  | _ => none }
def shardsTellRow : OpenClaim := { program := "ytbhngncnhabbkaagreat", sum := "69006316230570db2f101b0eabed0bc610e287c7f6be40c1841fc92de59f805b", func := "carousel/carousellaw10.ShardsTell", spec := "shardsTell", inPlace := ["internal/abi.NoEscape"], unfollowed := true, recurses := true, apart := false }
def ShardsTellSaid : Prop := shardsTellRow.holds Tryz.pinned (OpenSpec.ofChange shardsTellSpec)

/-- ITS FALSE NEIGHBOUR: 'it returns false'. Refute it at one input. -/
def shardsTellWrong : ChangeSpec := { name := "shardsTell", fn := fun _ => fun
  | [d1, d2] => { results := [.lit (.bool false)], args := [d1, d2] }
  | _ => none }
def ShardsTellWrongFalsely : Prop := shardsTellRow.holds Tryz.pinned (OpenSpec.ofChange shardsTellWrong)

/-- 'carousellaw10.ShardsBack': WHATEVER THE INPUT: true; the input reads as it did. -/
def shardsBackSpec : ChangeSpec := { name := "shardsBack", fn := fun _ => fun
  | [d1, d2, d3] => { results := [.lit (.bool true)], args := [d1, d2, d3] }
  | _ => none }
def shardsBackRow : OpenClaim := { program := "ytbhngncnhabbkaagreat", sum := "69006316230570db2f101b0eabed0bc610e287c7f6be40c1841fc92de59f805b", func := "carousel/carousellaw10.ShardsBack", spec := "shardsBack", inPlace := ["internal/abi.NoEscape"], unfollowed := true, recurses := true, apart := false }
def ShardsBackSaid : Prop := shardsBackRow.holds Tryz.pinned (OpenSpec.ofChange shardsBackSpec)

/-- ITS FALSE NEIGHBOUR: 'it returns false'. Refute it at one input. -/
def shardsBackWrong : ChangeSpec := { name := "shardsBack", fn := fun _ => fun
  | [d1, d2, d3] => { results := [.lit (.bool false)], args := [d1, d2, d3] }
  | _ => none }
def ShardsBackWrongFalsely : Prop := shardsBackRow.holds Tryz.pinned (OpenSpec.ofChange shardsBackWrong)

/-- 'carousellaw10.ShardsTurned': WHATEVER THE INPUT: true; the input reads as it did. -/
def shardsTurnedSpec : ChangeSpec := { name := "shardsTurned", fn := fun _ => fun
  | [d1, d2, d3] => { results := [.lit (.bool true)], args := [d1, d2, d3] }
  | _ => none }
def shardsTurnedRow : OpenClaim := { program := "ytbhngncnhabbkaagreat", sum := "69006316230570db2f101b0eabed0bc610e287c7f6be40c1841fc92de59f805b", func := "carousel/carousellaw10.ShardsTurned", spec := "shardsTurned", inPlace := ["internal/abi.NoEscape"], unfollowed := true, recurses := true, apart := false }
def ShardsTurnedSaid : Prop := shardsTurnedRow.holds Tryz.pinned (OpenSpec.ofChange shardsTurnedSpec)

/-- ITS FALSE NEIGHBOUR: 'it returns false'. Refute it at one input. -/
def shardsTurnedWrong : ChangeSpec := { name := "shardsTurned", fn := fun _ => fun
  | [d1, d2, d3] => { results := [.lit (.bool false)], args := [d1, d2, d3] }
  | _ => none }
def ShardsTurnedWrongFalsely : Prop := shardsTurnedRow.holds Tryz.pinned (OpenSpec.ofChange shardsTurnedWrong)

/-- 'carousellaw10.ShardsAll': WHATEVER THE INPUT: true; the input reads as it did. -/
def shardsAllSpec : ChangeSpec := { name := "shardsAll", fn := fun _ => fun
  | [d1, d2, d3] => { results := [.lit (.bool true)], args := [d1, d2, d3] }
  | _ => none }
def shardsAllRow : OpenClaim := { program := "ytbhngncnhabbkaagreat", sum := "69006316230570db2f101b0eabed0bc610e287c7f6be40c1841fc92de59f805b", func := "carousel/carousellaw10.ShardsAll", spec := "shardsAll", inPlace := ["internal/abi.NoEscape"], unfollowed := true, recurses := true, apart := false }
def ShardsAllSaid : Prop := shardsAllRow.holds Tryz.pinned (OpenSpec.ofChange shardsAllSpec)

/-- ITS FALSE NEIGHBOUR: 'it returns false'. Refute it at one input. -/
def shardsAllWrong : ChangeSpec := { name := "shardsAll", fn := fun _ => fun
  | [d1, d2, d3] => { results := [.lit (.bool false)], args := [d1, d2, d3] }
  | _ => none }
def ShardsAllWrongFalsely : Prop := shardsAllRow.holds Tryz.pinned (OpenSpec.ofChange shardsAllWrong)

/- THE SECOND FORM. 'bulk': how many values and letters a reading holds, each counted each time it is reached (what is shared counts as often as it is met; a slice's spare places count too). A statement '..UptoSaid' is the law's where the arguments, and the package variables that the reading takes, are together of bulk at most 1048576: NARROWER than '..Said'. Prove '..Said' where nothing that the law and all that it calls make is longer than what came in: it says more and counts as full. Else prove '..UptoSaid'. A law counts once. -/
mutual
def uptoBulk {H : Type} : DataW H → Nat
  | .lit (.string bytes) => bytes.length + 1
  | .lit _ => 1
  | .nil => 1
  | .ptr d => uptoBulk d + 1
  | .slice elems spare => uptoBulkAll elems + uptoBulkAll spare + 1
  | .agg parts => uptoBulkAll parts + 1
  | .iface _ d => uptoBulk d + 1
  | .map entries => uptoBulkEntries entries + 1
  | .held _ => 1
def uptoBulkAll {H : Type} : List (DataW H) → Nat
  | [] => 0
  | d :: r => uptoBulk d + uptoBulkAll r
def uptoBulkEntries {H : Type} : List (Lit × DataW H) → Nat
  | [] => 0
  | x :: r => uptoBulkEntry x + uptoBulkEntries r
def uptoBulkEntry {H : Type} : Lit × DataW H → Nat
  | (.string bytes, d) => bytes.length + uptoBulk d + 1
  | (_, d) => uptoBulk d + 1
 end
def uptoSmall : (H : Type) → List (DataW H) → Bool := fun _ ds => decide (uptoBulkAll ds ≤ 1048576)
def OpenSpec.upto (s : _root_.Go.ChangeSpec) : _root_.Go.OpenSpec := { _root_.Go.OpenSpec.ofChange s with cond := some uptoSmall }

/-- 'carousellaw10.ShardsTell', WHERE WHAT IT READS IS OF BULK AT MOST 1048576: true; the input reads as it did. -/
def shardsTellUptoRow : OpenClaim := { program := "ytbhngncnhabbkaagreat", sum := "69006316230570db2f101b0eabed0bc610e287c7f6be40c1841fc92de59f805b", func := "carousel/carousellaw10.ShardsTell", spec := "shardsTell", inPlace := ["internal/abi.NoEscape"], unfollowed := true, recurses := true, apart := false, narrowed := true }
def ShardsTellUptoSaid : Prop := shardsTellUptoRow.holds Tryz.pinned (OpenSpec.upto shardsTellSpec)

/-- 'carousellaw10.ShardsBack', WHERE WHAT IT READS IS OF BULK AT MOST 1048576: true; the input reads as it did. -/
def shardsBackUptoRow : OpenClaim := { program := "ytbhngncnhabbkaagreat", sum := "69006316230570db2f101b0eabed0bc610e287c7f6be40c1841fc92de59f805b", func := "carousel/carousellaw10.ShardsBack", spec := "shardsBack", inPlace := ["internal/abi.NoEscape"], unfollowed := true, recurses := true, apart := false, narrowed := true }
def ShardsBackUptoSaid : Prop := shardsBackUptoRow.holds Tryz.pinned (OpenSpec.upto shardsBackSpec)

/-- 'carousellaw10.ShardsTurned', WHERE WHAT IT READS IS OF BULK AT MOST 1048576: true; the input reads as it did. -/
def shardsTurnedUptoRow : OpenClaim := { program := "ytbhngncnhabbkaagreat", sum := "69006316230570db2f101b0eabed0bc610e287c7f6be40c1841fc92de59f805b", func := "carousel/carousellaw10.ShardsTurned", spec := "shardsTurned", inPlace := ["internal/abi.NoEscape"], unfollowed := true, recurses := true, apart := false, narrowed := true }
def ShardsTurnedUptoSaid : Prop := shardsTurnedUptoRow.holds Tryz.pinned (OpenSpec.upto shardsTurnedSpec)

/-- 'carousellaw10.ShardsAll', WHERE WHAT IT READS IS OF BULK AT MOST 1048576: true; the input reads as it did. -/
def shardsAllUptoRow : OpenClaim := { program := "ytbhngncnhabbkaagreat", sum := "69006316230570db2f101b0eabed0bc610e287c7f6be40c1841fc92de59f805b", func := "carousel/carousellaw10.ShardsAll", spec := "shardsAll", inPlace := ["internal/abi.NoEscape"], unfollowed := true, recurses := true, apart := false, narrowed := true }
def ShardsAllUptoSaid : Prop := shardsAllUptoRow.holds Tryz.pinned (OpenSpec.upto shardsAllSpec)

end Rows
end Go.Proofs.YtbhngncnhabbkaaGreat
