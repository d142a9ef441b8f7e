/- Two closed facts of the program that every row's step asks for. -/
import Derived.Test.YtmekaofjcjmklaaALay
import Derived.Test.YtmekaofjcjmklaaRows
import Derived.WalkKit
import Derived.ProofKit
import Derived.OpenShut
import Derived.ShutString
import Derived.ChangeOld
import Derived.Below
namespace Go.Proofs.Ytmekaofjcjmklaa

theorem Try.own : ownKnob Try.prog.godebug = none := by kernel_rfl
theorem Try.laidOut : laidOutB Try.prog = true := by kernel_rfl

end Go.Proofs.Ytmekaofjcjmklaa
