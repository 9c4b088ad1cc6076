/- Octets that are handed in: what is read of them, and how many there are. -/
import Derived.Test.YtdbgncdnffbhkaaGreatDoorRows
import Derived.WalkKit
import Derived.ProofKit
import Derived.OpenShut
import Derived.ShutString
import Derived.ChangeOld
import Derived.Below
import Derived.SizedLaws
import Derived.JoinedCond
import Derived.Test.YtdbgncdnffbhkaaGreatDoorCutPut02
import Derived.Test.YtdbgncdnffbhkaaGreatDoorChecked
namespace Go.Proofs.YtdbgncdnffbhkaaGreatDoor
open Go.ChangeShapes Go.WideShapes Go.ChangeAt Go.RowKit

theorem own : ownKnob Tryz.prog.godebug = none := by kernel_rfl
theorem laidOut : laidOutB Tryz.prog = true := by kernel_rfl

end Go.Proofs.YtdbgncdnffbhkaaGreatDoor

