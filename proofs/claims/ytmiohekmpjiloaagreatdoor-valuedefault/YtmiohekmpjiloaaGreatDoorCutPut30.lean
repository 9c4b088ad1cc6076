/- Octets that are handed in: what is read of them, and how many there are. -/
import Derived.Test.YtmiohekmpjiloaaGreatDoorRows
import Derived.WalkKit
import Derived.ProofKit
import Derived.OpenShut
import Derived.ShutString
import Derived.ChangeOld
import Derived.Below
import Derived.SizedLaws
import Derived.JoinedCond
import Derived.Test.YtmiohekmpjiloaaGreatDoorCutPut02
import Derived.Test.YtmiohekmpjiloaaGreatDoorChecked
namespace Go.Proofs.YtmiohekmpjiloaaGreatDoor
open Go.ChangeShapes Go.WideShapes Go.ChangeAt Go.RowKit

theorem own : ownKnob Tryz.prog.godebug = none := by kernel_rfl
theorem laidOut : laidOutB Tryz.prog = true := by kernel_rfl

end Go.Proofs.YtmiohekmpjiloaaGreatDoor

