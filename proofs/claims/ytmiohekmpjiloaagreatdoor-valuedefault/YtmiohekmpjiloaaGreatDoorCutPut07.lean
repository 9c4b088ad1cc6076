/- strings.Clone. -/
import Derived.Test.YtmiohekmpjiloaaGreatDoorCutPut06
import Derived.Lib.Strings
import Derived.Lib.Walk
import Derived.Lib.BufferWrite
import Derived.Lib.UnsafeStr
import Derived.Laws.MakeOwn
namespace Go.Proofs.YtmiohekmpjiloaaGreatDoor
open Go.RowKit
set_option maxRecDepth 20000

end Go.Proofs.YtmiohekmpjiloaaGreatDoor

