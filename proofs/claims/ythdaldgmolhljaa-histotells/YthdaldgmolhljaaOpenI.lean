/- How great an int is. -/
import Derived.Test.YthdaldgmolhljaaOpenN
namespace Go.Proofs.Ythdaldgmolhljaa
theorem Try.bytesI : Try.prog.bytesOf 3 = 8 := by kernel_rfl
end Go.Proofs.Ythdaldgmolhljaa
