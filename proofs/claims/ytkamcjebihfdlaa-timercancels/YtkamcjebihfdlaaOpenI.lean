/- How great an int is. -/
import Derived.Test.YtkamcjebihfdlaaOpenN
namespace Go.Proofs.Ytkamcjebihfdlaa
theorem Try.bytesI : Try.prog.bytesOf 3 = 8 := by kernel_rfl
end Go.Proofs.Ytkamcjebihfdlaa
