/- How great an int is. -/
import Derived.Test.YtdgdhhbapgfjgaaOpenN
namespace Go.Proofs.Ytdgdhhbapgfjgaa
theorem Try.bytesI : Try.prog.bytesOf 3 = 8 := by kernel_rfl
end Go.Proofs.Ytdgdhhbapgfjgaa
