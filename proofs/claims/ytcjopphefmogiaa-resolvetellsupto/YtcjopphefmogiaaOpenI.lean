/- How great an int is. -/
import Derived.Test.YtcjopphefmogiaaOpenN
namespace Go.Proofs.Ytcjopphefmogiaa
theorem Try.bytesI : Try.prog.bytesOf 3 = 8 := by kernel_rfl
end Go.Proofs.Ytcjopphefmogiaa
