/- Contracts of step, stepBack and More. -/
import Derived.Test.YtjeegcfdhoiplaaBase
import Derived.Laws.BitsAllLaws
namespace Go.Proofs.Ytjeegcfdhoiplaa
open Go.RowKit

theorem u32x (a b : Nat) (ha : a < 4294967296) (hb : b < 4294967296) : bits .xor .u32 (a : Int) (b : Int) = ((a ^^^ b : Nat) : Int) := u32_xor_nat a b ha hb
theorem u32not (b : Nat) (hb : b < 4294967296) : bits .xor .u32 IntKind.u32.max (b : Int) = ((4294967295 ^^^ b : Nat) : Int) := u32_xor_nat 4294967295 b (by decide) hb

end Go.Proofs.Ytjeegcfdhoiplaa
