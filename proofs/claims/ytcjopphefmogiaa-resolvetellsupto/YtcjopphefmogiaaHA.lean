/- Contracts of fold, Mix, Unmix, alive, num and Share. -/
import Derived.Test.YtcjopphefmogiaaHP
import Derived.Test.YtcjopphefmogiaaBase
import Derived.Laws.BitsAllLaws
namespace Go.Proofs.Ytcjopphefmogiaa
open Go.RowKit
set_option maxRecDepth 20000

theorem u64x (a b : Nat) (ha : a < 18446744073709551616) (hb : b < 18446744073709551616) : bits .xor .u64 (a : Int) (b : Int) = ((a ^^^ b : Nat) : Int) := u64_xor_nat a b ha hb
theorem u64fold {x : Nat} (h : x < 18446744073709551616) : bits .xor .u64 (x : Int) ((x : Int) / 8589934592) = (Hp.fold x : Nat) := by
  rw [show (x : Int) / 8589934592 = ((x / 8589934592 : Nat) : Int) by omega, u64x _ _ h (by omega)]
  rfl

theorem wrapU (n : Int) : IntKind.u64.wrap n = n % 18446744073709551616 := by simp [IntKind.wrap, IntKind.bits, IntKind.signed]
theorem mulA (x : Nat) : IntKind.u64.wrap ((x : Int) * 18397679294719823053) = (Hp.mA x : Nat) := by
  rw [wrapU, Hp.mA]; omega
theorem mulB (x : Nat) : IntKind.u64.wrap ((x : Int) * 14181476777654086739) = (Hp.mB x : Nat) := by
  rw [wrapU, Hp.mB]; omega
theorem divA (x : Nat) : IntKind.u64.wrap ((x : Int) * 5725274745694666757) = (Hp.nA x : Nat) := by
  rw [wrapU, Hp.nA]; omega
theorem divB (x : Nat) : IntKind.u64.wrap ((x : Int) * 11291846944257947611) = (Hp.nB x : Nat) := by
  rw [wrapU, Hp.nB]; omega

theorem mix0 : Hp.mix 0 = 0 := by decide +kernel
theorem mix1 : Hp.mix 1 ≠ 1 := by decide +kernel
end Go.Proofs.Ytcjopphefmogiaa
