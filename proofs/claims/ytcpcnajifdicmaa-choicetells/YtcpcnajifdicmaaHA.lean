/- Contracts of fold, Mix, Unmix, alive, num and Share. -/
import Derived.Test.YtcpcnajifdicmaaHP
import Derived.Test.YtcpcnajifdicmaaBase
import Derived.Laws.BitsAllLaws
namespace Go.Proofs.Ytcpcnajifdicmaa
open Go.RowKit
set_option maxRecDepth 20000

theorem u64x (a b : Nat) (ha : a < 18446744073709551616) (hb : b < 18446744073709551616) : bits .xor .u64 (a : Int) (b : Int) = ((a ^^^ b : Nat) : Int) := u64_xor_nat a b ha hb
theorem u64fold {x : Nat} (h : x < 18446744073709551616) : bits .xor .u64 (x : Int) ((x : Int) / 8589934592) = (Hp.fold x : Nat) := by
  rw [show (x : Int) / 8589934592 = ((x / 8589934592 : Nat) : Int) by omega, u64x _ _ h (by omega)]
  rfl

set_option maxHeartbeats 400000 in
theorem fold_any (x : Nat) (w : World) (hx : x < 18446744073709551616) :
    Calls Try.prog 70 #[.int .u64 x] w fun e w' => e = .returned (.int .u64 (Hp.fold x : Nat)) ∧ w = w' := by
  have hf := u64fold hx
  go_enter Try.func70, Try.ntmps70
  go_wp2
  go_ret
  exact ⟨rfl, rfl⟩

theorem wrapU (n : Int) : IntKind.u64.wrap n = n % 18446744073709551616 := by simp [IntKind.wrap, IntKind.bits, IntKind.signed]
theorem mulA (x : Nat) : IntKind.u64.wrap ((x : Int) * 18397679294719823053) = (Hp.mA x : Nat) := by
  rw [wrapU, Hp.mA]; omega
theorem mulB (x : Nat) : IntKind.u64.wrap ((x : Int) * 14181476777654086739) = (Hp.mB x : Nat) := by
  rw [wrapU, Hp.mB]; omega
theorem divA (x : Nat) : IntKind.u64.wrap ((x : Int) * 5725274745694666757) = (Hp.nA x : Nat) := by
  rw [wrapU, Hp.nA]; omega
theorem divB (x : Nat) : IntKind.u64.wrap ((x : Int) * 11291846944257947611) = (Hp.nB x : Nat) := by
  rw [wrapU, Hp.nB]; omega

set_option maxHeartbeats 400000 in
theorem mix_any (x : Nat) (w : World) (hx : x < 18446744073709551616) :
    Calls Try.prog 66 #[.int .u64 x] w fun e w' => e = .returned (.int .u64 (Hp.mix x : Nat)) ∧ w = w' := by
  have h1 := mulA (Hp.fold x)
  have h2 := mulB (Hp.fold (Hp.mA (Hp.fold x)))
  have c1 := fold_any x w hx
  have c2 := fold_any _ w (Hp.mA_lt (Hp.fold x))
  have c3 := fold_any _ w (Hp.mB_lt (Hp.fold (Hp.mA (Hp.fold x))))
  unfold Hp.mix
  generalize Hp.fold x = a1 at *
  generalize Hp.mA a1 = a2 at *
  generalize Hp.fold a2 = a3 at *
  generalize Hp.mB a3 = a4 at *
  generalize Hp.fold a4 = a5 at *
  go_enter Try.func66, Try.ntmps66
  go_wp2_with (go_at_call 70; (first | (with_reducible refine c1.mono ?_) | (with_reducible refine c2.mono ?_) | (with_reducible refine c3.mono ?_)); rintro e w1 ⟨rfl, rfl⟩)
  go_ret
  exact ⟨rfl, rfl⟩
theorem mix0 : Hp.mix 0 = 0 := by decide +kernel
theorem mix1 : Hp.mix 1 ≠ 1 := by decide +kernel
end Go.Proofs.Ytcpcnajifdicmaa
