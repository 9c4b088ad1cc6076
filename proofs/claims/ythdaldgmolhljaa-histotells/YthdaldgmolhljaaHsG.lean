/- histo: alive. -/
import Derived.Test.YthdaldgmolhljaaHsF
namespace Go.Proofs.Ythdaldgmolhljaa
open Go.RowKit
set_option linter.unusedVariables false
set_option maxRecDepth 20000

set_option maxHeartbeats 2000000 in
theorem alive_any (w : World) : Calls Try.prog 24 #[] w fun e w' => e = .returned (.bool true) ∧ w = w' := by
  have c1 := bucket_any 16 w
  have c2 := bucket_any 20 w
  have c3 := top_any 17 w
  rw [show Hi.bkR 16 = 16 by decide, show Hi.bkE 16 = 0 by decide] at c1
  rw [show Hi.bkR 20 = 17 by decide, show Hi.bkE 20 = 0 by decide] at c2
  rw [show Hi.tpR 17 = 23 by decide, show Hi.tpE 17 = 0 by decide] at c3
  go_enter Try.func24, Try.ntmps24
  go_wp2_with fail
  with_reducible refine c1.mono ?_
  rintro e w2 ⟨rfl, rfl⟩
  go_wp2_with fail
  with_reducible refine c2.mono ?_
  rintro e w2 ⟨rfl, rfl⟩
  go_wp2_with fail
  with_reducible refine c3.mono ?_
  rintro e w2 ⟨rfl, rfl⟩
  go_wp2_with (go_at_call 20; refine (num_any _ _).mono ?_; rintro e ww ⟨rfl, rfl⟩)
  go_ret
  exact ⟨by first | rfl | simp, rfl⟩
end Go.Proofs.Ythdaldgmolhljaa
