/- timers: the contracts paid. -/
import Derived.Test.YtkamcjebihfdlaaTmM
import Derived.Test.YtkamcjebihfdlaaTmS
import Derived.Test.YtkamcjebihfdlaaTmV
import Derived.Test.YtkamcjebihfdlaaTmX
import Derived.Test.YtkamcjebihfdlaaTmI
namespace Go.Proofs.Ytkamcjebihfdlaa
open Go.RowKit
set_option maxRecDepth 20000

theorem wf_range {n : Int} (h : -9223372036854775808 ≤ n ∧ n ≤ 9223372036854775807) : (Lit.int .i64 n).wf = true := by
  have e1 : IntKind.i64.min = -9223372036854775808 := rfl
  have e2 : IntKind.i64.max = 9223372036854775807 := rfl
  simp only [Lit.wf, Bool.and_eq_true, decide_eq_true_iff, e1, e2]
  exact h
theorem cchk : CChk := check_any
theorem cadd : CAdd := add_any
theorem cdue : CDue := due_any
theorem ccan : CCan := cancel_any
theorem cfir : CFir := first_any
theorem calive : CAlive := alive_of cadd cfir
end Go.Proofs.Ytkamcjebihfdlaa
