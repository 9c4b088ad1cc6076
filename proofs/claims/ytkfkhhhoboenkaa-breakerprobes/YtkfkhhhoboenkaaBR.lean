/- breaker: alive. -/
import Derived.Test.YtkfkhhhoboenkaaBI
import Derived.Test.YtkfkhhhoboenkaaBM
import Derived.Test.YtkfkhhhoboenkaaBN
import Derived.Laws.StructEq
namespace Go.Proofs.Ytkfkhhhoboenkaa
open Go.RowKit
set_option maxRecDepth 20000
set_option linter.unusedVariables false

theorem br_alive : Br.endR Br.zero ⟨1, 5, 1⟩ 3 false false = ⟨1, 0, 8, 0, 0⟩ ∧ Br.chk Br.zero ⟨1, 5, 1⟩ 3 = 0 ∧ Br.allowsR ⟨1, 0, 8, 0, 0⟩ ⟨1, 5, 1⟩ 4 = false ∧ Br.chk ⟨1, 0, 8, 0, 0⟩ ⟨1, 5, 1⟩ 4 = 0 := ⟨by rfl, by decide, by decide, by decide⟩

set_option maxHeartbeats 400000 in
theorem balive_any (w : World) : Calls Try.prog 20 #[] w fun e w' => e = .returned (.bool true) ∧ Below w.heap.size w w' := by
  have c1 := fun W => bend_any Br.zero ⟨1, 5, 1⟩ 3 false false W
  have c2 := fun W => ballows_any ⟨1, 0, 8, 0, 0⟩ ⟨1, 5, 1⟩ 4 W
  rw [br_alive.1, br_alive.2.1] at c1
  rw [br_alive.2.2.1, br_alive.2.2.2] at c2
  unfold Br.zero at c1
  go_enter Try.func20, Try.ntmps20
  go_wp2_with fail
  with_reducible refine (c1 _).mono ?_
  rintro e w1 ⟨rfl, h1⟩
  clear c1
  have hb2 := hidD (below_on h1 h1.size ((Below.refl _ w1).alloc (Nat.le_refl _) (.cells #[.int .i64 1, .int .i64 0, .int .i64 8, .int .i64 0, .int .i64 0] 23)))
  have X := hidD (Bo.new w1 [.int .i64 1, .int .i64 0, .int .i64 8, .int .i64 0, .int .i64 0] 23)
  have hs := h1.size
  go_wp2_with fail
  with_reducible refine (c2 _).mono ?_
  rintro e w5 ⟨rfl, h2⟩
  have X2 := X.out.below h2
  have x0 := X2.cell 0 rfl
  have x1 := X2.cell 1 rfl
  have x2 := X2.cell 2 rfl
  have x3 := X2.cell 3 rfl
  have x4 := X2.cell 4 rfl
  have hb5 := hidD (below_on hb2.out (by simp; omega) h2)
  clear c2 X2 h2
  go_wp2_with (go_at_call 17; refine (num_any _ _).mono ?_; rintro e w4 ⟨rfl, rfl⟩)
  go_ret
  exact ⟨rfl, hb5.out⟩
end Go.Proofs.Ytkfkhhhoboenkaa
