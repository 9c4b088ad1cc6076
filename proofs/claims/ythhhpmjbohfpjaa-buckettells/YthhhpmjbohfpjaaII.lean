/- bucket: alive. -/
import Derived.Test.YthhhpmjbohfpjaaIG
namespace Go.Proofs.Ythhhpmjbohfpjaa
open Go.RowKit
set_option linter.unusedVariables false
set_option maxRecDepth 20000

theorem bu_alive : Bu.runN ⟨0, 0, 1, 2⟩ [3, 3] = 1 ∧ Bu.runE ⟨0, 0, 1, 2⟩ [3, 3] = 0 := ⟨by decide, by decide⟩
set_option maxHeartbeats 400000 in
theorem ualive_any (w : World) : Calls Try.prog 20 #[] w fun e w' => e = .returned (.bool true) ∧ Below w.heap.size w w' := by
  have c := orun_any ⟨0, 0, 1, 2⟩ (.slice (some ⟨w.heap.size, 0, none⟩) 2 2) [3, 3] (w.alloc (.cells #[.int .i64 3, .int .i64 3] 3)) (seg_bo (l := [3, 3]) (Bo.new w [.int .i64 3, .int .i64 3] 3) (by simp))
  rw [bu_alive.1, bu_alive.2] at c
  generalize Bu.runV ⟨0, 0, 1, 2⟩ [3, 3] = z at *
  have hb := hidD ((Below.refl w.heap.size w).alloc (Nat.le_refl _) (.cells #[.int .i64 3, .int .i64 3] 3))
  have hs : Hid (w.heap.size ≤ (w.alloc (.cells #[.int .i64 3, .int .i64 3] 3)).heap.size) := hidD (by rw [World.size_alloc]; omega)
  go_enter Try.func20, Try.ntmps20
  go_wp2_with fail
  with_reducible refine c.mono ?_
  rintro e w1 ⟨rfl, h1⟩
  have hb2 := hidD (below_on hb.out hs.out h1)
  clear c h1 hb hs
  go_wp2_with (go_at_call 17; refine (num_any _ _).mono ?_; rintro e w4 ⟨rfl, rfl⟩)
  go_ret
  exact ⟨rfl, hb2.out⟩
end Go.Proofs.Ythhhpmjbohfpjaa
