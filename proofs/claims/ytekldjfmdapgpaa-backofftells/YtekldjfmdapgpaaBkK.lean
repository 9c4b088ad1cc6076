/- backoff: alive; what the rows want. -/
import Derived.Test.YtekldjfmdapgpaaBkI
import Derived.Test.YtekldjfmdapgpaaBkF
namespace Go.Proofs.Ytekldjfmdapgpaa
open Go.RowKit
set_option linter.unusedVariables false
set_option maxRecDepth 20000

theorem Bf.alive : Bf.rowE ⟨2, 5, 0⟩ 4 = 0 ∧ Bf.rowR ⟨2, 5, 0⟩ 4 = [2, 4, 5, 5] := by decide
theorem four_seg (w : World) : Seg .i64 (w.alloc (.cells #[.int .i64 2, .int .i64 4, .int .i64 5, .int .i64 5] 3)) (.slice (some ⟨w.heap.size, 0, none⟩) 4 4) [2, 4, 5, 5] :=
  seg_bo (l := [2, 4, 5, 5]) (Bo.new w (i64s [2, 4, 5, 5]) 3) (by decide)
set_option maxHeartbeats 1000000 in
theorem alive_any (w : World) : Calls Try.prog 21 #[] w fun e w' => e = .returned (.bool true) ∧ Below w.heap.size w w' := by
  have c := brow_any ⟨2, 5, 0⟩ 4 w
  rw [Bf.alive.1, Bf.alive.2] at c
  obtain ⟨N, hN⟩ : ∃ N, N = w.heap.size := ⟨_, rfl⟩
  rw [← hN] at c ⊢
  go_enter Try.func21, Try.ntmps21
  go_wp2_with fail
  with_reducible refine c.mono ?_
  rintro e w1 ⟨v, rfl, h1, hs⟩
  obtain ⟨a, cap, rfl, g1, g2, g3, g4⟩ := id hs
  simp only [List.length_cons, List.length_nil, Nat.zero_add, Nat.reduceAdd] at g1 hs ⊢
  have c2 := sameInts_any _ _ [2, 4, 5, 5] [2, 4, 5, 5] (w1.alloc (.cells #[.int .i64 2, .int .i64 4, .int .i64 5, .int .i64 5] 3)) (hs.below ((Below.refl _ _).alloc (Nat.le_refl _) _)) (four_seg w1)
  have hb := hidD (h1.alloc (by have := h1.size; omega) (.cells #[.int .i64 2, .int .i64 4, .int .i64 5, .int .i64 5] 3))
  have hsz := h1.size
  clear c g1 g2 g3 g4 hs h1
  have hs2 : Hid (N ≤ (w1.alloc (.cells #[.int .i64 2, .int .i64 4, .int .i64 5, .int .i64 5] 3)).heap.size) := hidD (by rw [World.size_alloc]; omega)
  clear hsz hN
  go_wp2_with (first | (go_at_call 17; refine (num_any _ _).mono ?_; rintro e ww ⟨rfl, rfl⟩) | (go_at_call 18; with_reducible refine c2.mono ?_; rintro e w3 ⟨rfl, h3⟩))
  go_ret
  exact ⟨by first | rfl | simp, below_on hb.out hs2.out h3⟩
end Go.Proofs.Ytekldjfmdapgpaa
