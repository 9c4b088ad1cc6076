/- breaker: a circuit in its box: weigh. -/
import Derived.Test.YtkfkhhhoboenkaaBC
namespace Go.Proofs.Ytkfkhhhoboenkaa
open Go.RowKit
set_option maxRecDepth 20000
set_option linter.unusedVariables false

set_option maxHeartbeats 2000000 in
theorem weigh_any (B : Nat) (b : Br.St) (s : Br.Se) (r : List Value) (T : TypeId) (t : Int) (g : Bool) (w : World) (h : Bo w B (cL b s r) T) (ht : IntKind.i64.wrap (t + s.o) = t + s.o) (hf : IntKind.i64.wrap (b.w + 1) = b.w + 1) :
    Calls Try.prog 35 #[.pointer (some ⟨B, 0, none⟩), .int .i64 t, .bool g] w fun e w' => e = .returned (.tuple #[]) ∧ Bo w' B (cL (Br.weigh b s t g) s r) T ∧ Cg B w w' := by
  have ct := fun W (b' : Br.St) (hW : Bo W B (cL b' s r) T) => trip_any B b' s r T t W hW ht
  obtain ⟨M, F, U, P, W⟩ := b
  obtain ⟨SF, SO, SP⟩ := s
  have hBo := hidD h
  have p4 := h.cell 4 rfl
  have f4 := h.frozen 4
  unfold Br.weigh
  dsimp only at ht hf ⊢
  cases g
  · rw [if_neg (by decide)]
    have c := ct _ ⟨M, F, U, P, 0⟩ (h.set 4 (.int .i64 0))
    have hC1 := hidD (Cg.set w 4 (.int .i64 0) (b := B))
    clear h ct
    go_enter Try.func35, Try.ntmps35
    go_wp2_with fail
    with_reducible refine c.mono ?_
    rintro e w5 ⟨rfl, b5, c5⟩
    go_wp2_with fail
    refine bodyPost_ret (results_none rfl _ _ _) rfl ?_
    exact ⟨rfl, b5, hC1.out.trans c5⟩
  · rw [if_pos rfl]
    have h1 := h.set 4 (.int .i64 (W + 1))
    have q4 := h1.cell 4 rfl
    have q7 := h1.cell 7 rfl
    have hB1 := hidD h1
    have hC1 := hidD (Cg.set w 4 (.int .i64 (W + 1)) (b := B))
    clear h h1 ct
    by_cases hle : SP ≤ W + 1
    · rw [if_pos hle]
      go_enter Try.func35, Try.ntmps35
      go_wp2_with fail
      go_quiet (fail)
      have hB2 := hB1.out.drewN nq
      have hC2 := hC1.out.trans (Cg.drewN _ nq)
      generalize (w.setCell ⟨B, 4, none⟩ (.int .i64 (W + 1))).drewN nq = W1 at *
      have r0 := hB2.cell 0 rfl
      have r1 := hB2.cell 1 rfl
      have r4 := hB2.cell 4 rfl
      have g0 := hB2.frozen 0
      have g1 := hB2.frozen 1
      have g4 := hB2.frozen 4
      have hB3 := hidD (((hB2.set 0 (.int .i64 0)).set 1 (.int .i64 0)).set 4 (.int .i64 0))
      have hC3 := hidD (((hC2.trans (Cg.set W1 0 (.int .i64 0))).trans (Cg.set _ 1 (.int .i64 0))).trans (Cg.set _ 4 (.int .i64 0)))
      clear hB2 hC2 hB1 hC1
      go_wp2_with fail
      go_end0
      exact ⟨rfl, hB3.out, hC3.out⟩
    · rw [if_neg hle]
      go_enter Try.func35, Try.ntmps35
      go_wp2_with fail
      go_quiet (fail)
      go_wp2_with fail
      go_end0
      exact ⟨rfl, hB1.out.drewN nq, hC1.out.trans (Cg.drewN _ nq)⟩
end Go.Proofs.Ytkfkhhhoboenkaa
