/- breaker: a circuit in its box: trip, count, weigh. -/
import Derived.Test.YtkfkhhhoboenkaaBB
import Derived.BigQuiet
import Derived.Deep.QuietTactic
namespace Go.Proofs.Ytkfkhhhoboenkaa
open Go.RowKit
set_option maxRecDepth 20000
set_option linter.unusedVariables false

/-- A circuit's cells, and what lies behind them. -/
abbrev cL (b : Br.St) (s : Br.Se) (r : List Value) : List Value := .int .i64 b.m :: .int .i64 b.f :: .int .i64 b.u :: .int .i64 b.p :: .int .i64 b.w :: .int .i64 s.f :: .int .i64 s.o :: .int .i64 s.p :: r

theorem wrap_ok {x : Int} (h1 : -9000000000000000000 ≤ x) (h2 : x ≤ 9000000000000000000) : IntKind.i64.wrap x = x := by
  rw [IntKind.wrap_i64]; omega

set_option maxHeartbeats 2000000 in
theorem trip_any (B : Nat) (b : Br.St) (s : Br.Se) (r : List Value) (T : TypeId) (t : Int) (w : World) (h : Bo w B (cL b s r) T) (ht : IntKind.i64.wrap (t + s.o) = t + s.o) :
    Calls Try.prog 39 #[.pointer (some ⟨B, 0, none⟩), .int .i64 t] w fun e w' => e = .returned (.tuple #[]) ∧ Bo w' B (cL (Br.trip b s t) s r) T ∧ Cg B w w' := by
  obtain ⟨M, F, U, P, W⟩ := b
  obtain ⟨SF, SO, SP⟩ := s
  have hBo := hidD h
  have p0 := h.cell 0 rfl
  have p2 := h.cell 2 rfl
  have p6 := h.cell 6 rfl
  have f0 := h.frozen 0
  have f2 := h.frozen 2
  clear h
  dsimp only at ht
  go_enter Try.func39, Try.ntmps39
  go_wp2_with fail
  go_end0
  exact ⟨rfl, (hBo.out.set 0 _).set 2 _, (Cg.set w 0 _).trans (Cg.set _ 2 _)⟩


theorem Bo.drewB {w : World} {b : Nat} {cs : List Value} {T : TypeId} (h : Bo w b cs T) (m : Nat) : Bo (w.drewN m) b cs T := h

set_option maxHeartbeats 2000000 in
theorem count_any (B : Nat) (b : Br.St) (s : Br.Se) (r : List Value) (T : TypeId) (t : Int) (g : Bool) (w : World) (h : Bo w B (cL b s r) T) (ht : IntKind.i64.wrap (t + s.o) = t + s.o) (hf : IntKind.i64.wrap (b.f + 1) = b.f + 1) :
    Calls Try.prog 34 #[.pointer (some ⟨B, 0, none⟩), .int .i64 t, .bool g] w fun e w' => e = .returned (.tuple #[]) ∧ Bo w' B (cL (Br.count b s t g) s r) T ∧ Cg B w w' := by
  have ct := fun W (b' : Br.St) (hW : Bo W B (cL b' s r) T) => trip_any B b' s r T t W hW ht
  obtain ⟨M, F, U, P, W⟩ := b
  obtain ⟨SF, SO, SP⟩ := s
  have hBo := hidD h
  have p1 := h.cell 1 rfl
  have f1 := h.frozen 1
  unfold Br.count
  dsimp only at ht hf ⊢
  cases g
  · rw [if_neg (by decide)]
    have h1 := h.set 1 (.int .i64 (F + 1))
    have q1 := h1.cell 1 rfl
    have q5 := h1.cell 5 rfl
    have hB1 := hidD h1
    have hC1 := hidD (Cg.set w 1 (.int .i64 (F + 1)) (b := B))
    clear h h1
    by_cases hle : SF ≤ F + 1
    · rw [if_pos hle]
      go_enter Try.func34, Try.ntmps34
      go_wp2_with fail
      go_quiet (fail)
      have hB2 := hB1.out.drewN nq
      have hC2 := hC1.out.trans (Cg.drewN _ nq)
      generalize (w.setCell ⟨B, 1, none⟩ (.int .i64 (F + 1))).drewN nq = W1 at *
      have r1 := hB2.cell 1 rfl
      have g1 := hB2.frozen 1
      have c := ct _ ⟨M, 0, U, P, W⟩ (hB2.set 1 (.int .i64 0))
      have hC3 := hidD (hC2.trans (Cg.set W1 1 (.int .i64 0)))
      clear hB2 hC2 hB1 hC1 ct
      go_wp2_with fail
      with_reducible refine c.mono ?_
      rintro e w5 ⟨rfl, b5, c5⟩
      go_wp2_with fail
      go_end0
      exact ⟨rfl, b5, hC3.out.trans c5⟩
    · rw [if_neg hle]
      go_enter Try.func34, Try.ntmps34
      go_wp2_with fail
      go_quiet (fail)
      go_wp2_with fail
      go_end0
      exact ⟨rfl, hB1.out.drewN nq, hC1.out.trans (Cg.drewN _ nq)⟩
  · rw [if_pos rfl]
    clear h
    go_enter Try.func34, Try.ntmps34
    go_wp2_with fail
    refine bodyPost_ret (results_none rfl _ _ _) rfl ?_
    exact ⟨rfl, hBo.out.set 1 _, Cg.set w 1 _⟩
end Go.Proofs.Ytkfkhhhoboenkaa
