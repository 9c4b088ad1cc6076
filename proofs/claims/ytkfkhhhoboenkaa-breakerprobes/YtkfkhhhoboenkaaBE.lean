/- breaker: a circuit in its box: wake, allows, begin. -/
import Derived.Test.YtkfkhhhoboenkaaBC
namespace Go.Proofs.Ytkfkhhhoboenkaa
open Go.RowKit
set_option maxRecDepth 20000
set_option linter.unusedVariables false

set_option maxHeartbeats 2000000 in
theorem wake_any (B : Nat) (b : Br.St) (s : Br.Se) (r : List Value) (T : TypeId) (t : Int) (w : World) (h : Bo w B (cL b s r) T) :
    Calls Try.prog 24 #[.pointer (some ⟨B, 0, none⟩), .int .i64 t] w fun e w' => e = .returned (.tuple #[]) ∧ Bo w' B (cL (Br.tick b t) s r) T ∧ Cg B w w' := by
  obtain ⟨M, F, U, P, W⟩ := b
  obtain ⟨SF, SO, SP⟩ := s
  have hBo := hidD h
  have p0 := h.cell 0 rfl
  have p2 := h.cell 2 rfl
  have p4 := h.cell 4 rfl
  have f0 := h.frozen 0
  have f4 := h.frozen 4
  clear h
  unfold Br.tick
  dsimp only
  by_cases hm : M = 1
  · subst hm
    by_cases hu : U ≤ t
    · rw [if_pos ⟨rfl, hu⟩]
      go_enter Try.func24, Try.ntmps24
      go_wp2_with fail
      go_end0
      exact ⟨rfl, (hBo.out.set 0 _).set 4 _, (Cg.set w 0 _).trans (Cg.set _ 4 _)⟩
    · rw [if_neg (fun e => hu e.2)]
      go_enter Try.func24, Try.ntmps24
      go_wp2_with fail
      go_end0
      exact ⟨rfl, hBo.out, Cg.refl _ _⟩
  · rw [if_neg (fun e => hm e.1)]
    have hb : (M == 1) = false := by simp [hm]
    go_enter Try.func24, Try.ntmps24
    go_wp2_with fail
    go_end0
    exact ⟨rfl, hBo.out, Cg.refl _ _⟩

set_option maxHeartbeats 2000000 in
theorem allows_any (B : Nat) (b : Br.St) (s : Br.Se) (r : List Value) (T : TypeId) (w : World) (h : Bo w B (cL b s r) T) :
    Calls Try.prog 25 #[.pointer (some ⟨B, 0, none⟩)] w fun e w' => e = .returned (.bool (Br.allows b s)) ∧ ∃ m, w' = w.drewN m := by
  obtain ⟨M, F, U, P, W⟩ := b
  obtain ⟨SF, SO, SP⟩ := s
  have p0 := h.cell 0 rfl
  have p3 := h.cell 3 rfl
  have p7 := h.cell 7 rfl
  clear h
  unfold Br.allows
  dsimp only
  by_cases hm : M = 0
  · subst hm
    go_enter Try.func25, Try.ntmps25
    go_wp2_with fail
    go_quiet (fail)
    go_wp2
    go_ret
    exact ⟨rfl, nq, rfl⟩
  · have hb : (M == 0) = false := by simp [hm]
    have hb' : decide (M = 0) = false := by simp [hm]
    by_cases h2 : M = 2
    · subst h2
      go_enter Try.func25, Try.ntmps25
      go_wp2_with fail
      go_quiet (fail)
      go_wp2
      go_ret
      exact ⟨rfl, nq, rfl⟩
    · have hb2 : (M == 2) = false := by simp [h2]
      have hb3 : decide (M = 2) = false := by simp [h2]
      go_enter Try.func25, Try.ntmps25
      go_wp2_with fail
      go_quiet (fail)
      go_wp2
      go_ret
      exact ⟨by rw [hb', hb3]; rfl, nq, rfl⟩

set_option maxHeartbeats 2000000 in
theorem begin_any (B : Nat) (b : Br.St) (s : Br.Se) (r : List Value) (T : TypeId) (w : World) (h : Bo w B (cL b s r) T) (hp : IntKind.i64.wrap (b.p + 1) = b.p + 1) :
    Calls Try.prog 26 #[.pointer (some ⟨B, 0, none⟩)] w fun e w' => e = .returned (.bool (decide (b.m = 2))) ∧ Bo w' B (cL (Br.beg b) s r) T ∧ Cg B w w' := by
  obtain ⟨M, F, U, P, W⟩ := b
  obtain ⟨SF, SO, SP⟩ := s
  have hBo := hidD h
  have p0 := h.cell 0 rfl
  have p3 := h.cell 3 rfl
  have f3 := h.frozen 3
  clear h
  unfold Br.beg
  dsimp only at hp ⊢
  by_cases h2 : M = 2
  · subst h2
    rw [if_pos rfl]
    go_enter Try.func26, Try.ntmps26
    go_wp2_with fail
    go_ret
    exact ⟨rfl, hBo.out.set 3 _, Cg.set _ 3 _⟩
  · rw [if_neg h2]
    have hb2 : (M == 2) = false := by simp [h2]
    go_enter Try.func26, Try.ntmps26
    go_wp2_with fail
    go_ret
    exact ⟨rfl, hBo.out, Cg.refl _ _⟩
end Go.Proofs.Ytkfkhhhoboenkaa
