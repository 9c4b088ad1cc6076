/- outlier: more; a peer in its box: record, ripe, eject, wake. -/
import Derived.Test.YtfjcilkllgaimaaEC
import Derived.Deep.RegionHeld
import Derived.Deep.DeepCutAuto
namespace Go.Proofs.Ytfjcilkllgaimaa
open Go.RowKit
set_option maxRecDepth 20000
set_option linter.unusedVariables false

/-- A peer's cells. -/
abbrev pL (o : Ou.St) (s : Ou.Se) : List Value := [.int .i64 o.r, .int .i64 o.g, .int .i64 o.b, .int .i64 o.n, .int .i64 o.s, .int .i64 o.u, .bool o.o, .int .i64 s.w, .int .i64 s.m, .int .i64 s.l, .int .i64 s.b, .int .i64 s.x, .int .i64 s.p, .int .i64 s.c]

theorem more_any (n c : Int) (hn : IntKind.i64.wrap (n + 1) = n + 1) (w : World) : Calls Try.prog 35 #[.int .i64 n, .int .i64 c] w fun e w' => e = .returned (.int .i64 (Ou.up n c)) ∧ w = w' := by
  unfold Ou.up
  by_cases h : n + 1 ≤ c
  · rw [if_pos h]
    go_enter Try.func35, Try.ntmps35
    go_wp2
    go_ret
    exact ⟨by first | rfl | (congr 3; split <;> omega) | (congr 2; split <;> omega), rfl⟩
  · rw [if_neg h]
    go_enter Try.func35, Try.ntmps35
    go_wp2
    go_ret
    exact ⟨by first | rfl | (congr 3; split <;> omega) | (congr 2; split <;> omega), rfl⟩

set_option maxHeartbeats 2000000 in
theorem record_any (B : Nat) (o : Ou.St) (s : Ou.Se) (T : TypeId) (g : Bool) (w : World) (h : Bo w B (pL o s) T) (hr : IntKind.i64.wrap (o.r + 1) = o.r + 1) (hg : IntKind.i64.wrap (o.g + 1) = o.g + 1) (hb : IntKind.i64.wrap (o.b + 1) = o.b + 1) :
    Calls Try.prog 25 #[.pointer (some ⟨B, 0, none⟩), .bool g] w fun e w' => e = .returned (.tuple #[]) ∧ Bo w' B (pL (Ou.rec1 o g) s) T ∧ Cg B w w' := by
  obtain ⟨R, G, BD, NN, S, U, Q⟩ := o
  obtain ⟨SW, SM, SL, SB, SX, SP, SC⟩ := s
  dsimp only at hr hg hb
  have c1 := fun W => more_any R 1048576 hr W
  have c2 := fun W => more_any G 1048576 hg W
  have c3 := fun W => more_any BD 1048576 hb W
  unfold Ou.rec1
  dsimp only
  generalize Ou.up R 1048576 = r1 at *
  generalize Ou.up G 1048576 = g1 at *
  generalize Ou.up BD 1048576 = b1 at *
  have hBo := hidD h
  have p0 := h.cell 0 rfl
  have p1 := h.cell 1 rfl
  have p2 := h.cell 2 rfl
  have f0 := h.frozen 0
  have f1 := h.frozen 1
  have f2 := h.frozen 2
  clear h
  cases g
  · rw [if_neg (by decide)]
    clear c2
    go_enter Try.func25, Try.ntmps25
    go_upto_region 2 with fail
    go_region_with (go_at_call 35; (first | with_reducible refine (c1 _).mono ?_ | with_reducible refine (c3 _).mono ?_); rintro e w5 ⟨rfl, rfl⟩)
    all_goals
      go_wp2_with fail
      go_end0
      exact ⟨rfl, (hBo.out.drew.set 0 _).set 2 _, ((Cg.drewN w 1).trans (Cg.set w.drew 0 _)).trans (Cg.set _ 2 _)⟩
  · rw [if_pos rfl]
    clear c1 c3
    go_enter Try.func25, Try.ntmps25
    go_wp2_with (go_at_call 35; with_reducible refine (c2 _).mono ?_; rintro e w5 ⟨rfl, rfl⟩)
    refine bodyPost_ret (results_none rfl _ _ _) rfl ?_
    exact ⟨rfl, (hBo.out.set 0 _).set 1 _, (Cg.set w 0 _).trans (Cg.set _ 1 _)⟩

set_option maxHeartbeats 2000000 in
theorem wakeO_any (B : Nat) (o : Ou.St) (s : Ou.Se) (T : TypeId) (t : Int) (w : World) (h : Bo w B (pL o s) T) :
    Calls Try.prog 28 #[.pointer (some ⟨B, 0, none⟩), .int .i64 t] w fun e w' => e = .returned (.tuple #[]) ∧ Bo w' B (pL (Ou.wake o t) s) T ∧ Cg B w w' := by
  obtain ⟨R, G, BD, NN, S, U, Q⟩ := o
  obtain ⟨SW, SM, SL, SB, SX, SP, SC⟩ := s
  have hBo := hidD h
  have p5 := h.cell 5 rfl
  have p6 := h.cell 6 rfl
  have f6 := h.frozen 6
  clear h
  unfold Ou.wake
  dsimp only
  by_cases hu : U ≤ t
  · rw [if_pos hu]
    go_enter Try.func28, Try.ntmps28
    go_wp2_with fail
    go_end0
    exact ⟨rfl, hBo.out.set 6 _, Cg.set w 6 _⟩
  · rw [if_neg hu]
    go_enter Try.func28, Try.ntmps28
    go_wp2_with fail
    go_end0
    exact ⟨rfl, hBo.out, Cg.refl _ _⟩
end Go.Proofs.Ytfjcilkllgaimaa
