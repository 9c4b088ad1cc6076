/- bucket: what comes in, and what is taken, behind a pointer. -/
import Derived.Test.YthhhpmjbohfpjaaIA
import Derived.Deep.RegionHeld
import Derived.Deep.DeepCutAuto
namespace Go.Proofs.Ythhhpmjbohfpjaa
open Go.RowKit
set_option linter.unusedVariables false
set_option maxRecDepth 20000

/-- A budget's cells, and what lies behind. -/
abbrev bL (s : Bu.Se) (v : Int) (m : List Value) : List Value := .int .i64 s.c :: .int .i64 s.t :: .int .i64 s.r :: .int .i64 s.p :: .int .i64 v :: m

theorem cell_off {w : World} {b i j : Nat} {v : Value} (h : i ≠ j) : (w.setCell ⟨b, i, none⟩ v).cell? ⟨b, j, none⟩ = w.cell? ⟨b, j, none⟩ :=
  World.cell?_setCell_other w _ _ v (fun e => h (by cases e; rfl))

set_option maxHeartbeats 1000000 in
theorem bring_any (B : Nat) (s : Bu.Se) (v : Int) (m : List Value) (T : TypeId) (x : Int) (w : World) (h : Bo w B (bL s v m) T) (h1 : IntKind.i64.wrap (v + x) = v + x) (h2 : IntKind.i64.wrap (1000 * s.p) = 1000 * s.p) :
    Calls Try.prog 34 #[.pointer (some ⟨B, 0, none⟩), .int .i64 x] w fun e w' => e = .returned (.tuple #[]) ∧ Bo w' B (bL s (Bu.up s (v + x)) m) T ∧ Cg B w w' := by
  obtain ⟨C, K, R, P⟩ := s
  dsimp only at h2
  have hX := hidD h
  have q3 := h.cell 3 rfl
  have q4 := h.cell 4 rfl
  have f4 := h.frozen 4
  clear h
  unfold Bu.up
  dsimp only
  by_cases hle : v + x ≤ 1000 * P
  · rw [if_pos hle]
    have hle2 : ¬ 1000 * P < v + x := by omega
    go_enter Try.func34, Try.ntmps34
    go_region_with (fail)
    all_goals
      go_wp2_with fail
      go_end0
      exact ⟨rfl, hX.out.drew.set 4 _, (Cg.drewN w 1).trans (Cg.set w.drew 4 _)⟩
  · rw [if_neg hle]
    have hle2 : 1000 * P < v + x := by omega
    go_enter Try.func34, Try.ntmps34
    go_region_with (fail)
    all_goals
      go_wp2_with fail
      go_end0
      exact ⟨rfl, hX.out.drew.set 4 _, (Cg.drewN w 1).trans (Cg.set w.drew 4 _)⟩

set_option maxHeartbeats 1000000 in
theorem callsP_any (B : Nat) (s : Bu.Se) (v : Int) (m : List Value) (T : TypeId) (n : Int) (w : World) (h : Bo w B (bL s v m) T) (h0 : IntKind.i64.wrap (n * s.c) = n * s.c) (h1 : IntKind.i64.wrap (v + n * s.c) = v + n * s.c) (h2 : IntKind.i64.wrap (1000 * s.p) = 1000 * s.p) :
    Calls Try.prog 27 #[.pointer (some ⟨B, 0, none⟩), .int .i64 n] w fun e w' => e = .returned (.tuple #[]) ∧ Bo w' B (bL s (Bu.up s (v + n * s.c)) m) T ∧ Cg B w w' := by
  have c := bring_any B s v m T (n * s.c) w h h1 h2
  generalize Bu.up s (v + n * s.c) = z at *
  have q := h.cell 0 rfl
  clear h h1 h2
  obtain ⟨C, K, R, P⟩ := s
  dsimp only at *
  go_enter Try.func27, Try.ntmps27
  go_wp2_with fail
  with_reducible refine c.mono ?_
  rintro e w1 ⟨rfl, b1, b2⟩
  go_wp2_with fail
  go_end0
  exact ⟨rfl, b1, b2⟩

set_option maxHeartbeats 1000000 in
theorem ticksP_any (B : Nat) (s : Bu.Se) (v : Int) (m : List Value) (T : TypeId) (n : Int) (w : World) (h : Bo w B (bL s v m) T) (h0 : IntKind.i64.wrap (n * s.t) = n * s.t) (h1 : IntKind.i64.wrap (v + n * s.t) = v + n * s.t) (h2 : IntKind.i64.wrap (1000 * s.p) = 1000 * s.p) :
    Calls Try.prog 29 #[.pointer (some ⟨B, 0, none⟩), .int .i64 n] w fun e w' => e = .returned (.tuple #[]) ∧ Bo w' B (bL s (Bu.up s (v + n * s.t)) m) T ∧ Cg B w w' := by
  have c := bring_any B s v m T (n * s.t) w h h1 h2
  generalize Bu.up s (v + n * s.t) = z at *
  have q := h.cell 1 rfl
  clear h h1 h2
  obtain ⟨C, K, R, P⟩ := s
  dsimp only at *
  go_enter Try.func29, Try.ntmps29
  go_wp2_with fail
  with_reducible refine c.mono ?_
  rintro e w1 ⟨rfl, b1, b2⟩
  go_wp2_with fail
  go_end0
  exact ⟨rfl, b1, b2⟩

set_option maxHeartbeats 1000000 in
theorem takeP_any (B : Nat) (s : Bu.Se) (v : Int) (m : List Value) (T : TypeId) (w : World) (h : Bo w B (bL s v m) T) (h1 : IntKind.i64.wrap (v - 1000) = v - 1000) :
    Calls Try.prog 30 #[.pointer (some ⟨B, 0, none⟩)] w fun e w' => e = .returned (.bool (decide (1000 ≤ v))) ∧ Bo w' B (bL s (if 1000 ≤ v then v - 1000 else v) m) T ∧ Cg B w w' := by
  obtain ⟨C, K, R, P⟩ := s
  have hX := hidD h
  have q4 := h.cell 4 rfl
  have f4 := h.frozen 4
  clear h
  by_cases hle : 1000 ≤ v
  · rw [if_pos hle, decide_eq_true hle]
    have hle2 : ¬ v < 1000 := by omega
    go_enter Try.func30, Try.ntmps30
    go_wp2_with fail
    go_ret
    exact ⟨rfl, hX.out.set 4 _, Cg.set w 4 _⟩
  · rw [if_neg hle, decide_eq_false hle]
    have hle2 : v < 1000 := by omega
    clear hle
    go_enter Try.func30, Try.ntmps30
    go_wp2_with fail
    go_ret
    exact ⟨rfl, hX.out, Cg.refl _ _⟩
end Go.Proofs.Ythhhpmjbohfpjaa
