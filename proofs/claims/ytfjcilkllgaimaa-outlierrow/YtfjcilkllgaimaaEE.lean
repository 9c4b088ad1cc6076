/- outlier: a peer in its box: ripe, eject. -/
import Derived.Test.YtfjcilkllgaimaaED
namespace Go.Proofs.Ytfjcilkllgaimaa
open Go.RowKit
set_option maxRecDepth 20000
set_option linter.unusedVariables false

theorem cell_off {w : World} {b i j : Nat} {v : Value} (h : i ≠ j) : (w.setCell ⟨b, i, none⟩ v).cell? ⟨b, j, none⟩ = w.cell? ⟨b, j, none⟩ :=
  World.cell?_setCell_other w _ _ v (fun e => h (by cases e; rfl))

set_option maxHeartbeats 4000000 in
theorem ripeP_any (B : Nat) (o : Ou.St) (s : Ou.Se) (T : TypeId) (w : World) (h : Bo w B (pL o s) T) (h1 : IntKind.i64.wrap (o.g + o.b) = o.g + o.b) (h2 : IntKind.i64.wrap (1000 * o.b) = 1000 * o.b) (h3 : IntKind.i64.wrap (s.m * (o.g + o.b)) = s.m * (o.g + o.b)) :
    Calls Try.prog 26 #[.pointer (some ⟨B, 0, none⟩)] w fun e w' => e = .returned (.bool (Ou.ripe o s)) ∧ ∃ m, w' = w.drewN m := by
  obtain ⟨R, G, BD, NN, S, U, Q⟩ := o
  obtain ⟨SW, SM, SL, SB, SX, SP, SC⟩ := s
  dsimp only at h1 h2 h3
  unfold Ou.ripe Ou.row Ou.share
  dsimp only
  have p0 := h.cell 0 rfl
  have p1 := h.cell 1 rfl
  have p2 := h.cell 2 rfl
  have p6 := h.cell 6 rfl
  have p7 := h.cell 7 rfl
  have p8 := h.cell 8 rfl
  have p9 := h.cell 9 rfl
  clear h
  cases Q
  · skip
    by_cases ha : SW ≤ R
    · skip
      rw [decide_eq_true ha]
      by_cases hl : SL ≤ G + BD
      · skip
        rw [decide_eq_true hl]
        go_enter Try.func26, Try.ntmps26
        go_wp2_with fail
        go_quiet (fail)
        go_wp2_with fail
        go_quiet (fail)
        go_wp2_with fail
        go_quiet (fail)
        go_wp2_with fail
        go_ret
        exact ⟨by first | rfl | simp [*], _, rfl⟩
      · skip
        have hl2 := decide_eq_false hl
        rw [hl2]
        go_enter Try.func26, Try.ntmps26
        go_wp2_with fail
        go_quiet (fail)
        go_wp2_with fail
        go_quiet (fail)
        go_wp2_with fail
        go_quiet (fail)
        go_wp2_with fail
        go_ret
        exact ⟨by first | rfl | simp [*], _, rfl⟩
    · skip
      have ha2 := decide_eq_false ha
      rw [ha2]
      by_cases hl : SL ≤ G + BD
      · skip
        rw [decide_eq_true hl]
        go_enter Try.func26, Try.ntmps26
        go_wp2_with fail
        go_quiet (fail)
        go_wp2_with fail
        go_quiet (fail)
        go_wp2_with fail
        go_quiet (fail)
        go_wp2_with fail
        go_ret
        exact ⟨by first | rfl | simp [*], _, rfl⟩
      · skip
        have hl2 := decide_eq_false hl
        rw [hl2]
        go_enter Try.func26, Try.ntmps26
        go_wp2_with fail
        go_quiet (fail)
        go_wp2_with fail
        go_quiet (fail)
        go_wp2_with fail
        go_quiet (fail)
        go_wp2_with fail
        go_ret
        exact ⟨by first | rfl | simp [*], _, rfl⟩
  · skip
    by_cases hl : SL ≤ G + BD
    · skip
      rw [decide_eq_true hl]
      go_enter Try.func26, Try.ntmps26
      go_wp2_with fail
      go_quiet (fail)
      go_wp2_with fail
      go_quiet (fail)
      go_wp2_with fail
      go_quiet (fail)
      go_wp2_with fail
      go_ret
      exact ⟨by first | rfl | simp [*], _, rfl⟩
    · skip
      have hl2 := decide_eq_false hl
      rw [hl2]
      go_enter Try.func26, Try.ntmps26
      go_wp2_with fail
      go_quiet (fail)
      go_wp2_with fail
      go_quiet (fail)
      go_wp2_with fail
      go_quiet (fail)
      go_wp2_with fail
      go_ret
      exact ⟨by first | rfl | simp [*], _, rfl⟩

set_option maxHeartbeats 4000000 in
theorem ejectP_any (B : Nat) (o : Ou.St) (s : Ou.Se) (T : TypeId) (t : Int) (w : World) (h : Bo w B (pL o s) T) (h1 : IntKind.i64.wrap (o.n + 1) = o.n + 1) (h2 : IntKind.i64.wrap (s.b * Ou.up o.n 1000) = s.b * Ou.up o.n 1000)
    (h3 : IntKind.i64.wrap (t + Ou.long (Ou.up o.n 1000) s) = t + Ou.long (Ou.up o.n 1000) s) :
    Calls Try.prog 27 #[.pointer (some ⟨B, 0, none⟩), .int .i64 t] w fun e w' => e = .returned (.tuple #[]) ∧ Bo w' B (pL (Ou.eject o s t) s) T ∧ Cg B w w' := by
  obtain ⟨R, G, BD, NN, S, U, Q⟩ := o
  obtain ⟨SW, SM, SL, SB, SX, SP, SC⟩ := s
  dsimp only at h1 h2 h3
  have c1 := fun W => more_any NN 1000 h1 W
  unfold Ou.eject
  dsimp only
  generalize Ou.up NN 1000 = n1 at *
  have HL : Hid (Ou.long n1 ⟨SW, SM, SL, SB, SX, SP, SC⟩ = if SB * n1 ≤ SX then SB * n1 else SX) := hidD rfl
  generalize Ou.long n1 ⟨SW, SM, SL, SB, SX, SP, SC⟩ = lg at *
  have hA := hidD (((h.set 6 (.bool true)).set 3 (.int .i64 n1)).set 4 (.int .i64 t))
  have hC := hidD (((Cg.set w 6 (.bool true) (b := B)).trans (Cg.set _ 3 (.int .i64 n1))).trans (Cg.set _ 4 (.int .i64 t)))
  have p3 := h.cell 3 rfl
  have p4 := h.cell 4 rfl
  have p6 := h.cell 6 rfl
  have f3 := h.frozen 3
  have f4 := h.frozen 4
  have f6 := h.frozen 6
  clear h
  go_enter Try.func27, Try.ntmps27
  go_upto_region 3 with (go_at_call 35; with_reducible refine (c1 _).mono ?_; rintro e w5 ⟨rfl, rfl⟩)
  generalize (((w.setCell ⟨B, 6, none⟩ (.bool true)).setCell ⟨B, 3, none⟩ (.int .i64 n1)).setCell ⟨B, 4, none⟩ (.int .i64 t)) = W1 at *
  clear p3 p4 p6 f3 f4 f6 c1
  have X := hA.out
  have q0 := X.cell 0 rfl
  have q1 := X.cell 1 rfl
  have q2 := X.cell 2 rfl
  have q3 := X.cell 3 rfl
  have q5 := X.cell 5 rfl
  have q10 := X.cell 10 rfl
  have q11 := X.cell 11 rfl
  have f0 := X.frozen 0
  have f1 := X.frozen 1
  have f2 := X.frozen 2
  have f5 := X.frozen 5
  have hX := hidD X
  clear X hA
  by_cases hle : SB * n1 ≤ SX
  · have hl := HL.out
    rw [if_pos hle] at hl
    subst hl
    clear HL
    have hle2 : ¬ SX < SB * n1 := by omega
    go_region_held (fun w' => w'.cell? ⟨B, 10, none⟩ = some (.int .i64 SB) ∧ w'.cell? ⟨B, 3, none⟩ = some (.int .i64 n1) ∧ w'.cell? ⟨B, 11, none⟩ = some (.int .i64 SX)) (simp [*, cell_off]) (fail)
    go_wp2_with fail
    go_end0
    exact ⟨rfl, (((hX.out.drew.set 5 _).set 0 _).set 1 _).set 2 _, ((((hC.out.trans (Cg.drewN W1 1)).trans (Cg.set W1.drew 5 _)).trans (Cg.set _ 0 _)).trans (Cg.set _ 1 _)).trans (Cg.set _ 2 _)⟩
  · have hl := HL.out
    rw [if_neg hle] at hl
    subst hl
    clear HL
    have hle2 : lg < SB * n1 := by omega
    go_region_held (fun w' => w'.cell? ⟨B, 10, none⟩ = some (.int .i64 SB) ∧ w'.cell? ⟨B, 3, none⟩ = some (.int .i64 n1) ∧ w'.cell? ⟨B, 11, none⟩ = some (.int .i64 lg)) (simp [*, cell_off]) (fail)
    go_wp2_with fail
    go_end0
    exact ⟨rfl, (((hX.out.drew.set 5 _).set 0 _).set 1 _).set 2 _, ((((hC.out.trans (Cg.drewN W1 1)).trans (Cg.set W1.drew 5 _)).trans (Cg.set _ 0 _)).trans (Cg.set _ 1 _)).trans (Cg.set _ 2 _)⟩
end Go.Proofs.Ytfjcilkllgaimaa
