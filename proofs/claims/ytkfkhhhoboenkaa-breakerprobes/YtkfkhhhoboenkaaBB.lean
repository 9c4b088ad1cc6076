/- breaker: Check, of both. -/
import Derived.Test.YtkfkhhhoboenkaaBA
namespace Go.Proofs.Ytkfkhhhoboenkaa
open Go.RowKit
set_option maxRecDepth 20000
set_option linter.unusedVariables false

set_option maxHeartbeats 2000000 in
theorem bcheck_any (b : Br.St) (s : Br.Se) (t : Int) (w : World) : Calls Try.prog 18 #[vB b, vS s, .int .i64 t] w fun e w' => e = .returned (.int .i64 (Br.chk b s t)) ∧ Below w.heap.size w w' := by
  have c1 := fun W => maySet_any s W
  have c2 := fun v => within_any t 0 536870912 v
  have c3 := fun W => mayBe_any b W
  unfold Br.chk
  obtain ⟨M, F, U, P, W⟩ := b
  obtain ⟨SF, SO, SP⟩ := s
  unfold vB vS at *
  dsimp only at *
  generalize Br.sets ⟨SF, SO, SP⟩ = b1 at *
  generalize Br.inn t 0 536870912 = b2 at *
  generalize Br.may ⟨M, F, U, P, W⟩ = b3 at *
  obtain ⟨W0, hW0, B0, B1, HB, HS⟩ := two_boxes w [.int .i64 M, .int .i64 F, .int .i64 U, .int .i64 P, .int .i64 W] [.int .i64 SF, .int .i64 SO, .int .i64 SP] 23 25
  have p0 := B1.cell 0 rfl
  have p1 := B1.cell 1 rfl
  have p2 := B1.cell 2 rfl
  cases b1 <;> cases b2 <;> cases b3
  all_goals
    go_enter Try.func18, Try.ntmps18
    go_wp2_with fail
    rw [← hW0]
    clear hW0
    with_reducible refine (c1 _).mono ?_
    rintro e w1 ⟨rfl, h1⟩
    have hb1 := Below.step HB h1
    have q0 := (B0.below h1).cell 0 rfl
    have q1 := (B0.below h1).cell 1 rfl
    have q2 := (B0.below h1).cell 2 rfl
    have q3 := (B0.below h1).cell 3 rfl
    have q4 := (B0.below h1).cell 4 rfl
    go_wp2_with (go_at_call 29; with_reducible refine (c2 _).mono ?_; rintro e w2 ⟨rfl, rfl⟩)
    first
      | (go_ret; exact ⟨rfl, hb1⟩)
      | (with_reducible refine (c3 _).mono ?_
         rintro e w3 ⟨rfl, h3⟩
         have hb3 := Below.step hb1 h3
         go_wp2_with fail
         go_ret
         exact ⟨rfl, hb3⟩)
end Go.Proofs.Ytkfkhhhoboenkaa
