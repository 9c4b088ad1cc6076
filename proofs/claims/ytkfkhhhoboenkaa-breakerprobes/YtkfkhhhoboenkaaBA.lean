/- breaker: within, maySet, mayBe, Check, of both. -/
import Derived.Test.YtkfkhhhoboenkaaBP
import Derived.Test.YtkfkhhhoboenkaaBX
namespace Go.Proofs.Ytkfkhhhoboenkaa
open Go.RowKit
set_option maxRecDepth 20000

/-- A breaker, settings, as values. -/
abbrev vB (b : Br.St) : Value := .agg #[.int .i64 b.m, .int .i64 b.f, .int .i64 b.u, .int .i64 b.p, .int .i64 b.w]
abbrev vS (s : Br.Se) : Value := .agg #[.int .i64 s.f, .int .i64 s.o, .int .i64 s.p]

theorem within_any (n a c : Int) (w : World) : Calls Try.prog 29 #[.int .i64 n, .int .i64 a, .int .i64 c] w fun e w' => e = .returned (.bool (Br.inn n a c)) ∧ w = w' := by
  unfold Br.inn
  by_cases h : a ≤ n
  · go_enter Try.func29, Try.ntmps29
    go_wp2
    go_ret
    exact ⟨by rw [decide_eq_true h]; rfl, rfl⟩
  · go_enter Try.func29, Try.ntmps29
    go_wp2
    go_ret
    exact ⟨by rw [decide_eq_false (by omega)]; rfl, rfl⟩

set_option maxHeartbeats 2000000 in
theorem maySet_any (s : Br.Se) (w : World) : Calls Try.prog 28 #[vS s] w fun e w' => e = .returned (.bool (Br.sets s)) ∧ Below w.heap.size w w' := by
  obtain ⟨F, O, P⟩ := s
  have c1 := fun W => within_any F 1 1000 W
  have c2 := fun W => within_any O 1 1048576 W
  have c3 := fun W => within_any P 1 64 W
  have hb : ∀ o, Below w.heap.size w (w.alloc o) := fun o => (Below.refl _ _).alloc (Nat.le_refl _) o
  unfold vS Br.sets
  dsimp only
  generalize Br.inn F 1 1000 = b1 at *
  generalize Br.inn O 1 1048576 = b2 at *
  generalize Br.inn P 1 64 = b3 at *
  cases b1 <;> cases b2
  all_goals
    go_enter Try.func28, Try.ntmps28
    go_wp2_with (go_at_call 29; (first | with_reducible refine (c1 _).mono ?_ | with_reducible refine (c2 _).mono ?_ | with_reducible refine (c3 _).mono ?_); rintro e w1 ⟨rfl, rfl⟩)
    go_ret
    exact ⟨rfl, hb _⟩

set_option maxHeartbeats 4000000 in
theorem mayBe_any (b : Br.St) (w : World) : Calls Try.prog 30 #[vB b] w fun e w' => e = .returned (.bool (Br.may b)) ∧ Below w.heap.size w w' := by
  obtain ⟨M, F, U, P, W⟩ := b
  have c1 := fun v => within_any M 0 2 v
  have c2 := fun v => within_any F 0 1000 v
  have c3 := fun v => within_any U 0 1073741824 v
  have c4 := fun v => within_any P 0 1000 v
  have c5 := fun v => within_any W 0 1000 v
  have hb : ∀ o, Below w.heap.size w (w.alloc o) := fun o => (Below.refl _ _).alloc (Nat.le_refl _) o
  unfold vB Br.may
  dsimp only
  generalize Br.inn M 0 2 = b1 at *
  generalize Br.inn F 0 1000 = b2 at *
  generalize Br.inn U 0 1073741824 = b3 at *
  generalize Br.inn P 0 1000 = b4 at *
  generalize Br.inn W 0 1000 = b5 at *
  cases b1 <;> cases b2 <;> cases b3 <;> cases b4
  all_goals
    go_enter Try.func30, Try.ntmps30
    go_wp2_with (go_at_call 29; (first | with_reducible refine (c1 _).mono ?_ | with_reducible refine (c2 _).mono ?_ | with_reducible refine (c3 _).mono ?_ | with_reducible refine (c4 _).mono ?_ | with_reducible refine (c5 _).mono ?_); rintro e w1 ⟨rfl, rfl⟩)
    go_ret
    exact ⟨rfl, hb _⟩

end Go.Proofs.Ytkfkhhhoboenkaa
