/- outlier: within, maySet, mayBe; the reference's in, Sets. -/
import Derived.Test.YtfjcilkllgaimaaEP
import Derived.Test.YtfjcilkllgaimaaBX
import Derived.BigQuiet
import Derived.Deep.QuietTactic
namespace Go.Proofs.Ytfjcilkllgaimaa
open Go.RowKit
set_option maxRecDepth 20000

/-- What is known, settings, as values. -/
abbrev vO (o : Ou.St) : Value := .agg #[.int .i64 o.r, .int .i64 o.g, .int .i64 o.b, .int .i64 o.n, .int .i64 o.s, .int .i64 o.u, .bool o.o]
abbrev vS (s : Ou.Se) : Value := .agg #[.int .i64 s.w, .int .i64 s.m, .int .i64 s.l, .int .i64 s.b, .int .i64 s.x, .int .i64 s.p, .int .i64 s.c]
abbrev oL (o : Ou.St) : List Value := [.int .i64 o.r, .int .i64 o.g, .int .i64 o.b, .int .i64 o.n, .int .i64 o.s, .int .i64 o.u, .bool o.o]
abbrev sL (s : Ou.Se) : List Value := [.int .i64 s.w, .int .i64 s.m, .int .i64 s.l, .int .i64 s.b, .int .i64 s.x, .int .i64 s.p, .int .i64 s.c]

theorem within_any (n a c : Int) (w : World) : Calls Try.prog 33 #[.int .i64 n, .int .i64 a, .int .i64 c] w fun e w' => e = .returned (.bool (Ou.inn n a c)) ∧ w = w' := by
  unfold Ou.inn
  by_cases h : a ≤ n
  · go_enter Try.func33, Try.ntmps33
    go_wp2
    go_ret
    exact ⟨by rw [decide_eq_true h]; rfl, rfl⟩
  · go_enter Try.func33, Try.ntmps33
    go_wp2
    go_ret
    exact ⟨by rw [decide_eq_false (by omega)]; rfl, rfl⟩

theorem rin_any (n a c : Int) (w : World) : Calls Try.prog 31 #[.int .i64 n, .int .i64 a, .int .i64 c] w fun e w' => e = .returned (.bool (Ou.inn n a c)) ∧ w = w' := by
  unfold Ou.inn
  by_cases h : a ≤ n
  · go_enter Try.func31, Try.ntmps31
    go_wp2
    go_ret
    exact ⟨by rw [decide_eq_true h]; rfl, rfl⟩
  · go_enter Try.func31, Try.ntmps31
    go_wp2
    go_ret
    exact ⟨by rw [decide_eq_false (by omega)]; rfl, rfl⟩

set_option maxHeartbeats 2000000 in
theorem maySet_any (s : Ou.Se) (w : World) : Calls Try.prog 32 #[vS s] w fun e w' => e = .returned (.bool (Ou.sets s)) ∧ Below w.heap.size w w' := by
  obtain ⟨SW, SM, SL, SB, SX, SP, SC⟩ := s
  have c0 := fun v => within_any SW 1 1000 v
  have c1 := fun v => within_any SM 1 1000 v
  have c2 := fun v => within_any SL 1 1000 v
  have c3 := fun v => within_any SB 1 1048576 v
  have c4 := fun v => within_any SX SB 1048576 v
  have c5 := fun v => within_any SP 0 100 v
  have c6 := fun v => within_any SC 0 100 v
  have hb : ∀ o, Below w.heap.size w (w.alloc o) := fun o => (Below.refl _ _).alloc (Nat.le_refl _) o
  unfold vS Ou.sets
  dsimp only
  generalize Ou.inn SW 1 1000 = b0 at *
  generalize Ou.inn SM 1 1000 = b1 at *
  generalize Ou.inn SL 1 1000 = b2 at *
  generalize Ou.inn SB 1 1048576 = b3 at *
  generalize Ou.inn SX SB 1048576 = b4 at *
  generalize Ou.inn SP 0 100 = b5 at *
  generalize Ou.inn SC 0 100 = b6 at *
  cases b0
  · skip
    go_enter Try.func32, Try.ntmps32
    go_wp2_with (go_at_call 33; (first | with_reducible refine (c0 _).mono ?_ | with_reducible refine (c1 _).mono ?_ | with_reducible refine (c2 _).mono ?_ | with_reducible refine (c3 _).mono ?_ | with_reducible refine (c4 _).mono ?_ | with_reducible refine (c5 _).mono ?_ | with_reducible refine (c6 _).mono ?_); rintro e w1 ⟨rfl, rfl⟩)
    go_ret
    exact ⟨by first | rfl | simp, hb _⟩
  cases b1
  · skip
    go_enter Try.func32, Try.ntmps32
    go_wp2_with (go_at_call 33; (first | with_reducible refine (c0 _).mono ?_ | with_reducible refine (c1 _).mono ?_ | with_reducible refine (c2 _).mono ?_ | with_reducible refine (c3 _).mono ?_ | with_reducible refine (c4 _).mono ?_ | with_reducible refine (c5 _).mono ?_ | with_reducible refine (c6 _).mono ?_); rintro e w1 ⟨rfl, rfl⟩)
    go_ret
    exact ⟨by first | rfl | simp, hb _⟩
  cases b2
  · skip
    go_enter Try.func32, Try.ntmps32
    go_wp2_with (go_at_call 33; (first | with_reducible refine (c0 _).mono ?_ | with_reducible refine (c1 _).mono ?_ | with_reducible refine (c2 _).mono ?_ | with_reducible refine (c3 _).mono ?_ | with_reducible refine (c4 _).mono ?_ | with_reducible refine (c5 _).mono ?_ | with_reducible refine (c6 _).mono ?_); rintro e w1 ⟨rfl, rfl⟩)
    go_ret
    exact ⟨by first | rfl | simp, hb _⟩
  cases b3
  · skip
    go_enter Try.func32, Try.ntmps32
    go_wp2_with (go_at_call 33; (first | with_reducible refine (c0 _).mono ?_ | with_reducible refine (c1 _).mono ?_ | with_reducible refine (c2 _).mono ?_ | with_reducible refine (c3 _).mono ?_ | with_reducible refine (c4 _).mono ?_ | with_reducible refine (c5 _).mono ?_ | with_reducible refine (c6 _).mono ?_); rintro e w1 ⟨rfl, rfl⟩)
    go_ret
    exact ⟨by first | rfl | simp, hb _⟩
  cases b4
  · skip
    go_enter Try.func32, Try.ntmps32
    go_wp2_with (go_at_call 33; (first | with_reducible refine (c0 _).mono ?_ | with_reducible refine (c1 _).mono ?_ | with_reducible refine (c2 _).mono ?_ | with_reducible refine (c3 _).mono ?_ | with_reducible refine (c4 _).mono ?_ | with_reducible refine (c5 _).mono ?_ | with_reducible refine (c6 _).mono ?_); rintro e w1 ⟨rfl, rfl⟩)
    go_ret
    exact ⟨by first | rfl | simp, hb _⟩
  cases b5
  · skip
    go_enter Try.func32, Try.ntmps32
    go_wp2_with (go_at_call 33; (first | with_reducible refine (c0 _).mono ?_ | with_reducible refine (c1 _).mono ?_ | with_reducible refine (c2 _).mono ?_ | with_reducible refine (c3 _).mono ?_ | with_reducible refine (c4 _).mono ?_ | with_reducible refine (c5 _).mono ?_ | with_reducible refine (c6 _).mono ?_); rintro e w1 ⟨rfl, rfl⟩)
    go_ret
    exact ⟨by first | rfl | simp, hb _⟩
  cases b6
  · skip
    go_enter Try.func32, Try.ntmps32
    go_wp2_with (go_at_call 33; (first | with_reducible refine (c0 _).mono ?_ | with_reducible refine (c1 _).mono ?_ | with_reducible refine (c2 _).mono ?_ | with_reducible refine (c3 _).mono ?_ | with_reducible refine (c4 _).mono ?_ | with_reducible refine (c5 _).mono ?_ | with_reducible refine (c6 _).mono ?_); rintro e w1 ⟨rfl, rfl⟩)
    go_ret
    exact ⟨by first | rfl | simp, hb _⟩
  go_enter Try.func32, Try.ntmps32
  go_wp2_with (go_at_call 33; (first | with_reducible refine (c0 _).mono ?_ | with_reducible refine (c1 _).mono ?_ | with_reducible refine (c2 _).mono ?_ | with_reducible refine (c3 _).mono ?_ | with_reducible refine (c4 _).mono ?_ | with_reducible refine (c5 _).mono ?_ | with_reducible refine (c6 _).mono ?_); rintro e w1 ⟨rfl, rfl⟩)
  go_ret
  exact ⟨by first | rfl | simp, hb _⟩

set_option maxHeartbeats 2000000 in
theorem rsets_any (s : Ou.Se) (w : World) : Calls Try.prog 30 #[vS s] w fun e w' => e = .returned (.bool (Ou.sets s)) ∧ Below w.heap.size w w' := by
  obtain ⟨SW, SM, SL, SB, SX, SP, SC⟩ := s
  have c0 := fun v => rin_any SW 1 1000 v
  have c1 := fun v => rin_any SM 1 1000 v
  have c2 := fun v => rin_any SL 1 1000 v
  have c3 := fun v => rin_any SB 1 1048576 v
  have c4 := fun v => rin_any SX SB 1048576 v
  have c5 := fun v => rin_any SP 0 100 v
  have c6 := fun v => rin_any SC 0 100 v
  have hb : ∀ o, Below w.heap.size w (w.alloc o) := fun o => (Below.refl _ _).alloc (Nat.le_refl _) o
  unfold vS Ou.sets
  dsimp only
  generalize Ou.inn SW 1 1000 = b0 at *
  generalize Ou.inn SM 1 1000 = b1 at *
  generalize Ou.inn SL 1 1000 = b2 at *
  generalize Ou.inn SB 1 1048576 = b3 at *
  generalize Ou.inn SX SB 1048576 = b4 at *
  generalize Ou.inn SP 0 100 = b5 at *
  generalize Ou.inn SC 0 100 = b6 at *
  cases b0
  · skip
    go_enter Try.func30, Try.ntmps30
    go_wp2_with (go_at_call 31; (first | with_reducible refine (c0 _).mono ?_ | with_reducible refine (c1 _).mono ?_ | with_reducible refine (c2 _).mono ?_ | with_reducible refine (c3 _).mono ?_ | with_reducible refine (c4 _).mono ?_ | with_reducible refine (c5 _).mono ?_ | with_reducible refine (c6 _).mono ?_); rintro e w1 ⟨rfl, rfl⟩)
    go_ret
    exact ⟨by first | rfl | simp, hb _⟩
  cases b1
  · skip
    go_enter Try.func30, Try.ntmps30
    go_wp2_with (go_at_call 31; (first | with_reducible refine (c0 _).mono ?_ | with_reducible refine (c1 _).mono ?_ | with_reducible refine (c2 _).mono ?_ | with_reducible refine (c3 _).mono ?_ | with_reducible refine (c4 _).mono ?_ | with_reducible refine (c5 _).mono ?_ | with_reducible refine (c6 _).mono ?_); rintro e w1 ⟨rfl, rfl⟩)
    go_ret
    exact ⟨by first | rfl | simp, hb _⟩
  cases b2
  · skip
    go_enter Try.func30, Try.ntmps30
    go_wp2_with (go_at_call 31; (first | with_reducible refine (c0 _).mono ?_ | with_reducible refine (c1 _).mono ?_ | with_reducible refine (c2 _).mono ?_ | with_reducible refine (c3 _).mono ?_ | with_reducible refine (c4 _).mono ?_ | with_reducible refine (c5 _).mono ?_ | with_reducible refine (c6 _).mono ?_); rintro e w1 ⟨rfl, rfl⟩)
    go_ret
    exact ⟨by first | rfl | simp, hb _⟩
  cases b3
  · skip
    go_enter Try.func30, Try.ntmps30
    go_wp2_with (go_at_call 31; (first | with_reducible refine (c0 _).mono ?_ | with_reducible refine (c1 _).mono ?_ | with_reducible refine (c2 _).mono ?_ | with_reducible refine (c3 _).mono ?_ | with_reducible refine (c4 _).mono ?_ | with_reducible refine (c5 _).mono ?_ | with_reducible refine (c6 _).mono ?_); rintro e w1 ⟨rfl, rfl⟩)
    go_ret
    exact ⟨by first | rfl | simp, hb _⟩
  cases b4
  · skip
    go_enter Try.func30, Try.ntmps30
    go_wp2_with (go_at_call 31; (first | with_reducible refine (c0 _).mono ?_ | with_reducible refine (c1 _).mono ?_ | with_reducible refine (c2 _).mono ?_ | with_reducible refine (c3 _).mono ?_ | with_reducible refine (c4 _).mono ?_ | with_reducible refine (c5 _).mono ?_ | with_reducible refine (c6 _).mono ?_); rintro e w1 ⟨rfl, rfl⟩)
    go_ret
    exact ⟨by first | rfl | simp, hb _⟩
  cases b5
  · skip
    go_enter Try.func30, Try.ntmps30
    go_wp2_with (go_at_call 31; (first | with_reducible refine (c0 _).mono ?_ | with_reducible refine (c1 _).mono ?_ | with_reducible refine (c2 _).mono ?_ | with_reducible refine (c3 _).mono ?_ | with_reducible refine (c4 _).mono ?_ | with_reducible refine (c5 _).mono ?_ | with_reducible refine (c6 _).mono ?_); rintro e w1 ⟨rfl, rfl⟩)
    go_ret
    exact ⟨by first | rfl | simp, hb _⟩
  cases b6
  · skip
    go_enter Try.func30, Try.ntmps30
    go_wp2_with (go_at_call 31; (first | with_reducible refine (c0 _).mono ?_ | with_reducible refine (c1 _).mono ?_ | with_reducible refine (c2 _).mono ?_ | with_reducible refine (c3 _).mono ?_ | with_reducible refine (c4 _).mono ?_ | with_reducible refine (c5 _).mono ?_ | with_reducible refine (c6 _).mono ?_); rintro e w1 ⟨rfl, rfl⟩)
    go_ret
    exact ⟨by first | rfl | simp, hb _⟩
  go_enter Try.func30, Try.ntmps30
  go_wp2_with (go_at_call 31; (first | with_reducible refine (c0 _).mono ?_ | with_reducible refine (c1 _).mono ?_ | with_reducible refine (c2 _).mono ?_ | with_reducible refine (c3 _).mono ?_ | with_reducible refine (c4 _).mono ?_ | with_reducible refine (c5 _).mono ?_ | with_reducible refine (c6 _).mono ?_); rintro e w1 ⟨rfl, rfl⟩)
  go_ret
  exact ⟨by first | rfl | simp, hb _⟩

set_option maxHeartbeats 2000000 in
theorem mayBe_any (o : Ou.St) (w : World) : Calls Try.prog 34 #[vO o] w fun e w' => e = .returned (.bool (Ou.may o)) ∧ Below w.heap.size w w' := by
  obtain ⟨R, G, B, N, S, U, Q⟩ := o
  have c0 := fun v => within_any R 0 1048576 v
  have c1 := fun v => within_any G 0 1048576 v
  have c2 := fun v => within_any B 0 1048576 v
  have c3 := fun v => within_any N 0 1000 v
  have c4 := fun v => within_any S 0 1073741824 v
  have c5 := fun v => within_any U 0 1073741824 v
  have hb : ∀ o, Below w.heap.size w (w.alloc o) := fun o => (Below.refl _ _).alloc (Nat.le_refl _) o
  unfold vO Ou.may
  dsimp only
  generalize Ou.inn R 0 1048576 = b0 at *
  generalize Ou.inn G 0 1048576 = b1 at *
  generalize Ou.inn B 0 1048576 = b2 at *
  generalize Ou.inn N 0 1000 = b3 at *
  generalize Ou.inn S 0 1073741824 = b4 at *
  generalize Ou.inn U 0 1073741824 = b5 at *
  cases b0
  · skip
    go_enter Try.func34, Try.ntmps34
    go_wp2_with (go_at_call 33; (first | with_reducible refine (c0 _).mono ?_ | with_reducible refine (c1 _).mono ?_ | with_reducible refine (c2 _).mono ?_ | with_reducible refine (c3 _).mono ?_ | with_reducible refine (c4 _).mono ?_ | with_reducible refine (c5 _).mono ?_); rintro e w1 ⟨rfl, rfl⟩)
    go_ret
    exact ⟨by first | rfl | simp, hb _⟩
  cases b1
  · skip
    go_enter Try.func34, Try.ntmps34
    go_wp2_with (go_at_call 33; (first | with_reducible refine (c0 _).mono ?_ | with_reducible refine (c1 _).mono ?_ | with_reducible refine (c2 _).mono ?_ | with_reducible refine (c3 _).mono ?_ | with_reducible refine (c4 _).mono ?_ | with_reducible refine (c5 _).mono ?_); rintro e w1 ⟨rfl, rfl⟩)
    go_ret
    exact ⟨by first | rfl | simp, hb _⟩
  cases b2
  · skip
    go_enter Try.func34, Try.ntmps34
    go_wp2_with (go_at_call 33; (first | with_reducible refine (c0 _).mono ?_ | with_reducible refine (c1 _).mono ?_ | with_reducible refine (c2 _).mono ?_ | with_reducible refine (c3 _).mono ?_ | with_reducible refine (c4 _).mono ?_ | with_reducible refine (c5 _).mono ?_); rintro e w1 ⟨rfl, rfl⟩)
    go_ret
    exact ⟨by first | rfl | simp, hb _⟩
  cases b3
  · skip
    go_enter Try.func34, Try.ntmps34
    go_wp2_with (go_at_call 33; (first | with_reducible refine (c0 _).mono ?_ | with_reducible refine (c1 _).mono ?_ | with_reducible refine (c2 _).mono ?_ | with_reducible refine (c3 _).mono ?_ | with_reducible refine (c4 _).mono ?_ | with_reducible refine (c5 _).mono ?_); rintro e w1 ⟨rfl, rfl⟩)
    go_ret
    exact ⟨by first | rfl | simp, hb _⟩
  cases b4
  · skip
    go_enter Try.func34, Try.ntmps34
    go_wp2_with (go_at_call 33; (first | with_reducible refine (c0 _).mono ?_ | with_reducible refine (c1 _).mono ?_ | with_reducible refine (c2 _).mono ?_ | with_reducible refine (c3 _).mono ?_ | with_reducible refine (c4 _).mono ?_ | with_reducible refine (c5 _).mono ?_); rintro e w1 ⟨rfl, rfl⟩)
    go_ret
    exact ⟨by first | rfl | simp, hb _⟩
  cases b5
  · skip
    go_enter Try.func34, Try.ntmps34
    go_wp2_with (go_at_call 33; (first | with_reducible refine (c0 _).mono ?_ | with_reducible refine (c1 _).mono ?_ | with_reducible refine (c2 _).mono ?_ | with_reducible refine (c3 _).mono ?_ | with_reducible refine (c4 _).mono ?_ | with_reducible refine (c5 _).mono ?_); rintro e w1 ⟨rfl, rfl⟩)
    go_ret
    exact ⟨by first | rfl | simp, hb _⟩
  go_enter Try.func34, Try.ntmps34
  go_wp2_with (go_at_call 33; (first | with_reducible refine (c0 _).mono ?_ | with_reducible refine (c1 _).mono ?_ | with_reducible refine (c2 _).mono ?_ | with_reducible refine (c3 _).mono ?_ | with_reducible refine (c4 _).mono ?_ | with_reducible refine (c5 _).mono ?_); rintro e w1 ⟨rfl, rfl⟩)
  go_ret
  exact ⟨by first | rfl | simp, hb _⟩
end Go.Proofs.Ytfjcilkllgaimaa
