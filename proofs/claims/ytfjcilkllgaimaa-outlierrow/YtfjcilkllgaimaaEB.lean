/- outlier: Check, of both; mayCount. -/
import Derived.Test.YtfjcilkllgaimaaEA
namespace Go.Proofs.Ytfjcilkllgaimaa
open Go.RowKit
set_option maxRecDepth 20000
set_option linter.unusedVariables false

theorem below_on {B : Nat} {a b c : World} (h : Below B a b) (hB : B ≤ b.heap.size) (k : Below b.heap.size b c) : Below B a c :=
  ⟨k.os.trans h.os, k.tape.trans h.tape, k.output.trans h.output, Nat.le_trans h.size k.size, fun g hg => (k.block g (by omega)).trans (h.block g hg)⟩

set_option maxHeartbeats 4000000 in
theorem ocheck_any (o : Ou.St) (s : Ou.Se) (t : Int) (w : World) : Calls Try.prog 22 #[vO o, vS s, .int .i64 t] w fun e w' => e = .returned (.int .i64 (Ou.chk o s t)) ∧ Below w.heap.size w w' := by
  have c1 := fun W => maySet_any s W
  have c2 := fun v => within_any t 0 536870912 v
  have c3 := fun W => mayBe_any o W
  unfold Ou.chk
  obtain ⟨R, G, B, NN, S, U, Q⟩ := o
  obtain ⟨SW, SM, SL, SB, SX, SP, SC⟩ := s
  unfold vO vS at *
  dsimp only at *
  generalize Ou.sets ⟨SW, SM, SL, SB, SX, SP, SC⟩ = b1 at *
  generalize Ou.inn t 0 536870912 = b2 at *
  generalize Ou.may ⟨R, G, B, NN, S, U, Q⟩ = b3 at *
  obtain ⟨W0, hW0, B0, B1, HB, HS⟩ := two_boxes w [.int .i64 R, .int .i64 G, .int .i64 B, .int .i64 NN, .int .i64 S, .int .i64 U, .bool Q] [.int .i64 SW, .int .i64 SM, .int .i64 SL, .int .i64 SB, .int .i64 SX, .int .i64 SP, .int .i64 SC] 23 25
  have p0 := B1.cell 0 rfl
  have p1 := B1.cell 1 rfl
  have p2 := B1.cell 2 rfl
  have p3 := B1.cell 3 rfl
  have p4 := B1.cell 4 rfl
  have p5 := B1.cell 5 rfl
  have p6 := B1.cell 6 rfl
  go_enter Try.func22, Try.ntmps22
  go_wp2_with fail
  rw [← hW0]
  clear hW0
  with_reducible refine (c1 _).mono ?_
  rintro e w1 ⟨rfl, h1⟩
  have hb1 := Below.step HB h1
  have q0 := (B0.below h1).cell 0 rfl
  have q1 := (B0.below h1).cell 1 rfl
  have q2 := (B0.below h1).cell 2 rfl
  have q3 := (B0.below h1).cell 3 rfl
  have q4 := (B0.below h1).cell 4 rfl
  have q5 := (B0.below h1).cell 5 rfl
  have q6 := (B0.below h1).cell 6 rfl
  clear c1 B0 B1 HB HS p0 p1 p2 p3 p4 p5 p6 h1
  cases b1
  · skip
    go_wp2_with (go_at_call 33; (first | with_reducible refine (c2 _).mono ?_); rintro e w2 ⟨rfl, rfl⟩)
    go_ret
    exact ⟨rfl, hb1⟩
  cases b2
  · skip
    go_wp2_with (go_at_call 33; (first | with_reducible refine (c2 _).mono ?_); rintro e w2 ⟨rfl, rfl⟩)
    go_ret
    exact ⟨rfl, hb1⟩
  go_wp2_with (go_at_call 33; (first | with_reducible refine (c2 _).mono ?_); rintro e w2 ⟨rfl, rfl⟩)
  with_reducible refine (c3 _).mono ?_
  rintro e w3 ⟨rfl, h3⟩
  have hb3 := Below.step hb1 h3
  cases b3
  · go_wp2_with fail
    go_ret
    exact ⟨rfl, hb3⟩
  · go_wp2_with fail
    go_ret
    exact ⟨rfl, hb3⟩

set_option maxHeartbeats 4000000 in
theorem rcheck_any (o : Ou.St) (s : Ou.Se) (t : Int) (w : World) : Calls Try.prog 23 #[vO o, vS s, .int .i64 t] w fun e w' => e = .returned (.int .i64 (Ou.chk o s t)) ∧ Below w.heap.size w w' := by
  have c1 := fun W => rsets_any s W
  have c2 := fun v => rin_any t 0 536870912 v
  unfold Ou.chk Ou.may
  obtain ⟨R, G, B, NN, S, U, Q⟩ := o
  obtain ⟨SW, SM, SL, SB, SX, SP, SC⟩ := s
  unfold vO vS at *
  dsimp only at *
  generalize Ou.sets ⟨SW, SM, SL, SB, SX, SP, SC⟩ = b1 at *
  generalize Ou.inn t 0 536870912 = b2 at *
  have d0 := fun v => rin_any R 0 1048576 v
  have d1 := fun v => rin_any G 0 1048576 v
  have d2 := fun v => rin_any B 0 1048576 v
  have d3 := fun v => rin_any NN 0 1000 v
  have d4 := fun v => rin_any S 0 1073741824 v
  have d5 := fun v => rin_any U 0 1073741824 v
  generalize Ou.inn R 0 1048576 = m0 at *
  generalize Ou.inn G 0 1048576 = m1 at *
  generalize Ou.inn B 0 1048576 = m2 at *
  generalize Ou.inn NN 0 1000 = m3 at *
  generalize Ou.inn S 0 1073741824 = m4 at *
  generalize Ou.inn U 0 1073741824 = m5 at *
  obtain ⟨W0, hW0, B0, B1, HB, HS⟩ := two_boxes w [.int .i64 R, .int .i64 G, .int .i64 B, .int .i64 NN, .int .i64 S, .int .i64 U, .bool Q] [.int .i64 SW, .int .i64 SM, .int .i64 SL, .int .i64 SB, .int .i64 SX, .int .i64 SP, .int .i64 SC] 23 25
  have p0 := B1.cell 0 rfl
  have p1 := B1.cell 1 rfl
  have p2 := B1.cell 2 rfl
  have p3 := B1.cell 3 rfl
  have p4 := B1.cell 4 rfl
  have p5 := B1.cell 5 rfl
  have p6 := B1.cell 6 rfl
  go_enter Try.func23, Try.ntmps23
  go_wp2_with fail
  rw [← hW0]
  clear hW0
  with_reducible refine (c1 _).mono ?_
  rintro e w1 ⟨rfl, h1⟩
  have hb1 := Below.step HB h1
  have q0 := (B0.below h1).cell 0 rfl
  have q1 := (B0.below h1).cell 1 rfl
  have q2 := (B0.below h1).cell 2 rfl
  have q3 := (B0.below h1).cell 3 rfl
  have q4 := (B0.below h1).cell 4 rfl
  have q5 := (B0.below h1).cell 5 rfl
  have q6 := (B0.below h1).cell 6 rfl
  clear c1 B0 B1 HB HS p0 p1 p2 p3 p4 p5 p6 h1
  cases b1
  · skip
    go_wp2_with (go_at_call 31; (first | with_reducible refine (c2 _).mono ?_ | with_reducible refine (d0 _).mono ?_ | with_reducible refine (d1 _).mono ?_ | with_reducible refine (d2 _).mono ?_ | with_reducible refine (d3 _).mono ?_ | with_reducible refine (d4 _).mono ?_ | with_reducible refine (d5 _).mono ?_); rintro e w2 ⟨rfl, rfl⟩)
    go_ret
    exact ⟨rfl, hb1⟩
  cases b2
  · skip
    go_wp2_with (go_at_call 31; (first | with_reducible refine (c2 _).mono ?_ | with_reducible refine (d0 _).mono ?_ | with_reducible refine (d1 _).mono ?_ | with_reducible refine (d2 _).mono ?_ | with_reducible refine (d3 _).mono ?_ | with_reducible refine (d4 _).mono ?_ | with_reducible refine (d5 _).mono ?_); rintro e w2 ⟨rfl, rfl⟩)
    go_ret
    exact ⟨rfl, hb1⟩
  cases m0
  · skip
    go_wp2_with (go_at_call 31; (first | with_reducible refine (c2 _).mono ?_ | with_reducible refine (d0 _).mono ?_ | with_reducible refine (d1 _).mono ?_ | with_reducible refine (d2 _).mono ?_ | with_reducible refine (d3 _).mono ?_ | with_reducible refine (d4 _).mono ?_ | with_reducible refine (d5 _).mono ?_); rintro e w2 ⟨rfl, rfl⟩)
    go_ret
    exact ⟨by first | rfl | simp, hb1⟩
  cases m1
  · skip
    go_wp2_with (go_at_call 31; (first | with_reducible refine (c2 _).mono ?_ | with_reducible refine (d0 _).mono ?_ | with_reducible refine (d1 _).mono ?_ | with_reducible refine (d2 _).mono ?_ | with_reducible refine (d3 _).mono ?_ | with_reducible refine (d4 _).mono ?_ | with_reducible refine (d5 _).mono ?_); rintro e w2 ⟨rfl, rfl⟩)
    go_ret
    exact ⟨by first | rfl | simp, hb1⟩
  cases m2
  · skip
    go_wp2_with (go_at_call 31; (first | with_reducible refine (c2 _).mono ?_ | with_reducible refine (d0 _).mono ?_ | with_reducible refine (d1 _).mono ?_ | with_reducible refine (d2 _).mono ?_ | with_reducible refine (d3 _).mono ?_ | with_reducible refine (d4 _).mono ?_ | with_reducible refine (d5 _).mono ?_); rintro e w2 ⟨rfl, rfl⟩)
    go_ret
    exact ⟨by first | rfl | simp, hb1⟩
  cases m3
  · skip
    go_wp2_with (go_at_call 31; (first | with_reducible refine (c2 _).mono ?_ | with_reducible refine (d0 _).mono ?_ | with_reducible refine (d1 _).mono ?_ | with_reducible refine (d2 _).mono ?_ | with_reducible refine (d3 _).mono ?_ | with_reducible refine (d4 _).mono ?_ | with_reducible refine (d5 _).mono ?_); rintro e w2 ⟨rfl, rfl⟩)
    go_ret
    exact ⟨by first | rfl | simp, hb1⟩
  cases m4
  · skip
    go_wp2_with (go_at_call 31; (first | with_reducible refine (c2 _).mono ?_ | with_reducible refine (d0 _).mono ?_ | with_reducible refine (d1 _).mono ?_ | with_reducible refine (d2 _).mono ?_ | with_reducible refine (d3 _).mono ?_ | with_reducible refine (d4 _).mono ?_ | with_reducible refine (d5 _).mono ?_); rintro e w2 ⟨rfl, rfl⟩)
    go_ret
    exact ⟨by first | rfl | simp, hb1⟩
  cases m5
  · skip
    go_wp2_with (go_at_call 31; (first | with_reducible refine (c2 _).mono ?_ | with_reducible refine (d0 _).mono ?_ | with_reducible refine (d1 _).mono ?_ | with_reducible refine (d2 _).mono ?_ | with_reducible refine (d3 _).mono ?_ | with_reducible refine (d4 _).mono ?_ | with_reducible refine (d5 _).mono ?_); rintro e w2 ⟨rfl, rfl⟩)
    go_ret
    exact ⟨by first | rfl | simp, hb1⟩
  go_wp2_with (go_at_call 31; (first | with_reducible refine (c2 _).mono ?_ | with_reducible refine (d0 _).mono ?_ | with_reducible refine (d1 _).mono ?_ | with_reducible refine (d2 _).mono ?_ | with_reducible refine (d3 _).mono ?_ | with_reducible refine (d4 _).mono ?_ | with_reducible refine (d5 _).mono ?_); rintro e w2 ⟨rfl, rfl⟩)
  go_ret
  exact ⟨by first | rfl | simp, hb1⟩

set_option maxHeartbeats 2000000 in
theorem mayCount_any (s : Ou.Se) (n k : Int) (w : World) : Calls Try.prog 29 #[vS s, .int .i64 n, .int .i64 k] w fun e w' => e = .returned (.bool (Ou.mayN s n k)) ∧ Below w.heap.size w w' := by
  have c1 := fun W => maySet_any s W
  have c2 := fun v => within_any n 0 32 v
  have c3 := fun v => within_any k 0 n v
  unfold Ou.mayN
  obtain ⟨SW, SM, SL, SB, SX, SP, SC⟩ := s
  unfold vS at *
  dsimp only at *
  generalize Ou.sets ⟨SW, SM, SL, SB, SX, SP, SC⟩ = b1 at *
  generalize Ou.inn n 0 32 = b2 at *
  generalize Ou.inn k 0 n = b3 at *
  have HB : Below w.heap.size w (w.alloc (.cells #[.int .i64 SW, .int .i64 SM, .int .i64 SL, .int .i64 SB, .int .i64 SX, .int .i64 SP, .int .i64 SC] 25)) := (Below.refl _ _).alloc (Nat.le_refl _) _
  cases b1 <;> cases b2
  all_goals
    go_enter Try.func29, Try.ntmps29
    go_wp2_with fail
    with_reducible refine (c1 _).mono ?_
    rintro e w1 ⟨rfl, h1⟩
    have hb1 := Below.step HB h1
    go_wp2_with (go_at_call 33; (first | with_reducible refine (c2 _).mono ?_ | with_reducible refine (c3 _).mono ?_); rintro e w2 ⟨rfl, rfl⟩)
    go_ret
    exact ⟨by first | rfl | simp, hb1⟩
end Go.Proofs.Ytfjcilkllgaimaa
