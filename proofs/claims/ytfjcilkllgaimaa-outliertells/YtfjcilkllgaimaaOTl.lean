/- The statement OutlierTells. -/
import Derived.Test.YtfjcilkllgaimaaRows
import Derived.BigQuiet
import Derived.Deep.QuietTactic
import Derived.WalkKit
import Derived.ProofKit
import Derived.OpenShut
import Derived.ShutString
import Derived.Test.YtfjcilkllgaimaaEL
import Derived.Test.YtfjcilkllgaimaaOpen
namespace Go.Proofs.Ytfjcilkllgaimaa.outlierTells
open Go.ChangeShapes Go.WideShapes Go.ChangeAt Go.RowKit
open Go.ChangeMaps (open_string shut_string)
set_option linter.unusedVariables false
set_option maxRecDepth 20000

set_option maxHeartbeats 4000000 in
theorem walk_v (o : Ou.St) (s : Ou.Se) (t : Int) (v : Value) (l : List Bool) (n k : Int) (A E T : Ou.St) (rp pn : Bool) (ck ee rm ne : Int) (w : World) (hv : GSeg w v l)
    (C0a : ∀ W, GSeg W v l → Calls Try.prog 9 #[vO o, vS s, .int .i64 t, v] W fun e w' => e = .returned (.tuple #[vO A, .int .i64 ck]) ∧ Below W.heap.size W w')
    (C0b : ∀ W, GSeg W v l → Calls Try.prog 10 #[vO o, vS s, .int .i64 t, v] W fun e w' => e = .returned (.tuple #[vO A, .int .i64 ck]) ∧ Below W.heap.size W w')
    (C1a : ∀ W, Calls Try.prog 11 #[vO o, vS s, .int .i64 t] W fun e w' => e = .returned (.tuple #[.bool rp, .int .i64 ck]) ∧ Below W.heap.size W w')
    (C1b : ∀ W, Calls Try.prog 12 #[vO o, vS s, .int .i64 t] W fun e w' => e = .returned (.tuple #[.bool rp, .int .i64 ck]) ∧ Below W.heap.size W w')
    (C2a : ∀ W, Calls Try.prog 13 #[vO o, vS s, .int .i64 t] W fun e w' => e = .returned (.tuple #[vO E, .int .i64 ee]) ∧ Below W.heap.size W w')
    (C2b : ∀ W, Calls Try.prog 14 #[vO o, vS s, .int .i64 t] W fun e w' => e = .returned (.tuple #[vO E, .int .i64 ee]) ∧ Below W.heap.size W w')
    (C3a : ∀ W, Calls Try.prog 15 #[vO o, vS s, .int .i64 t] W fun e w' => e = .returned (.tuple #[vO T, .int .i64 ck]) ∧ Below W.heap.size W w')
    (C3b : ∀ W, Calls Try.prog 16 #[vO o, vS s, .int .i64 t] W fun e w' => e = .returned (.tuple #[vO T, .int .i64 ck]) ∧ Below W.heap.size W w')
    (C4a : ∀ W, Calls Try.prog 18 #[vS s, .int .i64 n, .int .i64 k] W fun e w' => e = .returned (.tuple #[.int .i64 rm, .int .i64 ne]) ∧ Below W.heap.size W w')
    (C4b : ∀ W, Calls Try.prog 19 #[vS s, .int .i64 n, .int .i64 k] W fun e w' => e = .returned (.tuple #[.int .i64 rm, .int .i64 ne]) ∧ Below W.heap.size W w')
    (C5a : ∀ W, Calls Try.prog 20 #[vS s, .int .i64 n, .int .i64 k] W fun e w' => e = .returned (.tuple #[.bool pn, .int .i64 ne]) ∧ Below W.heap.size W w')
    (C5b : ∀ W, Calls Try.prog 21 #[vS s, .int .i64 n, .int .i64 k] W fun e w' => e = .returned (.tuple #[.bool pn, .int .i64 ne]) ∧ Below W.heap.size W w')
    (C6a : ∀ W, Calls Try.prog 22 #[vO o, vS s, .int .i64 t] W fun e w' => e = .returned (.int .i64 ck) ∧ Below W.heap.size W w')
    (C6b : ∀ W, Calls Try.prog 23 #[vO o, vS s, .int .i64 t] W fun e w' => e = .returned (.int .i64 ck) ∧ Below W.heap.size W w')
    (Cal : ∀ W, Calls Try.prog 24 #[] W fun e w' => e = .returned (.bool true) ∧ Below W.heap.size W w') :
    Calls Try.prog 3 #[vO o, vS s, .int .i64 t, v, .int .i64 n, .int .i64 k] w fun e w' => e = .returned (.bool true) ∧ Below w.heap.size w w' := by
  have H0a := hidD C0a
  have H0b := hidD C0b
  have H1a := hidD C1a
  have H1b := hidD C1b
  have H2a := hidD C2a
  have H2b := hidD C2b
  have H3a := hidD C3a
  have H3b := hidD C3b
  have H4a := hidD C4a
  have H4b := hidD C4b
  have H5a := hidD C5a
  have H5b := hidD C5b
  have H6a := hidD C6a
  have H6b := hidD C6b
  have Hal := hidD Cal
  clear C0a C0b C1a C1b C2a C2b C3a C3b C4a C4b C5a C5b C6a C6b Cal
  have HV : Hid (∀ W, Below w.heap.size w W → GSeg W v l) := hidD (fun W h => hv.below h)
  clear hv
  obtain ⟨W0, hW0, X0, X1, HB, HS⟩ := two_boxes w (oL o) (sL s) 23 25
  obtain ⟨N, hN⟩ : ∃ N, N = w.heap.size := ⟨_, rfl⟩
  rw [← hN] at X0 X1 HB HS HV ⊢
  replace HS : N + 2 ≤ W0.heap.size := by omega
  have c := H0a.out W0 (HV.out _ HB)
  replace X0 := hidD X0
  replace X1 := hidD X1
  replace HB := hidD HB
  replace HS := hidD HS
  simp only [oL, sL] at hW0
  go_enter Try.func3, Try.ntmps3
  go_wp2_with fail
  rw [← hN, ← hW0]
  clear hN hW0
  with_reducible refine c.mono ?_
  rintro e a0 ⟨rfl, h⟩
  clear c
  replace X0 := hidD (X0.out.below h)
  replace X1 := hidD (X1.out.below h)
  replace HB := hidD (below_on HB.out (by have := HS.out; omega) h)
  replace HS := hidD (Nat.le_trans HS.out h.size)
  clear h
  have Y0 := hidD (Bo.new a0 [.int .i64 A.r, .int .i64 A.g, .int .i64 A.b, .int .i64 A.n, .int .i64 A.s, .int .i64 A.u, .bool A.o] 23)
  have L0X0 := hidD X0.out.lt
  replace X0 := hidD (X0.out.alloc (.cells #[.int .i64 A.r, .int .i64 A.g, .int .i64 A.b, .int .i64 A.n, .int .i64 A.s, .int .i64 A.u, .bool A.o] 23))
  have L0X1 := hidD X1.out.lt
  replace X1 := hidD (X1.out.alloc (.cells #[.int .i64 A.r, .int .i64 A.g, .int .i64 A.b, .int .i64 A.n, .int .i64 A.s, .int .i64 A.u, .bool A.o] 23))
  have LTX0B0 := L0X0
  clear L0X0
  have LTX1B0 := L0X1
  clear L0X1
  have LB0 := HS
  replace HB := hidD (HB.out.alloc (by have := HS.out; omega) (.cells #[.int .i64 A.r, .int .i64 A.g, .int .i64 A.b, .int .i64 A.n, .int .i64 A.s, .int .i64 A.u, .bool A.o] 23))
  replace HS : Hid (N + 2 ≤ (a0.alloc (.cells #[.int .i64 A.r, .int .i64 A.g, .int .i64 A.b, .int .i64 A.n, .int .i64 A.s, .int .i64 A.u, .bool A.o] 23)).heap.size) := hidD (by rw [World.size_alloc]; have := HS.out; omega)
  go_upto_region 2 with fail
  generalize a0.alloc (.cells #[.int .i64 A.r, .int .i64 A.g, .int .i64 A.b, .int .i64 A.n, .int .i64 A.s, .int .i64 A.u, .bool A.o] 23) = a1 at *
  generalize a0.heap.size = B0 at *
  have p0 := X0.out.cell 0 rfl
  have p1 := X0.out.cell 1 rfl
  have p2 := X0.out.cell 2 rfl
  have p3 := X0.out.cell 3 rfl
  have p4 := X0.out.cell 4 rfl
  have p5 := X0.out.cell 5 rfl
  have p6 := X0.out.cell 6 rfl
  have q0 := X1.out.cell 0 rfl
  have q1 := X1.out.cell 1 rfl
  have q2 := X1.out.cell 2 rfl
  have q3 := X1.out.cell 3 rfl
  have q4 := X1.out.cell 4 rfl
  have q5 := X1.out.cell 5 rfl
  have q6 := X1.out.cell 6 rfl
  have c := H0b.out a1 (HV.out _ HB.out)
  go_wp2_with fail
  with_reducible refine c.mono ?_
  rintro e a2 ⟨rfl, h⟩
  clear c
  clear p0 p1 p2 p3 p4 p5 p6 q0 q1 q2 q3 q4 q5 q6
  replace X0 := hidD (X0.out.below h)
  replace X1 := hidD (X1.out.below h)
  replace Y0 := hidD (Y0.out.below h)
  replace HB := hidD (below_on HB.out (by have := HS.out; omega) h)
  replace HS := hidD (Nat.le_trans HS.out h.size)
  clear h
  have Y1 := hidD (Bo.new a2 [.int .i64 A.r, .int .i64 A.g, .int .i64 A.b, .int .i64 A.n, .int .i64 A.s, .int .i64 A.u, .bool A.o] 23)
  have L0X0 := hidD X0.out.lt
  replace X0 := hidD (X0.out.alloc (.cells #[.int .i64 A.r, .int .i64 A.g, .int .i64 A.b, .int .i64 A.n, .int .i64 A.s, .int .i64 A.u, .bool A.o] 23))
  have L0X1 := hidD X1.out.lt
  replace X1 := hidD (X1.out.alloc (.cells #[.int .i64 A.r, .int .i64 A.g, .int .i64 A.b, .int .i64 A.n, .int .i64 A.s, .int .i64 A.u, .bool A.o] 23))
  have L0Y0 := hidD Y0.out.lt
  replace Y0 := hidD (Y0.out.alloc (.cells #[.int .i64 A.r, .int .i64 A.g, .int .i64 A.b, .int .i64 A.n, .int .i64 A.s, .int .i64 A.u, .bool A.o] 23))
  have LTX0B1 := L0X0
  clear L0X0
  have LTX1B1 := L0X1
  clear L0X1
  have LTY0B1 := L0Y0
  clear L0Y0
  have LB1 := HS
  replace HB := hidD (HB.out.alloc (by have := HS.out; omega) (.cells #[.int .i64 A.r, .int .i64 A.g, .int .i64 A.b, .int .i64 A.n, .int .i64 A.s, .int .i64 A.u, .bool A.o] 23))
  replace HS : Hid (N + 2 ≤ (a2.alloc (.cells #[.int .i64 A.r, .int .i64 A.g, .int .i64 A.b, .int .i64 A.n, .int .i64 A.s, .int .i64 A.u, .bool A.o] 23)).heap.size) := hidD (by rw [World.size_alloc]; have := HS.out; omega)
  go_upto_region 3 with fail
  generalize a2.alloc (.cells #[.int .i64 A.r, .int .i64 A.g, .int .i64 A.b, .int .i64 A.n, .int .i64 A.s, .int .i64 A.u, .bool A.o] 23) = a3 at *
  generalize a2.heap.size = B1 at *
  have p0 := X0.out.cell 0 rfl
  have p1 := X0.out.cell 1 rfl
  have p2 := X0.out.cell 2 rfl
  have p3 := X0.out.cell 3 rfl
  have p4 := X0.out.cell 4 rfl
  have p5 := X0.out.cell 5 rfl
  have p6 := X0.out.cell 6 rfl
  have q0 := X1.out.cell 0 rfl
  have q1 := X1.out.cell 1 rfl
  have q2 := X1.out.cell 2 rfl
  have q3 := X1.out.cell 3 rfl
  have q4 := X1.out.cell 4 rfl
  have q5 := X1.out.cell 5 rfl
  have q6 := X1.out.cell 6 rfl
  have c := H1a.out a3
  go_wp2_with fail
  with_reducible refine c.mono ?_
  rintro e a4 ⟨rfl, h⟩
  clear c
  clear p0 p1 p2 p3 p4 p5 p6 q0 q1 q2 q3 q4 q5 q6
  replace X0 := hidD (X0.out.below h)
  replace X1 := hidD (X1.out.below h)
  replace Y0 := hidD (Y0.out.below h)
  replace Y1 := hidD (Y1.out.below h)
  replace HB := hidD (below_on HB.out (by have := HS.out; omega) h)
  replace HS := hidD (Nat.le_trans HS.out h.size)
  clear h
  go_upto_region 4 with fail
  have p0 := X0.out.cell 0 rfl
  have p1 := X0.out.cell 1 rfl
  have p2 := X0.out.cell 2 rfl
  have p3 := X0.out.cell 3 rfl
  have p4 := X0.out.cell 4 rfl
  have p5 := X0.out.cell 5 rfl
  have p6 := X0.out.cell 6 rfl
  have q0 := X1.out.cell 0 rfl
  have q1 := X1.out.cell 1 rfl
  have q2 := X1.out.cell 2 rfl
  have q3 := X1.out.cell 3 rfl
  have q4 := X1.out.cell 4 rfl
  have q5 := X1.out.cell 5 rfl
  have q6 := X1.out.cell 6 rfl
  have c := H1b.out a4
  go_wp2_with fail
  with_reducible refine c.mono ?_
  rintro e a5 ⟨rfl, h⟩
  clear c
  clear p0 p1 p2 p3 p4 p5 p6 q0 q1 q2 q3 q4 q5 q6
  replace X0 := hidD (X0.out.below h)
  replace X1 := hidD (X1.out.below h)
  replace Y0 := hidD (Y0.out.below h)
  replace Y1 := hidD (Y1.out.below h)
  replace HB := hidD (below_on HB.out (by have := HS.out; omega) h)
  replace HS := hidD (Nat.le_trans HS.out h.size)
  clear h
  go_upto_region 5 with fail
  have p0 := X0.out.cell 0 rfl
  have p1 := X0.out.cell 1 rfl
  have p2 := X0.out.cell 2 rfl
  have p3 := X0.out.cell 3 rfl
  have p4 := X0.out.cell 4 rfl
  have p5 := X0.out.cell 5 rfl
  have p6 := X0.out.cell 6 rfl
  have q0 := X1.out.cell 0 rfl
  have q1 := X1.out.cell 1 rfl
  have q2 := X1.out.cell 2 rfl
  have q3 := X1.out.cell 3 rfl
  have q4 := X1.out.cell 4 rfl
  have q5 := X1.out.cell 5 rfl
  have q6 := X1.out.cell 6 rfl
  have c := H2a.out a5
  go_wp2_with fail
  with_reducible refine c.mono ?_
  rintro e a6 ⟨rfl, h⟩
  clear c
  clear p0 p1 p2 p3 p4 p5 p6 q0 q1 q2 q3 q4 q5 q6
  replace X0 := hidD (X0.out.below h)
  replace X1 := hidD (X1.out.below h)
  replace Y0 := hidD (Y0.out.below h)
  replace Y1 := hidD (Y1.out.below h)
  replace HB := hidD (below_on HB.out (by have := HS.out; omega) h)
  replace HS := hidD (Nat.le_trans HS.out h.size)
  clear h
  have Y2 := hidD (Bo.new a6 [.int .i64 E.r, .int .i64 E.g, .int .i64 E.b, .int .i64 E.n, .int .i64 E.s, .int .i64 E.u, .bool E.o] 23)
  have L0X0 := hidD X0.out.lt
  replace X0 := hidD (X0.out.alloc (.cells #[.int .i64 E.r, .int .i64 E.g, .int .i64 E.b, .int .i64 E.n, .int .i64 E.s, .int .i64 E.u, .bool E.o] 23))
  have L0X1 := hidD X1.out.lt
  replace X1 := hidD (X1.out.alloc (.cells #[.int .i64 E.r, .int .i64 E.g, .int .i64 E.b, .int .i64 E.n, .int .i64 E.s, .int .i64 E.u, .bool E.o] 23))
  have L0Y0 := hidD Y0.out.lt
  replace Y0 := hidD (Y0.out.alloc (.cells #[.int .i64 E.r, .int .i64 E.g, .int .i64 E.b, .int .i64 E.n, .int .i64 E.s, .int .i64 E.u, .bool E.o] 23))
  have L0Y1 := hidD Y1.out.lt
  replace Y1 := hidD (Y1.out.alloc (.cells #[.int .i64 E.r, .int .i64 E.g, .int .i64 E.b, .int .i64 E.n, .int .i64 E.s, .int .i64 E.u, .bool E.o] 23))
  have LTX0B2 := L0X0
  clear L0X0
  have LTX1B2 := L0X1
  clear L0X1
  have LTY0B2 := L0Y0
  clear L0Y0
  have LTY1B2 := L0Y1
  clear L0Y1
  have LB2 := HS
  replace HB := hidD (HB.out.alloc (by have := HS.out; omega) (.cells #[.int .i64 E.r, .int .i64 E.g, .int .i64 E.b, .int .i64 E.n, .int .i64 E.s, .int .i64 E.u, .bool E.o] 23))
  replace HS : Hid (N + 2 ≤ (a6.alloc (.cells #[.int .i64 E.r, .int .i64 E.g, .int .i64 E.b, .int .i64 E.n, .int .i64 E.s, .int .i64 E.u, .bool E.o] 23)).heap.size) := hidD (by rw [World.size_alloc]; have := HS.out; omega)
  go_upto_region 6 with fail
  generalize a6.alloc (.cells #[.int .i64 E.r, .int .i64 E.g, .int .i64 E.b, .int .i64 E.n, .int .i64 E.s, .int .i64 E.u, .bool E.o] 23) = a7 at *
  generalize a6.heap.size = B2 at *
  have p0 := X0.out.cell 0 rfl
  have p1 := X0.out.cell 1 rfl
  have p2 := X0.out.cell 2 rfl
  have p3 := X0.out.cell 3 rfl
  have p4 := X0.out.cell 4 rfl
  have p5 := X0.out.cell 5 rfl
  have p6 := X0.out.cell 6 rfl
  have q0 := X1.out.cell 0 rfl
  have q1 := X1.out.cell 1 rfl
  have q2 := X1.out.cell 2 rfl
  have q3 := X1.out.cell 3 rfl
  have q4 := X1.out.cell 4 rfl
  have q5 := X1.out.cell 5 rfl
  have q6 := X1.out.cell 6 rfl
  have c := H2b.out a7
  go_wp2_with fail
  with_reducible refine c.mono ?_
  rintro e a8 ⟨rfl, h⟩
  clear c
  clear p0 p1 p2 p3 p4 p5 p6 q0 q1 q2 q3 q4 q5 q6
  replace X0 := hidD (X0.out.below h)
  replace X1 := hidD (X1.out.below h)
  replace Y0 := hidD (Y0.out.below h)
  replace Y1 := hidD (Y1.out.below h)
  replace Y2 := hidD (Y2.out.below h)
  replace HB := hidD (below_on HB.out (by have := HS.out; omega) h)
  replace HS := hidD (Nat.le_trans HS.out h.size)
  clear h
  have Y3 := hidD (Bo.new a8 [.int .i64 E.r, .int .i64 E.g, .int .i64 E.b, .int .i64 E.n, .int .i64 E.s, .int .i64 E.u, .bool E.o] 23)
  have L0X0 := hidD X0.out.lt
  replace X0 := hidD (X0.out.alloc (.cells #[.int .i64 E.r, .int .i64 E.g, .int .i64 E.b, .int .i64 E.n, .int .i64 E.s, .int .i64 E.u, .bool E.o] 23))
  have L0X1 := hidD X1.out.lt
  replace X1 := hidD (X1.out.alloc (.cells #[.int .i64 E.r, .int .i64 E.g, .int .i64 E.b, .int .i64 E.n, .int .i64 E.s, .int .i64 E.u, .bool E.o] 23))
  have L0Y0 := hidD Y0.out.lt
  replace Y0 := hidD (Y0.out.alloc (.cells #[.int .i64 E.r, .int .i64 E.g, .int .i64 E.b, .int .i64 E.n, .int .i64 E.s, .int .i64 E.u, .bool E.o] 23))
  have L0Y1 := hidD Y1.out.lt
  replace Y1 := hidD (Y1.out.alloc (.cells #[.int .i64 E.r, .int .i64 E.g, .int .i64 E.b, .int .i64 E.n, .int .i64 E.s, .int .i64 E.u, .bool E.o] 23))
  have L0Y2 := hidD Y2.out.lt
  replace Y2 := hidD (Y2.out.alloc (.cells #[.int .i64 E.r, .int .i64 E.g, .int .i64 E.b, .int .i64 E.n, .int .i64 E.s, .int .i64 E.u, .bool E.o] 23))
  have LTX0B3 := L0X0
  clear L0X0
  have LTX1B3 := L0X1
  clear L0X1
  have LTY0B3 := L0Y0
  clear L0Y0
  have LTY1B3 := L0Y1
  clear L0Y1
  have LTY2B3 := L0Y2
  clear L0Y2
  have LB3 := HS
  replace HB := hidD (HB.out.alloc (by have := HS.out; omega) (.cells #[.int .i64 E.r, .int .i64 E.g, .int .i64 E.b, .int .i64 E.n, .int .i64 E.s, .int .i64 E.u, .bool E.o] 23))
  replace HS : Hid (N + 2 ≤ (a8.alloc (.cells #[.int .i64 E.r, .int .i64 E.g, .int .i64 E.b, .int .i64 E.n, .int .i64 E.s, .int .i64 E.u, .bool E.o] 23)).heap.size) := hidD (by rw [World.size_alloc]; have := HS.out; omega)
  go_upto_region 7 with fail
  generalize a8.alloc (.cells #[.int .i64 E.r, .int .i64 E.g, .int .i64 E.b, .int .i64 E.n, .int .i64 E.s, .int .i64 E.u, .bool E.o] 23) = a9 at *
  generalize a8.heap.size = B3 at *
  have p0 := X0.out.cell 0 rfl
  have p1 := X0.out.cell 1 rfl
  have p2 := X0.out.cell 2 rfl
  have p3 := X0.out.cell 3 rfl
  have p4 := X0.out.cell 4 rfl
  have p5 := X0.out.cell 5 rfl
  have p6 := X0.out.cell 6 rfl
  have q0 := X1.out.cell 0 rfl
  have q1 := X1.out.cell 1 rfl
  have q2 := X1.out.cell 2 rfl
  have q3 := X1.out.cell 3 rfl
  have q4 := X1.out.cell 4 rfl
  have q5 := X1.out.cell 5 rfl
  have q6 := X1.out.cell 6 rfl
  have c := H3a.out a9
  go_wp2_with fail
  with_reducible refine c.mono ?_
  rintro e a10 ⟨rfl, h⟩
  clear c
  clear p0 p1 p2 p3 p4 p5 p6 q0 q1 q2 q3 q4 q5 q6
  replace X0 := hidD (X0.out.below h)
  replace X1 := hidD (X1.out.below h)
  replace Y0 := hidD (Y0.out.below h)
  replace Y1 := hidD (Y1.out.below h)
  replace Y2 := hidD (Y2.out.below h)
  replace Y3 := hidD (Y3.out.below h)
  replace HB := hidD (below_on HB.out (by have := HS.out; omega) h)
  replace HS := hidD (Nat.le_trans HS.out h.size)
  clear h
  have Y4 := hidD (Bo.new a10 [.int .i64 T.r, .int .i64 T.g, .int .i64 T.b, .int .i64 T.n, .int .i64 T.s, .int .i64 T.u, .bool T.o] 23)
  have L0X0 := hidD X0.out.lt
  replace X0 := hidD (X0.out.alloc (.cells #[.int .i64 T.r, .int .i64 T.g, .int .i64 T.b, .int .i64 T.n, .int .i64 T.s, .int .i64 T.u, .bool T.o] 23))
  have L0X1 := hidD X1.out.lt
  replace X1 := hidD (X1.out.alloc (.cells #[.int .i64 T.r, .int .i64 T.g, .int .i64 T.b, .int .i64 T.n, .int .i64 T.s, .int .i64 T.u, .bool T.o] 23))
  have L0Y0 := hidD Y0.out.lt
  replace Y0 := hidD (Y0.out.alloc (.cells #[.int .i64 T.r, .int .i64 T.g, .int .i64 T.b, .int .i64 T.n, .int .i64 T.s, .int .i64 T.u, .bool T.o] 23))
  have L0Y1 := hidD Y1.out.lt
  replace Y1 := hidD (Y1.out.alloc (.cells #[.int .i64 T.r, .int .i64 T.g, .int .i64 T.b, .int .i64 T.n, .int .i64 T.s, .int .i64 T.u, .bool T.o] 23))
  have L0Y2 := hidD Y2.out.lt
  replace Y2 := hidD (Y2.out.alloc (.cells #[.int .i64 T.r, .int .i64 T.g, .int .i64 T.b, .int .i64 T.n, .int .i64 T.s, .int .i64 T.u, .bool T.o] 23))
  have L0Y3 := hidD Y3.out.lt
  replace Y3 := hidD (Y3.out.alloc (.cells #[.int .i64 T.r, .int .i64 T.g, .int .i64 T.b, .int .i64 T.n, .int .i64 T.s, .int .i64 T.u, .bool T.o] 23))
  have LTX0B4 := L0X0
  clear L0X0
  have LTX1B4 := L0X1
  clear L0X1
  have LTY0B4 := L0Y0
  clear L0Y0
  have LTY1B4 := L0Y1
  clear L0Y1
  have LTY2B4 := L0Y2
  clear L0Y2
  have LTY3B4 := L0Y3
  clear L0Y3
  have LB4 := HS
  replace HB := hidD (HB.out.alloc (by have := HS.out; omega) (.cells #[.int .i64 T.r, .int .i64 T.g, .int .i64 T.b, .int .i64 T.n, .int .i64 T.s, .int .i64 T.u, .bool T.o] 23))
  replace HS : Hid (N + 2 ≤ (a10.alloc (.cells #[.int .i64 T.r, .int .i64 T.g, .int .i64 T.b, .int .i64 T.n, .int .i64 T.s, .int .i64 T.u, .bool T.o] 23)).heap.size) := hidD (by rw [World.size_alloc]; have := HS.out; omega)
  go_upto_region 8 with fail
  generalize a10.alloc (.cells #[.int .i64 T.r, .int .i64 T.g, .int .i64 T.b, .int .i64 T.n, .int .i64 T.s, .int .i64 T.u, .bool T.o] 23) = a11 at *
  generalize a10.heap.size = B4 at *
  have p0 := X0.out.cell 0 rfl
  have p1 := X0.out.cell 1 rfl
  have p2 := X0.out.cell 2 rfl
  have p3 := X0.out.cell 3 rfl
  have p4 := X0.out.cell 4 rfl
  have p5 := X0.out.cell 5 rfl
  have p6 := X0.out.cell 6 rfl
  have q0 := X1.out.cell 0 rfl
  have q1 := X1.out.cell 1 rfl
  have q2 := X1.out.cell 2 rfl
  have q3 := X1.out.cell 3 rfl
  have q4 := X1.out.cell 4 rfl
  have q5 := X1.out.cell 5 rfl
  have q6 := X1.out.cell 6 rfl
  have c := H3b.out a11
  go_wp2_with fail
  with_reducible refine c.mono ?_
  rintro e a12 ⟨rfl, h⟩
  clear c
  clear p0 p1 p2 p3 p4 p5 p6 q0 q1 q2 q3 q4 q5 q6
  replace X0 := hidD (X0.out.below h)
  replace X1 := hidD (X1.out.below h)
  replace Y0 := hidD (Y0.out.below h)
  replace Y1 := hidD (Y1.out.below h)
  replace Y2 := hidD (Y2.out.below h)
  replace Y3 := hidD (Y3.out.below h)
  replace Y4 := hidD (Y4.out.below h)
  replace HB := hidD (below_on HB.out (by have := HS.out; omega) h)
  replace HS := hidD (Nat.le_trans HS.out h.size)
  clear h
  have Y5 := hidD (Bo.new a12 [.int .i64 T.r, .int .i64 T.g, .int .i64 T.b, .int .i64 T.n, .int .i64 T.s, .int .i64 T.u, .bool T.o] 23)
  have L0X0 := hidD X0.out.lt
  replace X0 := hidD (X0.out.alloc (.cells #[.int .i64 T.r, .int .i64 T.g, .int .i64 T.b, .int .i64 T.n, .int .i64 T.s, .int .i64 T.u, .bool T.o] 23))
  have L0X1 := hidD X1.out.lt
  replace X1 := hidD (X1.out.alloc (.cells #[.int .i64 T.r, .int .i64 T.g, .int .i64 T.b, .int .i64 T.n, .int .i64 T.s, .int .i64 T.u, .bool T.o] 23))
  have L0Y0 := hidD Y0.out.lt
  replace Y0 := hidD (Y0.out.alloc (.cells #[.int .i64 T.r, .int .i64 T.g, .int .i64 T.b, .int .i64 T.n, .int .i64 T.s, .int .i64 T.u, .bool T.o] 23))
  have L0Y1 := hidD Y1.out.lt
  replace Y1 := hidD (Y1.out.alloc (.cells #[.int .i64 T.r, .int .i64 T.g, .int .i64 T.b, .int .i64 T.n, .int .i64 T.s, .int .i64 T.u, .bool T.o] 23))
  have L0Y2 := hidD Y2.out.lt
  replace Y2 := hidD (Y2.out.alloc (.cells #[.int .i64 T.r, .int .i64 T.g, .int .i64 T.b, .int .i64 T.n, .int .i64 T.s, .int .i64 T.u, .bool T.o] 23))
  have L0Y3 := hidD Y3.out.lt
  replace Y3 := hidD (Y3.out.alloc (.cells #[.int .i64 T.r, .int .i64 T.g, .int .i64 T.b, .int .i64 T.n, .int .i64 T.s, .int .i64 T.u, .bool T.o] 23))
  have L0Y4 := hidD Y4.out.lt
  replace Y4 := hidD (Y4.out.alloc (.cells #[.int .i64 T.r, .int .i64 T.g, .int .i64 T.b, .int .i64 T.n, .int .i64 T.s, .int .i64 T.u, .bool T.o] 23))
  have LTX0B5 := L0X0
  clear L0X0
  have LTX1B5 := L0X1
  clear L0X1
  have LTY0B5 := L0Y0
  clear L0Y0
  have LTY1B5 := L0Y1
  clear L0Y1
  have LTY2B5 := L0Y2
  clear L0Y2
  have LTY3B5 := L0Y3
  clear L0Y3
  have LTY4B5 := L0Y4
  clear L0Y4
  have LB5 := HS
  replace HB := hidD (HB.out.alloc (by have := HS.out; omega) (.cells #[.int .i64 T.r, .int .i64 T.g, .int .i64 T.b, .int .i64 T.n, .int .i64 T.s, .int .i64 T.u, .bool T.o] 23))
  replace HS : Hid (N + 2 ≤ (a12.alloc (.cells #[.int .i64 T.r, .int .i64 T.g, .int .i64 T.b, .int .i64 T.n, .int .i64 T.s, .int .i64 T.u, .bool T.o] 23)).heap.size) := hidD (by rw [World.size_alloc]; have := HS.out; omega)
  go_upto_region 9 with fail
  generalize a12.alloc (.cells #[.int .i64 T.r, .int .i64 T.g, .int .i64 T.b, .int .i64 T.n, .int .i64 T.s, .int .i64 T.u, .bool T.o] 23) = a13 at *
  generalize a12.heap.size = B5 at *
  have a0 := Y0.out.cell 0 rfl
  have a1 := Y0.out.cell 1 rfl
  have a2 := Y0.out.cell 2 rfl
  have a3 := Y0.out.cell 3 rfl
  have a4 := Y0.out.cell 4 rfl
  have a5 := Y0.out.cell 5 rfl
  have a6 := Y0.out.cell 6 rfl
  have b0 := Y1.out.cell 0 rfl
  have b1 := Y1.out.cell 1 rfl
  have b2 := Y1.out.cell 2 rfl
  have b3 := Y1.out.cell 3 rfl
  have b4 := Y1.out.cell 4 rfl
  have b5 := Y1.out.cell 5 rfl
  have b6 := Y1.out.cell 6 rfl
  have c0 := Y2.out.cell 0 rfl
  have c1 := Y2.out.cell 1 rfl
  have c2 := Y2.out.cell 2 rfl
  have c3 := Y2.out.cell 3 rfl
  have c4 := Y2.out.cell 4 rfl
  have c5 := Y2.out.cell 5 rfl
  have c6 := Y2.out.cell 6 rfl
  have d0 := Y3.out.cell 0 rfl
  have d1 := Y3.out.cell 1 rfl
  have d2 := Y3.out.cell 2 rfl
  have d3 := Y3.out.cell 3 rfl
  have d4 := Y3.out.cell 4 rfl
  have d5 := Y3.out.cell 5 rfl
  have d6 := Y3.out.cell 6 rfl
  have f0 := Y4.out.cell 0 rfl
  have f1 := Y4.out.cell 1 rfl
  have f2 := Y4.out.cell 2 rfl
  have f3 := Y4.out.cell 3 rfl
  have f4 := Y4.out.cell 4 rfl
  have f5 := Y4.out.cell 5 rfl
  have f6 := Y4.out.cell 6 rfl
  have g0 := Y5.out.cell 0 rfl
  have g1 := Y5.out.cell 1 rfl
  have g2 := Y5.out.cell 2 rfl
  have g3 := Y5.out.cell 3 rfl
  have g4 := Y5.out.cell 4 rfl
  have g5 := Y5.out.cell 5 rfl
  have g6 := Y5.out.cell 6 rfl
  have n1 : (rp != rp) = false := by simp
  have n2 : (ck != ck) = false := by simp
  have n3 : (ee != ee) = false := by simp
  go_upto_region 11 with (go_at_call 17; refine (num_any _ _).mono ?_; rintro e ww ⟨rfl, rfl⟩)
  clear a0 a1 a2 a3 a4 a5 a6 b0 b1 b2 b3 b4 b5 b6 c0 c1 c2 c3 c4 c5 c6 d0 d1 d2 d3 d4 d5 d6 f0 f1 f2 f3 f4 f5 f6 g0 g1 g2 g3 g4 g5 g6
  clear Y0 Y1 Y2 Y3 Y4 Y5 n1 n2 n3
  have p0 := X0.out.cell 0 rfl
  have p1 := X0.out.cell 1 rfl
  have p2 := X0.out.cell 2 rfl
  have p3 := X0.out.cell 3 rfl
  have p4 := X0.out.cell 4 rfl
  have p5 := X0.out.cell 5 rfl
  have p6 := X0.out.cell 6 rfl
  have q0 := X1.out.cell 0 rfl
  have q1 := X1.out.cell 1 rfl
  have q2 := X1.out.cell 2 rfl
  have q3 := X1.out.cell 3 rfl
  have q4 := X1.out.cell 4 rfl
  have q5 := X1.out.cell 5 rfl
  have q6 := X1.out.cell 6 rfl
  have c := H4a.out a13
  go_wp2_with fail
  with_reducible refine c.mono ?_
  rintro e a14 ⟨rfl, h⟩
  clear c
  clear p0 p1 p2 p3 p4 p5 p6 q0 q1 q2 q3 q4 q5 q6
  replace X0 := hidD (X0.out.below h)
  replace X1 := hidD (X1.out.below h)
  replace HB := hidD (below_on HB.out (by have := HS.out; omega) h)
  replace HS := hidD (Nat.le_trans HS.out h.size)
  clear h
  go_upto_region 12 with fail
  have p0 := X0.out.cell 0 rfl
  have p1 := X0.out.cell 1 rfl
  have p2 := X0.out.cell 2 rfl
  have p3 := X0.out.cell 3 rfl
  have p4 := X0.out.cell 4 rfl
  have p5 := X0.out.cell 5 rfl
  have p6 := X0.out.cell 6 rfl
  have q0 := X1.out.cell 0 rfl
  have q1 := X1.out.cell 1 rfl
  have q2 := X1.out.cell 2 rfl
  have q3 := X1.out.cell 3 rfl
  have q4 := X1.out.cell 4 rfl
  have q5 := X1.out.cell 5 rfl
  have q6 := X1.out.cell 6 rfl
  have c := H4b.out a14
  go_wp2_with fail
  with_reducible refine c.mono ?_
  rintro e a15 ⟨rfl, h⟩
  clear c
  clear p0 p1 p2 p3 p4 p5 p6 q0 q1 q2 q3 q4 q5 q6
  replace X0 := hidD (X0.out.below h)
  replace X1 := hidD (X1.out.below h)
  replace HB := hidD (below_on HB.out (by have := HS.out; omega) h)
  replace HS := hidD (Nat.le_trans HS.out h.size)
  clear h
  go_upto_region 13 with fail
  have p0 := X0.out.cell 0 rfl
  have p1 := X0.out.cell 1 rfl
  have p2 := X0.out.cell 2 rfl
  have p3 := X0.out.cell 3 rfl
  have p4 := X0.out.cell 4 rfl
  have p5 := X0.out.cell 5 rfl
  have p6 := X0.out.cell 6 rfl
  have q0 := X1.out.cell 0 rfl
  have q1 := X1.out.cell 1 rfl
  have q2 := X1.out.cell 2 rfl
  have q3 := X1.out.cell 3 rfl
  have q4 := X1.out.cell 4 rfl
  have q5 := X1.out.cell 5 rfl
  have q6 := X1.out.cell 6 rfl
  have c := H5a.out a15
  go_wp2_with fail
  with_reducible refine c.mono ?_
  rintro e a16 ⟨rfl, h⟩
  clear c
  clear p0 p1 p2 p3 p4 p5 p6 q0 q1 q2 q3 q4 q5 q6
  replace X0 := hidD (X0.out.below h)
  replace X1 := hidD (X1.out.below h)
  replace HB := hidD (below_on HB.out (by have := HS.out; omega) h)
  replace HS := hidD (Nat.le_trans HS.out h.size)
  clear h
  go_upto_region 14 with fail
  have p0 := X0.out.cell 0 rfl
  have p1 := X0.out.cell 1 rfl
  have p2 := X0.out.cell 2 rfl
  have p3 := X0.out.cell 3 rfl
  have p4 := X0.out.cell 4 rfl
  have p5 := X0.out.cell 5 rfl
  have p6 := X0.out.cell 6 rfl
  have q0 := X1.out.cell 0 rfl
  have q1 := X1.out.cell 1 rfl
  have q2 := X1.out.cell 2 rfl
  have q3 := X1.out.cell 3 rfl
  have q4 := X1.out.cell 4 rfl
  have q5 := X1.out.cell 5 rfl
  have q6 := X1.out.cell 6 rfl
  have c := H5b.out a16
  go_wp2_with fail
  with_reducible refine c.mono ?_
  rintro e a17 ⟨rfl, h⟩
  clear c
  clear p0 p1 p2 p3 p4 p5 p6 q0 q1 q2 q3 q4 q5 q6
  replace X0 := hidD (X0.out.below h)
  replace X1 := hidD (X1.out.below h)
  replace HB := hidD (below_on HB.out (by have := HS.out; omega) h)
  replace HS := hidD (Nat.le_trans HS.out h.size)
  clear h
  go_upto_region 15 with fail
  have p0 := X0.out.cell 0 rfl
  have p1 := X0.out.cell 1 rfl
  have p2 := X0.out.cell 2 rfl
  have p3 := X0.out.cell 3 rfl
  have p4 := X0.out.cell 4 rfl
  have p5 := X0.out.cell 5 rfl
  have p6 := X0.out.cell 6 rfl
  have q0 := X1.out.cell 0 rfl
  have q1 := X1.out.cell 1 rfl
  have q2 := X1.out.cell 2 rfl
  have q3 := X1.out.cell 3 rfl
  have q4 := X1.out.cell 4 rfl
  have q5 := X1.out.cell 5 rfl
  have q6 := X1.out.cell 6 rfl
  have k1 : (ck == ck) = true := by simp
  have k2 : (rm == rm) = true := by simp
  have k3 : (ne == ne) = true := by simp
  have k4 : (pn == pn) = true := by simp
  have HBB := HB.out
  have hss : N ≤ _ := Nat.le_trans (Nat.le_add_right N 2) HS.out
  clear HB HS X0 X1
  go_region_held (fun w' => w'.cell? ⟨N, 0, none⟩ = some (.int .i64 o.r) ∧ w'.cell? ⟨N, 1, none⟩ = some (.int .i64 o.g) ∧ w'.cell? ⟨N, 2, none⟩ = some (.int .i64 o.b) ∧ w'.cell? ⟨N, 3, none⟩ = some (.int .i64 o.n) ∧ w'.cell? ⟨N, 4, none⟩ = some (.int .i64 o.s) ∧ w'.cell? ⟨N, 5, none⟩ = some (.int .i64 o.u) ∧ w'.cell? ⟨N, 6, none⟩ = some (.bool o.o) ∧ w'.cell? ⟨N + 1, 0, none⟩ = some (.int .i64 s.w) ∧ w'.cell? ⟨N + 1, 1, none⟩ = some (.int .i64 s.m) ∧ w'.cell? ⟨N + 1, 2, none⟩ = some (.int .i64 s.l) ∧ w'.cell? ⟨N + 1, 3, none⟩ = some (.int .i64 s.b) ∧ w'.cell? ⟨N + 1, 4, none⟩ = some (.int .i64 s.x) ∧ w'.cell? ⟨N + 1, 5, none⟩ = some (.int .i64 s.p) ∧ w'.cell? ⟨N + 1, 6, none⟩ = some (.int .i64 s.c) ∧ Below N w w' ∧ N ≤ w'.heap.size) (first | exact keep14 (by assumption) (by assumption) | exact keep14d ⟨p0, p1, p2, p3, p4, p5, p6, q0, q1, q2, q3, q4, q5, q6, HBB, hss⟩ | assumption) (first | (go_at_call 22; refine (H6a.out _).mono ?_; rintro e ww ⟨rfl, hww⟩) | (go_at_call 23; refine (H6b.out _).mono ?_; rintro e ww ⟨rfl, hww⟩) | (go_at_call 24; refine (Hal.out _).mono ?_; rintro e ww ⟨rfl, hww⟩) | (go_at_call 17; refine (num_any _ _).mono ?_; rintro e ww ⟨rfl, rfl⟩))
  all_goals
    go_wp2
    go_ret
    exact ⟨rfl, keep14b (by assumption)⟩

theorem walk (o : Ou.St) (s : Ou.Se) (t : Int) (wt : (Lit.int .i64 t).wf = true) (v : Value) (l : List Bool) {w : World} (hv : GSeg w v l) (n : Int) (wn : (Lit.int .i64 n).wf = true) (k : Int) (wk : (Lit.int .i64 k).wf = true) :
    Calls Try.prog 3 #[vO o, vS s, .int .i64 t, v, .int .i64 n, .int .i64 k] w fun e w' => e = .returned (.bool true) ∧ Below w.heap.size w w' :=
  walk_v o s t v l n k _ _ _ _ _ _ _ _ _ w hv (fun W h => orecord_any o s t v l W h) (fun W h => rrecord_any o s t v l W h) (fun W => oripe_any o s t W) (fun W => rripe_any o s t W) (fun W => oeject_any o s t W) (fun W => reject_any o s t W) (fun W => otick_any o s t W) (fun W => rtick_any o s t W) (fun W => oroom_any s n k W) (fun W => rroom_any s n k W) (fun W => opan_any s n k W) (fun W => rpan_any s n k W) (fun W => ocheck_any o s t W) (fun W => rcheck_any o s t W) (fun W => oalive_any W)

set_option maxRecDepth 100000 in
theorem lifted (os : Os) (started : os.Started) (H : Type) (enc : TypeId × Value → H) :
    ReturnsInHanded {} Try.checked os 3 .any (Rows.outlierTellsSpec.pre6 enc Try.prog Try.f3 Rows.outlierTellsRow.domain false) (Rows.outlierTellsSpec.post enc Try.prog Try.f3 false true false false) := by
  refine returnsInHanded_of_change (C := Try.checked) own started (by kernel_rfl) Try.func3
    (ChangeSpec.witness6 (enc := enc) (C := Try.checked) false ⟨#[], #[.agg #[.int .i64 0, .int .i64 0, .int .i64 0, .int .i64 0, .int .i64 0, .int .i64 0, .bool false], .agg #[.int .i64 0, .int .i64 0, .int .i64 0, .int .i64 0, .int .i64 0, .int .i64 0, .int .i64 0], .int .i64 0, .slice none 0 0, .int .i64 0, .int .i64 0], []⟩ 8 (by kernel_rfl) (by kernel_rfl) (by kernel_rfl) (by kernel_rfl)) ?_
  intro W base args ds gs before hval0 hW hcnd _
  have hval : ∀ (j : Nat) t v, Try.f3.params[j]? = some t → args[j]? = some v → Value.okWide Try.prog W .any base t v := hval0
  have hW' := hW
  obtain ⟨p, q, hA0, hV, rfl, hfz, hnd⟩ := hW
  have hA : DataW.TrodAll enc Try.prog W 0 (fun _ => true) true Try.f3.params.toList args.toList ds p := hA0
  rw [Try.params3] at hA hval
  obtain ⟨v0, vs0, d0, ds0, p0, q0, hargs, rfl, rfl, h0, r0⟩ := trodAll_cons hA
  obtain ⟨v1, vs1, d1, ds1, p1, q1, rfl, rfl, rfl, h1, r1⟩ := trodAll_cons r0
  obtain ⟨v2, vs2, d2, ds2, p2, q2, rfl, rfl, rfl, h2, r2⟩ := trodAll_cons r1
  obtain ⟨v3, vs3, d3, ds3, p3, q3, rfl, rfl, rfl, h3, r3⟩ := trodAll_cons r2
  obtain ⟨v4, vs4, d4, ds4, p4, q4, rfl, rfl, rfl, h4, r4⟩ := trodAll_cons r3
  obtain ⟨v5, vs5, d5, ds5, p5, q5, rfl, rfl, rfl, h5, r5⟩ := trodAll_cons r4
  obtain ⟨rfl, rfl, rfl⟩ := trodAll_nil r5
  obtain rfl : args = #[v0, v1, v2, v3, v4, v5] := by cases args; simp_all
  obtain ⟨rfl, rfl⟩ := trodVars_none hV
  have k0 := h0
  have lt0 : ∀ x ∈ p0, x.block < W.heap.size := by obtain ⟨m, hm⟩ := k0; exact DataW.trod_lt m _ _ _ hm
  obtain ⟨x0, hv0⟩ := open_outlier (hval 0 23 v0 rfl rfl) h0
  subst hv0
  have k1 := h1
  have lt1 : ∀ x ∈ p1, x.block < W.heap.size := by obtain ⟨m, hm⟩ := k1; exact DataW.trod_lt m _ _ _ hm
  obtain ⟨x1, hv1⟩ := open_oset (hval 1 25 v1 rfl rfl) h1
  subst hv1
  obtain ⟨a2, rfl, rfl, rfl, w2⟩ := open_int Try.underlying3 (hval 2 3 v2 rfl rfl) h2
  have k3 := h3
  have lt3 : ∀ x ∈ p3, x.block < W.heap.size := by obtain ⟨m, hm⟩ := k3; exact DataW.trod_lt m _ _ _ hm
  obtain ⟨l3, hs3, e3⟩ := open_bools (hval 3 26 v3 rfl rfl) h3
  obtain ⟨a4, rfl, rfl, rfl, w4⟩ := open_int Try.underlying3 (hval 4 3 v4 rfl rfl) h4
  obtain ⟨a5, rfl, rfl, rfl, w5⟩ := open_int Try.underlying3 (hval 5 3 v5 rfl rfl) h5
  clear hA0 hval0
  refine (walk x0 x1 a2 w2 v3 l3 hs3 a4 w4 a5 w5).mono fun e W' ⟨he, bel⟩ => ?_
  subst he
  exact ⟨_, rfl, _, _, _, [], _, [], hW', trodAll_mk1 (shut_bool Try.underlying4 _), (trodAll_cons_mk (Below.trod laidOut (by kernel_rfl) (of_decide_eq_true (by kernel_rfl)) k0 bel lt0) (trodAll_cons_mk (Below.trod laidOut (by kernel_rfl) (of_decide_eq_true (by kernel_rfl)) k1 bel lt1) (trodAll_cons_mk (shut_int Try.underlying3 w2) (trodAll_cons_mk (Below.trod laidOut (by kernel_rfl) (of_decide_eq_true (by kernel_rfl)) k3 bel lt3) (trodAll_cons_mk (shut_int Try.underlying3 w4) (trodAll_cons_mk (shut_int Try.underlying3 w5) trodAll_mk0)))))), rfl, bel.frame _, fun h => by cases h⟩

theorem over : Rows.outlierTellsRow.holds Try.pinned (OpenSpec.ofChange Rows.outlierTellsSpec) :=
  OpenClaim.holds_of_wide 3 Try.f3 rfl rfl rfl rfl rfl rfl rfl ⟨rfl, rfl, rfl, rfl, rfl⟩ rfl rfl rfl rfl rfl (by kernel_rfl) Try.func3 (by kernel_rfl)
    (of_decide_eq_true (by kernel_rfl)) (by unfold Func.isWrapper; first | (rw [if_pos (by decide +kernel)]; kernel_rfl) | (rw [if_neg (by decide +kernel)]; exact ⟨rfl, rfl⟩))
    (fun os started H enc _ => lifted os started H enc)
end Go.Proofs.Ytfjcilkllgaimaa.outlierTells

namespace Go.Proofs.Ytfjcilkllgaimaa
/-- THE STATEMENT. -/
theorem outlierTells_holds : Rows.OutlierTellsSaid := outlierTells.over
#print axioms outlierTells_holds
end Go.Proofs.Ytfjcilkllgaimaa
