/- The statement OutlierSame. -/
import Derived.Test.YtfjcilkllgaimaaRows
import Derived.BigQuiet
import Derived.Deep.QuietTactic
import Derived.WalkKit
import Derived.ProofKit
import Derived.OpenShut
import Derived.ShutString
import Derived.Test.YtfjcilkllgaimaaEI
import Derived.Test.YtfjcilkllgaimaaOpenO
import Derived.Test.YtfjcilkllgaimaaOpen
namespace Go.Proofs.Ytfjcilkllgaimaa.outlierSame
open Go.ChangeShapes Go.WideShapes Go.ChangeAt Go.RowKit
open Go.ChangeMaps (open_string shut_string)
set_option linter.unusedVariables false
set_option maxRecDepth 20000

set_option maxHeartbeats 4000000 in
theorem walk (o : Ou.St) (s : Ou.Se) (t : Int) (wt : (Lit.int .i64 t).wf = true) {w : World} :
    Calls Try.prog 8 #[vO o, vS s, .int .i64 t] w fun e w' => e = .returned (.bool true) ∧ Below w.heap.size w w' := by
  have c1 := hidD (fun W => otick_any o s t W)
  have c2 := hidD (fun W => oeject_any o s t W)
  have c3 := hidD (fun W => oripe_any o s t W)
  have HB0 : Hid (¬ Ou.chk o s t = 0 → Ou.tickR o s t = ⟨0, 0, 0, 0, 0, 0, false⟩) := hidD (fun h => if_neg h)
  have HT : Hid (Ou.chk o s t = 0 → Ou.tickR o s t = Ou.wake o t) := hidD (fun h => if_pos h)
  have HE1 : Hid (Ou.chk o s t = 0 → Ou.ejE o s t = if o.o = true then 9 else 0) := hidD (fun h => if_pos h)
  have HR : Hid (Ou.chk o s t = 0 → Ou.ripeR o s t = (!o.o && (Ou.row o s || Ou.share o s))) := hidD (fun h => if_pos h)
  unfold Ou.wake at HT
  obtain ⟨W0, hW0, X0, X1, HB, HS⟩ := two_boxes w (oL o) (sL s) 23 25
  obtain ⟨N, hN⟩ : ∃ N, N = w.heap.size := ⟨_, rfl⟩
  rw [← hN] at X0 X1 HB HS ⊢
  replace HS : N + 2 ≤ W0.heap.size := by omega
  replace X0 := hidD X0
  replace X1 := hidD X1
  replace HB := hidD HB
  replace HS := hidD HS
  simp only [oL, sL] at hW0
  go_enter Try.func8, Try.ntmps8
  go_wp2_with fail
  rw [← hN, ← hW0]
  clear hN hW0
  with_reducible refine (oalive_any W0).mono ?_
  rintro e v0 ⟨rfl, h⟩
  replace X0 := hidD (X0.out.below h)
  replace X1 := hidD (X1.out.below h)
  replace HB := hidD (below_on HB.out (by have := HS.out; omega) h)
  replace HS := hidD (Nat.le_trans HS.out h.size)
  clear h
  generalize Ou.tickR o s t = x at *
  generalize Ou.ejR o s t = y at *
  generalize Ou.ejE o s t = ye at *
  generalize Ou.ripeR o s t = rp at *
  generalize (Ou.row o s || Ou.share o s) = rs at *
  generalize Ou.chk o s t = k at *
  obtain ⟨R, G, BD, NN, S0, U, Q⟩ := o
  dsimp only at *
  by_cases hk : k = 0
  · skip
    subst hk
    have hx := HT.out rfl
    have he := HE1.out rfl
    have hr := HR.out rfl
    clear HB0 HT HE1 HR
    cases Q
    · skip
      replace hx : x = ⟨R, G, BD, NN, S0, U, false⟩ := by rw [hx]; split <;> rfl
      replace he : ye = 0 := by rw [he]; rfl
      subst hx he
      clear hr
      have p0 := X0.out.cell 0 rfl
      have p1 := X0.out.cell 1 rfl
      have p2 := X0.out.cell 2 rfl
      have p3 := X0.out.cell 3 rfl
      have p4 := X0.out.cell 4 rfl
      have p5 := X0.out.cell 5 rfl
      have p6 := X0.out.cell 6 rfl
      have q0 := X1.out.cell 0 rfl
      have q1 := X1.out.cell 1 rfl
      have q2 := X1.out.cell 2 rfl
      have q3 := X1.out.cell 3 rfl
      have q4 := X1.out.cell 4 rfl
      have q5 := X1.out.cell 5 rfl
      have q6 := X1.out.cell 6 rfl
      have c := c1.out v0
      go_wp2_with fail
      with_reducible refine c.mono ?_
      rintro e v1 ⟨rfl, h⟩
      clear c
      clear p0 p1 p2 p3 p4 p5 p6 q0 q1 q2 q3 q4 q5 q6
      replace X0 := hidD (X0.out.below h)
      replace X1 := hidD (X1.out.below h)
      replace HB := hidD (below_on HB.out (by have := HS.out; omega) h)
      replace HS := hidD (Nat.le_trans HS.out h.size)
      clear h
      have X7 := hidD (Bo.new v1 [.int .i64 R, .int .i64 G, .int .i64 BD, .int .i64 NN, .int .i64 S0, .int .i64 U, .bool false] 23)
      have L0X0 := hidD X0.out.lt
      replace X0 := hidD (X0.out.alloc (.cells #[.int .i64 R, .int .i64 G, .int .i64 BD, .int .i64 NN, .int .i64 S0, .int .i64 U, .bool false] 23))
      have L0X1 := hidD X1.out.lt
      replace X1 := hidD (X1.out.alloc (.cells #[.int .i64 R, .int .i64 G, .int .i64 BD, .int .i64 NN, .int .i64 S0, .int .i64 U, .bool false] 23))
      have LTX0A := L0X0
      clear L0X0
      have LTX1A := L0X1
      clear L0X1
      have LA := HS
      replace HB := hidD (HB.out.alloc (by have := HS.out; omega) (.cells #[.int .i64 R, .int .i64 G, .int .i64 BD, .int .i64 NN, .int .i64 S0, .int .i64 U, .bool false] 23))
      replace HS : Hid (N + 2 ≤ (v1.alloc (.cells #[.int .i64 R, .int .i64 G, .int .i64 BD, .int .i64 NN, .int .i64 S0, .int .i64 U, .bool false] 23)).heap.size) := hidD (by rw [World.size_alloc]; have := HS.out; omega)
      go_upto_region 4 with fail
      generalize v1.alloc (.cells #[.int .i64 R, .int .i64 G, .int .i64 BD, .int .i64 NN, .int .i64 S0, .int .i64 U, .bool false] 23) = v2 at *
      generalize v1.heap.size = A at *
      have p0 := X0.out.cell 0 rfl
      have p1 := X0.out.cell 1 rfl
      have p2 := X0.out.cell 2 rfl
      have p3 := X0.out.cell 3 rfl
      have p4 := X0.out.cell 4 rfl
      have p5 := X0.out.cell 5 rfl
      have p6 := X0.out.cell 6 rfl
      have q0 := X1.out.cell 0 rfl
      have q1 := X1.out.cell 1 rfl
      have q2 := X1.out.cell 2 rfl
      have q3 := X1.out.cell 3 rfl
      have q4 := X1.out.cell 4 rfl
      have q5 := X1.out.cell 5 rfl
      have q6 := X1.out.cell 6 rfl
      have d0 := X7.out.cell 0 rfl
      have d1 := X7.out.cell 1 rfl
      have d2 := X7.out.cell 2 rfl
      have d3 := X7.out.cell 3 rfl
      have d4 := X7.out.cell 4 rfl
      have d5 := X7.out.cell 5 rfl
      have d6 := X7.out.cell 6 rfl
      have c := c2.out v2
      go_wp2_with (go_at_call 17; refine (num_any _ _).mono ?_; rintro e ww ⟨rfl, rfl⟩)
      with_reducible refine c.mono ?_
      rintro e v3 ⟨rfl, h⟩
      clear c
      clear p0 p1 p2 p3 p4 p5 p6 q0 q1 q2 q3 q4 q5 q6 d0 d1 d2 d3 d4 d5 d6
      replace X0 := hidD (X0.out.below h)
      replace X1 := hidD (X1.out.below h)
      replace X7 := hidD (X7.out.below h)
      replace HB := hidD (below_on HB.out (by have := HS.out; omega) h)
      replace HS := hidD (Nat.le_trans HS.out h.size)
      clear h
      have X9 := hidD (Bo.new v3 [.int .i64 y.r, .int .i64 y.g, .int .i64 y.b, .int .i64 y.n, .int .i64 y.s, .int .i64 y.u, .bool y.o] 23)
      have L0X0 := hidD X0.out.lt
      replace X0 := hidD (X0.out.alloc (.cells #[.int .i64 y.r, .int .i64 y.g, .int .i64 y.b, .int .i64 y.n, .int .i64 y.s, .int .i64 y.u, .bool y.o] 23))
      have L0X1 := hidD X1.out.lt
      replace X1 := hidD (X1.out.alloc (.cells #[.int .i64 y.r, .int .i64 y.g, .int .i64 y.b, .int .i64 y.n, .int .i64 y.s, .int .i64 y.u, .bool y.o] 23))
      have L0X7 := hidD X7.out.lt
      replace X7 := hidD (X7.out.alloc (.cells #[.int .i64 y.r, .int .i64 y.g, .int .i64 y.b, .int .i64 y.n, .int .i64 y.s, .int .i64 y.u, .bool y.o] 23))
      have LTX0A2 := L0X0
      clear L0X0
      have LTX1A2 := L0X1
      clear L0X1
      have LTX7A2 := L0X7
      clear L0X7
      have LA2 := HS
      replace HB := hidD (HB.out.alloc (by have := HS.out; omega) (.cells #[.int .i64 y.r, .int .i64 y.g, .int .i64 y.b, .int .i64 y.n, .int .i64 y.s, .int .i64 y.u, .bool y.o] 23))
      replace HS : Hid (N + 2 ≤ (v3.alloc (.cells #[.int .i64 y.r, .int .i64 y.g, .int .i64 y.b, .int .i64 y.n, .int .i64 y.s, .int .i64 y.u, .bool y.o] 23)).heap.size) := hidD (by rw [World.size_alloc]; have := HS.out; omega)
      go_upto_region 7 with fail
      generalize v3.alloc (.cells #[.int .i64 y.r, .int .i64 y.g, .int .i64 y.b, .int .i64 y.n, .int .i64 y.s, .int .i64 y.u, .bool y.o] 23) = v4 at *
      generalize v3.heap.size = A2 at *
      have p0 := X0.out.cell 0 rfl
      have p1 := X0.out.cell 1 rfl
      have p2 := X0.out.cell 2 rfl
      have p3 := X0.out.cell 3 rfl
      have p4 := X0.out.cell 4 rfl
      have p5 := X0.out.cell 5 rfl
      have p6 := X0.out.cell 6 rfl
      have q0 := X1.out.cell 0 rfl
      have q1 := X1.out.cell 1 rfl
      have q2 := X1.out.cell 2 rfl
      have q3 := X1.out.cell 3 rfl
      have q4 := X1.out.cell 4 rfl
      have q5 := X1.out.cell 5 rfl
      have q6 := X1.out.cell 6 rfl
      have d0 := X7.out.cell 0 rfl
      have d1 := X7.out.cell 1 rfl
      have d2 := X7.out.cell 2 rfl
      have d3 := X7.out.cell 3 rfl
      have d4 := X7.out.cell 4 rfl
      have d5 := X7.out.cell 5 rfl
      have d6 := X7.out.cell 6 rfl
      have f0 := X9.out.cell 0 rfl
      have f1 := X9.out.cell 1 rfl
      have f2 := X9.out.cell 2 rfl
      have f3 := X9.out.cell 3 rfl
      have f4 := X9.out.cell 4 rfl
      have f5 := X9.out.cell 5 rfl
      have f6 := X9.out.cell 6 rfl
      have c := c3.out v4
      go_wp2_with fail
      with_reducible refine c.mono ?_
      rintro e v5 ⟨rfl, h⟩
      clear c
      clear p0 p1 p2 p3 p4 p5 p6 q0 q1 q2 q3 q4 q5 q6 d0 d1 d2 d3 d4 d5 d6 f0 f1 f2 f3 f4 f5 f6
      replace X0 := hidD (X0.out.below h)
      replace X1 := hidD (X1.out.below h)
      replace X7 := hidD (X7.out.below h)
      replace X9 := hidD (X9.out.below h)
      replace HB := hidD (below_on HB.out (by have := HS.out; omega) h)
      replace HS := hidD (Nat.le_trans HS.out h.size)
      clear h
      have p0 := X0.out.cell 0 rfl
      have p1 := X0.out.cell 1 rfl
      have p2 := X0.out.cell 2 rfl
      have p3 := X0.out.cell 3 rfl
      have p4 := X0.out.cell 4 rfl
      have p5 := X0.out.cell 5 rfl
      have p6 := X0.out.cell 6 rfl
      have q0 := X1.out.cell 0 rfl
      have q1 := X1.out.cell 1 rfl
      have q2 := X1.out.cell 2 rfl
      have q3 := X1.out.cell 3 rfl
      have q4 := X1.out.cell 4 rfl
      have q5 := X1.out.cell 5 rfl
      have q6 := X1.out.cell 6 rfl
      have d0 := X7.out.cell 0 rfl
      have d1 := X7.out.cell 1 rfl
      have d2 := X7.out.cell 2 rfl
      have d3 := X7.out.cell 3 rfl
      have d4 := X7.out.cell 4 rfl
      have d5 := X7.out.cell 5 rfl
      have d6 := X7.out.cell 6 rfl
      have HBB := hidD HB.out
      clear HB HS X0 X1 X7 X9
      go_upto_region 8 with fail
      go_quiet (exact Calls.quiet_of_same ((num_any _ _).mono fun _ _ h => ⟨h.1, h.2.symm⟩))
      go_wp2
      go_ret
      exact ⟨by first | rfl | simp [*], below_drewN HBB.out _⟩
    · skip
      replace he : ye = 9 := by rw [he]; rfl
      replace hr : rp = false := by rw [hr]; rfl
      subst he hr
      by_cases hu : U ≤ t
      · skip
        rw [if_pos hu] at hx
        subst hx
        have hu2 : ¬ t < U := by omega
        have hu3 := decide_eq_false hu2
        have p0 := X0.out.cell 0 rfl
        have p1 := X0.out.cell 1 rfl
        have p2 := X0.out.cell 2 rfl
        have p3 := X0.out.cell 3 rfl
        have p4 := X0.out.cell 4 rfl
        have p5 := X0.out.cell 5 rfl
        have p6 := X0.out.cell 6 rfl
        have q0 := X1.out.cell 0 rfl
        have q1 := X1.out.cell 1 rfl
        have q2 := X1.out.cell 2 rfl
        have q3 := X1.out.cell 3 rfl
        have q4 := X1.out.cell 4 rfl
        have q5 := X1.out.cell 5 rfl
        have q6 := X1.out.cell 6 rfl
        have c := c1.out v0
        go_wp2_with fail
        with_reducible refine c.mono ?_
        rintro e v1 ⟨rfl, h⟩
        clear c
        clear p0 p1 p2 p3 p4 p5 p6 q0 q1 q2 q3 q4 q5 q6
        replace X0 := hidD (X0.out.below h)
        replace X1 := hidD (X1.out.below h)
        replace HB := hidD (below_on HB.out (by have := HS.out; omega) h)
        replace HS := hidD (Nat.le_trans HS.out h.size)
        clear h
        have X7 := hidD (Bo.new v1 [.int .i64 R, .int .i64 G, .int .i64 BD, .int .i64 NN, .int .i64 S0, .int .i64 U, .bool false] 23)
        have L0X0 := hidD X0.out.lt
        replace X0 := hidD (X0.out.alloc (.cells #[.int .i64 R, .int .i64 G, .int .i64 BD, .int .i64 NN, .int .i64 S0, .int .i64 U, .bool false] 23))
        have L0X1 := hidD X1.out.lt
        replace X1 := hidD (X1.out.alloc (.cells #[.int .i64 R, .int .i64 G, .int .i64 BD, .int .i64 NN, .int .i64 S0, .int .i64 U, .bool false] 23))
        have LTX0A := L0X0
        clear L0X0
        have LTX1A := L0X1
        clear L0X1
        have LA := HS
        replace HB := hidD (HB.out.alloc (by have := HS.out; omega) (.cells #[.int .i64 R, .int .i64 G, .int .i64 BD, .int .i64 NN, .int .i64 S0, .int .i64 U, .bool false] 23))
        replace HS : Hid (N + 2 ≤ (v1.alloc (.cells #[.int .i64 R, .int .i64 G, .int .i64 BD, .int .i64 NN, .int .i64 S0, .int .i64 U, .bool false] 23)).heap.size) := hidD (by rw [World.size_alloc]; have := HS.out; omega)
        go_upto_region 4 with fail
        generalize v1.alloc (.cells #[.int .i64 R, .int .i64 G, .int .i64 BD, .int .i64 NN, .int .i64 S0, .int .i64 U, .bool false] 23) = v2 at *
        generalize v1.heap.size = A at *
        have p0 := X0.out.cell 0 rfl
        have p1 := X0.out.cell 1 rfl
        have p2 := X0.out.cell 2 rfl
        have p3 := X0.out.cell 3 rfl
        have p4 := X0.out.cell 4 rfl
        have p5 := X0.out.cell 5 rfl
        have p6 := X0.out.cell 6 rfl
        have q0 := X1.out.cell 0 rfl
        have q1 := X1.out.cell 1 rfl
        have q2 := X1.out.cell 2 rfl
        have q3 := X1.out.cell 3 rfl
        have q4 := X1.out.cell 4 rfl
        have q5 := X1.out.cell 5 rfl
        have q6 := X1.out.cell 6 rfl
        have d0 := X7.out.cell 0 rfl
        have d1 := X7.out.cell 1 rfl
        have d2 := X7.out.cell 2 rfl
        have d3 := X7.out.cell 3 rfl
        have d4 := X7.out.cell 4 rfl
        have d5 := X7.out.cell 5 rfl
        have d6 := X7.out.cell 6 rfl
        have c := c2.out v2
        go_wp2_with (go_at_call 17; refine (num_any _ _).mono ?_; rintro e ww ⟨rfl, rfl⟩)
        with_reducible refine c.mono ?_
        rintro e v3 ⟨rfl, h⟩
        clear c
        clear p0 p1 p2 p3 p4 p5 p6 q0 q1 q2 q3 q4 q5 q6 d0 d1 d2 d3 d4 d5 d6
        replace X0 := hidD (X0.out.below h)
        replace X1 := hidD (X1.out.below h)
        replace X7 := hidD (X7.out.below h)
        replace HB := hidD (below_on HB.out (by have := HS.out; omega) h)
        replace HS := hidD (Nat.le_trans HS.out h.size)
        clear h
        have X9 := hidD (Bo.new v3 [.int .i64 y.r, .int .i64 y.g, .int .i64 y.b, .int .i64 y.n, .int .i64 y.s, .int .i64 y.u, .bool y.o] 23)
        have L0X0 := hidD X0.out.lt
        replace X0 := hidD (X0.out.alloc (.cells #[.int .i64 y.r, .int .i64 y.g, .int .i64 y.b, .int .i64 y.n, .int .i64 y.s, .int .i64 y.u, .bool y.o] 23))
        have L0X1 := hidD X1.out.lt
        replace X1 := hidD (X1.out.alloc (.cells #[.int .i64 y.r, .int .i64 y.g, .int .i64 y.b, .int .i64 y.n, .int .i64 y.s, .int .i64 y.u, .bool y.o] 23))
        have L0X7 := hidD X7.out.lt
        replace X7 := hidD (X7.out.alloc (.cells #[.int .i64 y.r, .int .i64 y.g, .int .i64 y.b, .int .i64 y.n, .int .i64 y.s, .int .i64 y.u, .bool y.o] 23))
        have LTX0A2 := L0X0
        clear L0X0
        have LTX1A2 := L0X1
        clear L0X1
        have LTX7A2 := L0X7
        clear L0X7
        have LA2 := HS
        replace HB := hidD (HB.out.alloc (by have := HS.out; omega) (.cells #[.int .i64 y.r, .int .i64 y.g, .int .i64 y.b, .int .i64 y.n, .int .i64 y.s, .int .i64 y.u, .bool y.o] 23))
        replace HS : Hid (N + 2 ≤ (v3.alloc (.cells #[.int .i64 y.r, .int .i64 y.g, .int .i64 y.b, .int .i64 y.n, .int .i64 y.s, .int .i64 y.u, .bool y.o] 23)).heap.size) := hidD (by rw [World.size_alloc]; have := HS.out; omega)
        go_upto_region 7 with fail
        generalize v3.alloc (.cells #[.int .i64 y.r, .int .i64 y.g, .int .i64 y.b, .int .i64 y.n, .int .i64 y.s, .int .i64 y.u, .bool y.o] 23) = v4 at *
        generalize v3.heap.size = A2 at *
        have p0 := X0.out.cell 0 rfl
        have p1 := X0.out.cell 1 rfl
        have p2 := X0.out.cell 2 rfl
        have p3 := X0.out.cell 3 rfl
        have p4 := X0.out.cell 4 rfl
        have p5 := X0.out.cell 5 rfl
        have p6 := X0.out.cell 6 rfl
        have q0 := X1.out.cell 0 rfl
        have q1 := X1.out.cell 1 rfl
        have q2 := X1.out.cell 2 rfl
        have q3 := X1.out.cell 3 rfl
        have q4 := X1.out.cell 4 rfl
        have q5 := X1.out.cell 5 rfl
        have q6 := X1.out.cell 6 rfl
        have d0 := X7.out.cell 0 rfl
        have d1 := X7.out.cell 1 rfl
        have d2 := X7.out.cell 2 rfl
        have d3 := X7.out.cell 3 rfl
        have d4 := X7.out.cell 4 rfl
        have d5 := X7.out.cell 5 rfl
        have d6 := X7.out.cell 6 rfl
        have f0 := X9.out.cell 0 rfl
        have f1 := X9.out.cell 1 rfl
        have f2 := X9.out.cell 2 rfl
        have f3 := X9.out.cell 3 rfl
        have f4 := X9.out.cell 4 rfl
        have f5 := X9.out.cell 5 rfl
        have f6 := X9.out.cell 6 rfl
        have c := c3.out v4
        go_wp2_with fail
        with_reducible refine c.mono ?_
        rintro e v5 ⟨rfl, h⟩
        clear c
        clear p0 p1 p2 p3 p4 p5 p6 q0 q1 q2 q3 q4 q5 q6 d0 d1 d2 d3 d4 d5 d6 f0 f1 f2 f3 f4 f5 f6
        replace X0 := hidD (X0.out.below h)
        replace X1 := hidD (X1.out.below h)
        replace X7 := hidD (X7.out.below h)
        replace X9 := hidD (X9.out.below h)
        replace HB := hidD (below_on HB.out (by have := HS.out; omega) h)
        replace HS := hidD (Nat.le_trans HS.out h.size)
        clear h
        have p0 := X0.out.cell 0 rfl
        have p1 := X0.out.cell 1 rfl
        have p2 := X0.out.cell 2 rfl
        have p3 := X0.out.cell 3 rfl
        have p4 := X0.out.cell 4 rfl
        have p5 := X0.out.cell 5 rfl
        have p6 := X0.out.cell 6 rfl
        have q0 := X1.out.cell 0 rfl
        have q1 := X1.out.cell 1 rfl
        have q2 := X1.out.cell 2 rfl
        have q3 := X1.out.cell 3 rfl
        have q4 := X1.out.cell 4 rfl
        have q5 := X1.out.cell 5 rfl
        have q6 := X1.out.cell 6 rfl
        have d0 := X7.out.cell 0 rfl
        have d1 := X7.out.cell 1 rfl
        have d2 := X7.out.cell 2 rfl
        have d3 := X7.out.cell 3 rfl
        have d4 := X7.out.cell 4 rfl
        have d5 := X7.out.cell 5 rfl
        have d6 := X7.out.cell 6 rfl
        have HBB := hidD HB.out
        clear HB HS X0 X1 X7 X9
        go_upto_region 8 with fail
        go_quiet (exact Calls.quiet_of_same ((num_any _ _).mono fun _ _ h => ⟨h.1, h.2.symm⟩))
        go_wp2
        go_ret
        exact ⟨by first | rfl | simp [*], below_drewN HBB.out _⟩
      · skip
        rw [if_neg hu] at hx
        subst hx
        have hu2 : t < U := by omega
        have hu3 := decide_eq_true hu2
        have p0 := X0.out.cell 0 rfl
        have p1 := X0.out.cell 1 rfl
        have p2 := X0.out.cell 2 rfl
        have p3 := X0.out.cell 3 rfl
        have p4 := X0.out.cell 4 rfl
        have p5 := X0.out.cell 5 rfl
        have p6 := X0.out.cell 6 rfl
        have q0 := X1.out.cell 0 rfl
        have q1 := X1.out.cell 1 rfl
        have q2 := X1.out.cell 2 rfl
        have q3 := X1.out.cell 3 rfl
        have q4 := X1.out.cell 4 rfl
        have q5 := X1.out.cell 5 rfl
        have q6 := X1.out.cell 6 rfl
        have c := c1.out v0
        go_wp2_with fail
        with_reducible refine c.mono ?_
        rintro e v1 ⟨rfl, h⟩
        clear c
        clear p0 p1 p2 p3 p4 p5 p6 q0 q1 q2 q3 q4 q5 q6
        replace X0 := hidD (X0.out.below h)
        replace X1 := hidD (X1.out.below h)
        replace HB := hidD (below_on HB.out (by have := HS.out; omega) h)
        replace HS := hidD (Nat.le_trans HS.out h.size)
        clear h
        have X7 := hidD (Bo.new v1 [.int .i64 R, .int .i64 G, .int .i64 BD, .int .i64 NN, .int .i64 S0, .int .i64 U, .bool true] 23)
        have L0X0 := hidD X0.out.lt
        replace X0 := hidD (X0.out.alloc (.cells #[.int .i64 R, .int .i64 G, .int .i64 BD, .int .i64 NN, .int .i64 S0, .int .i64 U, .bool true] 23))
        have L0X1 := hidD X1.out.lt
        replace X1 := hidD (X1.out.alloc (.cells #[.int .i64 R, .int .i64 G, .int .i64 BD, .int .i64 NN, .int .i64 S0, .int .i64 U, .bool true] 23))
        have LTX0A := L0X0
        clear L0X0
        have LTX1A := L0X1
        clear L0X1
        have LA := HS
        replace HB := hidD (HB.out.alloc (by have := HS.out; omega) (.cells #[.int .i64 R, .int .i64 G, .int .i64 BD, .int .i64 NN, .int .i64 S0, .int .i64 U, .bool true] 23))
        replace HS : Hid (N + 2 ≤ (v1.alloc (.cells #[.int .i64 R, .int .i64 G, .int .i64 BD, .int .i64 NN, .int .i64 S0, .int .i64 U, .bool true] 23)).heap.size) := hidD (by rw [World.size_alloc]; have := HS.out; omega)
        go_upto_region 4 with fail
        generalize v1.alloc (.cells #[.int .i64 R, .int .i64 G, .int .i64 BD, .int .i64 NN, .int .i64 S0, .int .i64 U, .bool true] 23) = v2 at *
        generalize v1.heap.size = A at *
        have p0 := X0.out.cell 0 rfl
        have p1 := X0.out.cell 1 rfl
        have p2 := X0.out.cell 2 rfl
        have p3 := X0.out.cell 3 rfl
        have p4 := X0.out.cell 4 rfl
        have p5 := X0.out.cell 5 rfl
        have p6 := X0.out.cell 6 rfl
        have q0 := X1.out.cell 0 rfl
        have q1 := X1.out.cell 1 rfl
        have q2 := X1.out.cell 2 rfl
        have q3 := X1.out.cell 3 rfl
        have q4 := X1.out.cell 4 rfl
        have q5 := X1.out.cell 5 rfl
        have q6 := X1.out.cell 6 rfl
        have d0 := X7.out.cell 0 rfl
        have d1 := X7.out.cell 1 rfl
        have d2 := X7.out.cell 2 rfl
        have d3 := X7.out.cell 3 rfl
        have d4 := X7.out.cell 4 rfl
        have d5 := X7.out.cell 5 rfl
        have d6 := X7.out.cell 6 rfl
        have c := c2.out v2
        go_wp2_with (go_at_call 17; refine (num_any _ _).mono ?_; rintro e ww ⟨rfl, rfl⟩)
        with_reducible refine c.mono ?_
        rintro e v3 ⟨rfl, h⟩
        clear c
        clear p0 p1 p2 p3 p4 p5 p6 q0 q1 q2 q3 q4 q5 q6 d0 d1 d2 d3 d4 d5 d6
        replace X0 := hidD (X0.out.below h)
        replace X1 := hidD (X1.out.below h)
        replace X7 := hidD (X7.out.below h)
        replace HB := hidD (below_on HB.out (by have := HS.out; omega) h)
        replace HS := hidD (Nat.le_trans HS.out h.size)
        clear h
        have X9 := hidD (Bo.new v3 [.int .i64 y.r, .int .i64 y.g, .int .i64 y.b, .int .i64 y.n, .int .i64 y.s, .int .i64 y.u, .bool y.o] 23)
        have L0X0 := hidD X0.out.lt
        replace X0 := hidD (X0.out.alloc (.cells #[.int .i64 y.r, .int .i64 y.g, .int .i64 y.b, .int .i64 y.n, .int .i64 y.s, .int .i64 y.u, .bool y.o] 23))
        have L0X1 := hidD X1.out.lt
        replace X1 := hidD (X1.out.alloc (.cells #[.int .i64 y.r, .int .i64 y.g, .int .i64 y.b, .int .i64 y.n, .int .i64 y.s, .int .i64 y.u, .bool y.o] 23))
        have L0X7 := hidD X7.out.lt
        replace X7 := hidD (X7.out.alloc (.cells #[.int .i64 y.r, .int .i64 y.g, .int .i64 y.b, .int .i64 y.n, .int .i64 y.s, .int .i64 y.u, .bool y.o] 23))
        have LTX0A2 := L0X0
        clear L0X0
        have LTX1A2 := L0X1
        clear L0X1
        have LTX7A2 := L0X7
        clear L0X7
        have LA2 := HS
        replace HB := hidD (HB.out.alloc (by have := HS.out; omega) (.cells #[.int .i64 y.r, .int .i64 y.g, .int .i64 y.b, .int .i64 y.n, .int .i64 y.s, .int .i64 y.u, .bool y.o] 23))
        replace HS : Hid (N + 2 ≤ (v3.alloc (.cells #[.int .i64 y.r, .int .i64 y.g, .int .i64 y.b, .int .i64 y.n, .int .i64 y.s, .int .i64 y.u, .bool y.o] 23)).heap.size) := hidD (by rw [World.size_alloc]; have := HS.out; omega)
        go_upto_region 7 with fail
        generalize v3.alloc (.cells #[.int .i64 y.r, .int .i64 y.g, .int .i64 y.b, .int .i64 y.n, .int .i64 y.s, .int .i64 y.u, .bool y.o] 23) = v4 at *
        generalize v3.heap.size = A2 at *
        have p0 := X0.out.cell 0 rfl
        have p1 := X0.out.cell 1 rfl
        have p2 := X0.out.cell 2 rfl
        have p3 := X0.out.cell 3 rfl
        have p4 := X0.out.cell 4 rfl
        have p5 := X0.out.cell 5 rfl
        have p6 := X0.out.cell 6 rfl
        have q0 := X1.out.cell 0 rfl
        have q1 := X1.out.cell 1 rfl
        have q2 := X1.out.cell 2 rfl
        have q3 := X1.out.cell 3 rfl
        have q4 := X1.out.cell 4 rfl
        have q5 := X1.out.cell 5 rfl
        have q6 := X1.out.cell 6 rfl
        have d0 := X7.out.cell 0 rfl
        have d1 := X7.out.cell 1 rfl
        have d2 := X7.out.cell 2 rfl
        have d3 := X7.out.cell 3 rfl
        have d4 := X7.out.cell 4 rfl
        have d5 := X7.out.cell 5 rfl
        have d6 := X7.out.cell 6 rfl
        have f0 := X9.out.cell 0 rfl
        have f1 := X9.out.cell 1 rfl
        have f2 := X9.out.cell 2 rfl
        have f3 := X9.out.cell 3 rfl
        have f4 := X9.out.cell 4 rfl
        have f5 := X9.out.cell 5 rfl
        have f6 := X9.out.cell 6 rfl
        have c := c3.out v4
        go_wp2_with fail
        with_reducible refine c.mono ?_
        rintro e v5 ⟨rfl, h⟩
        clear c
        clear p0 p1 p2 p3 p4 p5 p6 q0 q1 q2 q3 q4 q5 q6 d0 d1 d2 d3 d4 d5 d6 f0 f1 f2 f3 f4 f5 f6
        replace X0 := hidD (X0.out.below h)
        replace X1 := hidD (X1.out.below h)
        replace X7 := hidD (X7.out.below h)
        replace X9 := hidD (X9.out.below h)
        replace HB := hidD (below_on HB.out (by have := HS.out; omega) h)
        replace HS := hidD (Nat.le_trans HS.out h.size)
        clear h
        have p0 := X0.out.cell 0 rfl
        have p1 := X0.out.cell 1 rfl
        have p2 := X0.out.cell 2 rfl
        have p3 := X0.out.cell 3 rfl
        have p4 := X0.out.cell 4 rfl
        have p5 := X0.out.cell 5 rfl
        have p6 := X0.out.cell 6 rfl
        have q0 := X1.out.cell 0 rfl
        have q1 := X1.out.cell 1 rfl
        have q2 := X1.out.cell 2 rfl
        have q3 := X1.out.cell 3 rfl
        have q4 := X1.out.cell 4 rfl
        have q5 := X1.out.cell 5 rfl
        have q6 := X1.out.cell 6 rfl
        have d0 := X7.out.cell 0 rfl
        have d1 := X7.out.cell 1 rfl
        have d2 := X7.out.cell 2 rfl
        have d3 := X7.out.cell 3 rfl
        have d4 := X7.out.cell 4 rfl
        have d5 := X7.out.cell 5 rfl
        have d6 := X7.out.cell 6 rfl
        have HBB := hidD HB.out
        clear HB HS X0 X1 X7 X9
        go_upto_region 8 with fail
        go_quiet (exact Calls.quiet_of_same ((num_any _ _).mono fun _ _ h => ⟨h.1, h.2.symm⟩))
        go_wp2
        go_ret
        exact ⟨by first | rfl | simp [*], below_drewN HBB.out _⟩
  · skip
    have hx := HB0.out hk
    subst hx
    have hk1 : (k != 0) = true := by simp [hk]
    clear HB0 HT HE1 HR
    have p0 := X0.out.cell 0 rfl
    have p1 := X0.out.cell 1 rfl
    have p2 := X0.out.cell 2 rfl
    have p3 := X0.out.cell 3 rfl
    have p4 := X0.out.cell 4 rfl
    have p5 := X0.out.cell 5 rfl
    have p6 := X0.out.cell 6 rfl
    have q0 := X1.out.cell 0 rfl
    have q1 := X1.out.cell 1 rfl
    have q2 := X1.out.cell 2 rfl
    have q3 := X1.out.cell 3 rfl
    have q4 := X1.out.cell 4 rfl
    have q5 := X1.out.cell 5 rfl
    have q6 := X1.out.cell 6 rfl
    have c := c1.out v0
    go_wp2_with fail
    with_reducible refine c.mono ?_
    rintro e v1 ⟨rfl, h⟩
    clear c
    clear p0 p1 p2 p3 p4 p5 p6 q0 q1 q2 q3 q4 q5 q6
    replace X0 := hidD (X0.out.below h)
    replace X1 := hidD (X1.out.below h)
    replace HB := hidD (below_on HB.out (by have := HS.out; omega) h)
    replace HS := hidD (Nat.le_trans HS.out h.size)
    clear h
    have X7 := hidD (Bo.new v1 [.int .i64 0, .int .i64 0, .int .i64 0, .int .i64 0, .int .i64 0, .int .i64 0, .bool false] 23)
    have L0X0 := hidD X0.out.lt
    replace X0 := hidD (X0.out.alloc (.cells #[.int .i64 0, .int .i64 0, .int .i64 0, .int .i64 0, .int .i64 0, .int .i64 0, .bool false] 23))
    have L0X1 := hidD X1.out.lt
    replace X1 := hidD (X1.out.alloc (.cells #[.int .i64 0, .int .i64 0, .int .i64 0, .int .i64 0, .int .i64 0, .int .i64 0, .bool false] 23))
    have LTX0A := L0X0
    clear L0X0
    have LTX1A := L0X1
    clear L0X1
    have LA := HS
    replace HB := hidD (HB.out.alloc (by have := HS.out; omega) (.cells #[.int .i64 0, .int .i64 0, .int .i64 0, .int .i64 0, .int .i64 0, .int .i64 0, .bool false] 23))
    replace HS : Hid (N + 2 ≤ (v1.alloc (.cells #[.int .i64 0, .int .i64 0, .int .i64 0, .int .i64 0, .int .i64 0, .int .i64 0, .bool false] 23)).heap.size) := hidD (by rw [World.size_alloc]; have := HS.out; omega)
    go_upto_region 4 with fail
    generalize v1.alloc (.cells #[.int .i64 0, .int .i64 0, .int .i64 0, .int .i64 0, .int .i64 0, .int .i64 0, .bool false] 23) = v2 at *
    generalize v1.heap.size = A at *
    have p0 := X0.out.cell 0 rfl
    have p1 := X0.out.cell 1 rfl
    have p2 := X0.out.cell 2 rfl
    have p3 := X0.out.cell 3 rfl
    have p4 := X0.out.cell 4 rfl
    have p5 := X0.out.cell 5 rfl
    have p6 := X0.out.cell 6 rfl
    have q0 := X1.out.cell 0 rfl
    have q1 := X1.out.cell 1 rfl
    have q2 := X1.out.cell 2 rfl
    have q3 := X1.out.cell 3 rfl
    have q4 := X1.out.cell 4 rfl
    have q5 := X1.out.cell 5 rfl
    have q6 := X1.out.cell 6 rfl
    have d0 := X7.out.cell 0 rfl
    have d1 := X7.out.cell 1 rfl
    have d2 := X7.out.cell 2 rfl
    have d3 := X7.out.cell 3 rfl
    have d4 := X7.out.cell 4 rfl
    have d5 := X7.out.cell 5 rfl
    have d6 := X7.out.cell 6 rfl
    have HBB := hidD HB.out
    clear HB HS X0 X1 X7
    go_wp2_with (go_at_call 17; refine (num_any _ _).mono ?_; rintro e ww ⟨rfl, rfl⟩)
    go_ret
    exact ⟨by first | rfl | simp [*], HBB.out⟩

set_option maxRecDepth 100000 in
theorem lifted (os : Os) (started : os.Started) (H : Type) (enc : TypeId × Value → H) :
    ReturnsInHanded {} Try.checked os 8 .any (Rows.outlierSameSpec.pre6 enc Try.prog Try.f8 Rows.outlierSameRow.domain false) (Rows.outlierSameSpec.post enc Try.prog Try.f8 false true false false) := by
  refine returnsInHanded_of_change (C := Try.checked) own started (by kernel_rfl) Try.func8
    (ChangeSpec.witness6 (enc := enc) (C := Try.checked) false ⟨#[], #[.agg #[.int .i64 0, .int .i64 0, .int .i64 0, .int .i64 0, .int .i64 0, .int .i64 0, .bool false], .agg #[.int .i64 0, .int .i64 0, .int .i64 0, .int .i64 0, .int .i64 0, .int .i64 0, .int .i64 0], .int .i64 0], []⟩ 8 (by kernel_rfl) (by kernel_rfl) (by kernel_rfl) (by kernel_rfl)) ?_
  intro W base args ds gs before hval0 hW hcnd _
  have hval : ∀ (j : Nat) t v, Try.f8.params[j]? = some t → args[j]? = some v → Value.okWide Try.prog W .any base t v := hval0
  have hW' := hW
  obtain ⟨p, q, hA0, hV, rfl, hfz, hnd⟩ := hW
  have hA : DataW.TrodAll enc Try.prog W 0 (fun _ => true) true Try.f8.params.toList args.toList ds p := hA0
  rw [Try.params8] at hA hval
  obtain ⟨v0, vs0, d0, ds0, p0, q0, hargs, rfl, rfl, h0, r0⟩ := trodAll_cons hA
  obtain ⟨v1, vs1, d1, ds1, p1, q1, rfl, rfl, rfl, h1, r1⟩ := trodAll_cons r0
  obtain ⟨v2, vs2, d2, ds2, p2, q2, rfl, rfl, rfl, h2, r2⟩ := trodAll_cons r1
  obtain ⟨rfl, rfl, rfl⟩ := trodAll_nil r2
  obtain rfl : args = #[v0, v1, v2] := by cases args; simp_all
  obtain ⟨rfl, rfl⟩ := trodVars_none hV
  have k0 := h0
  have lt0 : ∀ x ∈ p0, x.block < W.heap.size := by obtain ⟨m, hm⟩ := k0; exact DataW.trod_lt m _ _ _ hm
  obtain ⟨x0, hv0⟩ := open_outlier (hval 0 23 v0 rfl rfl) h0
  subst hv0
  have k1 := h1
  have lt1 : ∀ x ∈ p1, x.block < W.heap.size := by obtain ⟨m, hm⟩ := k1; exact DataW.trod_lt m _ _ _ hm
  obtain ⟨x1, hv1⟩ := open_oset (hval 1 25 v1 rfl rfl) h1
  subst hv1
  obtain ⟨a2, rfl, rfl, rfl, w2⟩ := open_int Try.underlying3 (hval 2 3 v2 rfl rfl) h2
  clear hA0 hval0
  refine (walk x0 x1 a2 w2).mono fun e W' ⟨he, bel⟩ => ?_
  subst he
  exact ⟨_, rfl, _, _, _, [], _, [], hW', trodAll_mk1 (shut_bool Try.underlying4 _), (trodAll_cons_mk (Below.trod laidOut (by kernel_rfl) (of_decide_eq_true (by kernel_rfl)) k0 bel lt0) (trodAll_cons_mk (Below.trod laidOut (by kernel_rfl) (of_decide_eq_true (by kernel_rfl)) k1 bel lt1) (trodAll_cons_mk (shut_int Try.underlying3 w2) trodAll_mk0))), rfl, bel.frame _, fun h => by cases h⟩

theorem over : Rows.outlierSameRow.holds Try.pinned (OpenSpec.ofChange Rows.outlierSameSpec) :=
  OpenClaim.holds_of_wide 8 Try.f8 rfl rfl rfl rfl rfl rfl rfl ⟨rfl, rfl, rfl, rfl, rfl⟩ rfl rfl rfl rfl rfl (by kernel_rfl) Try.func8 (by kernel_rfl)
    (of_decide_eq_true (by kernel_rfl)) (by unfold Func.isWrapper; first | (rw [if_pos (by decide +kernel)]; kernel_rfl) | (rw [if_neg (by decide +kernel)]; exact ⟨rfl, rfl⟩))
    (fun os started H enc _ => lifted os started H enc)
end Go.Proofs.Ytfjcilkllgaimaa.outlierSame

namespace Go.Proofs.Ytfjcilkllgaimaa
/-- THE STATEMENT. -/
theorem outlierSame_holds : Rows.OutlierSameSaid := outlierSame.over
#print axioms outlierSame_holds
end Go.Proofs.Ytfjcilkllgaimaa
