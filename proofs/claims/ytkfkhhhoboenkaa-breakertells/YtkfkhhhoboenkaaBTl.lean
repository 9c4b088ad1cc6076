/- Whatever breaker, settings, tick and ends are handed in: BreakerTells returns true, and they read as they did. -/
import Derived.Test.YtkfkhhhoboenkaaRows
import Derived.BigQuiet
import Derived.Deep.QuietTactic
import Derived.WalkKit
import Derived.ProofKit
import Derived.OpenShut
import Derived.ShutString
import Derived.Test.YtkfkhhhoboenkaaBT
import Derived.Test.YtkfkhhhoboenkaaOpenK
namespace Go.Proofs.Ytkfkhhhoboenkaa.breakerTells
open Go.ChangeShapes Go.WideShapes Go.ChangeAt Go.RowKit
open Go.ChangeMaps (open_string shut_string)
set_option linter.unusedVariables false
set_option maxRecDepth 20000

set_option maxHeartbeats 4000000 in
theorem walk_v (b : Br.St) (s : Br.Se) (t : Int) (pr g : Bool) (T A E2 : Br.St) (al bp : Bool) (k be : Int) (w : World)
    (C9 : ∀ W, Calls Try.prog 9 #[vB b, vS s, .int .i64 t] W fun e w' => e = .returned (.tuple #[vB T, .int .i64 k]) ∧ Below W.heap.size W w')
    (C10 : ∀ W, Calls Try.prog 10 #[vB b, vS s, .int .i64 t] W fun e w' => e = .returned (.tuple #[vB T, .int .i64 k]) ∧ Below W.heap.size W w')
    (C11 : ∀ W, Calls Try.prog 11 #[vB b, vS s, .int .i64 t] W fun e w' => e = .returned (.tuple #[.bool al, .int .i64 k]) ∧ Below W.heap.size W w')
    (C12 : ∀ W, Calls Try.prog 12 #[vB b, vS s, .int .i64 t] W fun e w' => e = .returned (.tuple #[.bool al, .int .i64 k]) ∧ Below W.heap.size W w')
    (C13 : ∀ W, Calls Try.prog 13 #[vB b, vS s, .int .i64 t] W fun e w' => e = .returned (.tuple #[vB A, .bool bp, .int .i64 be]) ∧ Below W.heap.size W w')
    (C14 : ∀ W, Calls Try.prog 14 #[vB b, vS s, .int .i64 t] W fun e w' => e = .returned (.tuple #[vB A, .bool bp, .int .i64 be]) ∧ Below W.heap.size W w')
    (C15 : ∀ W, Calls Try.prog 15 #[vB b, vS s, .int .i64 t, .bool pr, .bool g] W fun e w' => e = .returned (.tuple #[vB E2, .int .i64 k]) ∧ Below W.heap.size W w')
    (C16 : ∀ W, Calls Try.prog 16 #[vB b, vS s, .int .i64 t, .bool pr, .bool g] W fun e w' => e = .returned (.tuple #[vB E2, .int .i64 k]) ∧ Below W.heap.size W w')
    (C18 : ∀ W, Calls Try.prog 18 #[vB b, vS s, .int .i64 t] W fun e w' => e = .returned (.int .i64 k) ∧ Below W.heap.size W w')
    (C19 : ∀ W, Calls Try.prog 19 #[vB b, vS s, .int .i64 t] W fun e w' => e = .returned (.int .i64 k) ∧ Below W.heap.size W w')
    (C20 : ∀ W, Calls Try.prog 20 #[] W fun e w' => e = .returned (.bool true) ∧ Below W.heap.size W w') :
    Calls Try.prog 3 #[vB b, vS s, .int .i64 t, .bool pr, .bool g] w fun e w' => e = .returned (.bool true) ∧ Below w.heap.size w w' := by
  obtain ⟨W0, hW0, X0, X1, HB, HS⟩ := two_boxes w (bL b) (sL s) 23 25
  have H9 := hidD C9
  have H10 := hidD C10
  have H11 := hidD C11
  have H12 := hidD C12
  have H13 := hidD C13
  have H14 := hidD C14
  have H15 := hidD C15
  have H16 := hidD C16
  have H18 := hidD C18
  have H19 := hidD C19
  have H20 := hidD C20
  clear C9 C10 C11 C12 C13 C14 C15 C16 C18 C19 C20
  simp only [bL, sL] at hW0
  obtain ⟨N, hN⟩ : ∃ N, N = w.heap.size := ⟨_, rfl⟩
  rw [← hN] at X0 X1 HB HS ⊢
  have hs : N + 2 ≤ W0.heap.size := by omega
  clear HS
  have c := H9.out W0
  go_enter Try.func3, Try.ntmps3
  go_wp2_with fail
  rw [← hN, ← hW0]
  clear hN hW0
  with_reducible refine c.mono ?_
  rintro e v0 ⟨rfl, h⟩
  clear c
  replace X0 := X0.below h
  replace X1 := X1.below h
  replace HB := below_on HB (by omega) h
  replace hs := Nat.le_trans hs h.size
  clear h
  have Y0 := Bo.new v0 [.int .i64 T.m, .int .i64 T.f, .int .i64 T.u, .int .i64 T.p, .int .i64 T.w] 23
  replace X0 := X0.alloc (.cells #[.int .i64 T.m, .int .i64 T.f, .int .i64 T.u, .int .i64 T.p, .int .i64 T.w] 23)
  replace X1 := X1.alloc (.cells #[.int .i64 T.m, .int .i64 T.f, .int .i64 T.u, .int .i64 T.p, .int .i64 T.w] 23)
  replace HB := HB.alloc (by omega) (.cells #[.int .i64 T.m, .int .i64 T.f, .int .i64 T.u, .int .i64 T.p, .int .i64 T.w] 23)
  replace hs : N + 2 ≤ (v0.alloc (.cells #[.int .i64 T.m, .int .i64 T.f, .int .i64 T.u, .int .i64 T.p, .int .i64 T.w] 23)).heap.size := by rw [World.size_alloc]; omega
  replace X0 := hidD X0
  replace X1 := hidD X1
  replace Y0 := hidD Y0
  replace HB := hidD HB
  replace hs := hidD hs
  go_upto_region 2 with fail
  replace X0 := X0.out
  replace X1 := X1.out
  replace Y0 := Y0.out
  replace HB := HB.out
  replace hs := hs.out
  generalize v0.alloc (.cells #[.int .i64 T.m, .int .i64 T.f, .int .i64 T.u, .int .i64 T.p, .int .i64 T.w] 23) = u0 at *
  generalize v0.heap.size = n0 at *
  have p0 := X0.cell 0 rfl
  have p1 := X0.cell 1 rfl
  have p2 := X0.cell 2 rfl
  have p3 := X0.cell 3 rfl
  have p4 := X0.cell 4 rfl
  have q0 := X1.cell 0 rfl
  have q1 := X1.cell 1 rfl
  have q2 := X1.cell 2 rfl
  have c := H10.out u0
  go_wp2_with fail
  with_reducible refine c.mono ?_
  rintro e v1 ⟨rfl, h⟩
  clear p0 p1 p2 p3 p4 q0 q1 q2 c
  replace X0 := X0.below h
  replace X1 := X1.below h
  replace Y0 := Y0.below h
  replace HB := below_on HB (by omega) h
  replace hs := Nat.le_trans hs h.size
  clear h
  have Y1 := Bo.new v1 [.int .i64 T.m, .int .i64 T.f, .int .i64 T.u, .int .i64 T.p, .int .i64 T.w] 23
  replace X0 := X0.alloc (.cells #[.int .i64 T.m, .int .i64 T.f, .int .i64 T.u, .int .i64 T.p, .int .i64 T.w] 23)
  replace X1 := X1.alloc (.cells #[.int .i64 T.m, .int .i64 T.f, .int .i64 T.u, .int .i64 T.p, .int .i64 T.w] 23)
  replace Y0 := Y0.alloc (.cells #[.int .i64 T.m, .int .i64 T.f, .int .i64 T.u, .int .i64 T.p, .int .i64 T.w] 23)
  replace HB := HB.alloc (by omega) (.cells #[.int .i64 T.m, .int .i64 T.f, .int .i64 T.u, .int .i64 T.p, .int .i64 T.w] 23)
  replace hs : N + 2 ≤ (v1.alloc (.cells #[.int .i64 T.m, .int .i64 T.f, .int .i64 T.u, .int .i64 T.p, .int .i64 T.w] 23)).heap.size := by rw [World.size_alloc]; omega
  replace X0 := hidD X0
  replace X1 := hidD X1
  replace Y0 := hidD Y0
  replace Y1 := hidD Y1
  replace HB := hidD HB
  replace hs := hidD hs
  go_upto_region 3 with fail
  replace X0 := X0.out
  replace X1 := X1.out
  replace Y0 := Y0.out
  replace Y1 := Y1.out
  replace HB := HB.out
  replace hs := hs.out
  generalize v1.alloc (.cells #[.int .i64 T.m, .int .i64 T.f, .int .i64 T.u, .int .i64 T.p, .int .i64 T.w] 23) = u1 at *
  generalize v1.heap.size = n1 at *
  have p0 := X0.cell 0 rfl
  have p1 := X0.cell 1 rfl
  have p2 := X0.cell 2 rfl
  have p3 := X0.cell 3 rfl
  have p4 := X0.cell 4 rfl
  have q0 := X1.cell 0 rfl
  have q1 := X1.cell 1 rfl
  have q2 := X1.cell 2 rfl
  have c := H11.out u1
  go_wp2_with fail
  with_reducible refine c.mono ?_
  rintro e v2 ⟨rfl, h⟩
  clear p0 p1 p2 p3 p4 q0 q1 q2 c
  replace X0 := X0.below h
  replace X1 := X1.below h
  replace Y0 := Y0.below h
  replace Y1 := Y1.below h
  replace HB := below_on HB (by omega) h
  replace hs := Nat.le_trans hs h.size
  clear h
  replace X0 := hidD X0
  replace X1 := hidD X1
  replace Y0 := hidD Y0
  replace Y1 := hidD Y1
  replace HB := hidD HB
  replace hs := hidD hs
  go_upto_region 4 with fail
  replace X0 := X0.out
  replace X1 := X1.out
  replace Y0 := Y0.out
  replace Y1 := Y1.out
  replace HB := HB.out
  replace hs := hs.out
  have p0 := X0.cell 0 rfl
  have p1 := X0.cell 1 rfl
  have p2 := X0.cell 2 rfl
  have p3 := X0.cell 3 rfl
  have p4 := X0.cell 4 rfl
  have q0 := X1.cell 0 rfl
  have q1 := X1.cell 1 rfl
  have q2 := X1.cell 2 rfl
  have c := H12.out v2
  go_wp2_with fail
  with_reducible refine c.mono ?_
  rintro e v3 ⟨rfl, h⟩
  clear p0 p1 p2 p3 p4 q0 q1 q2 c
  replace X0 := X0.below h
  replace X1 := X1.below h
  replace Y0 := Y0.below h
  replace Y1 := Y1.below h
  replace HB := below_on HB (by omega) h
  replace hs := Nat.le_trans hs h.size
  clear h
  replace X0 := hidD X0
  replace X1 := hidD X1
  replace Y0 := hidD Y0
  replace Y1 := hidD Y1
  replace HB := hidD HB
  replace hs := hidD hs
  go_upto_region 5 with fail
  replace X0 := X0.out
  replace X1 := X1.out
  replace Y0 := Y0.out
  replace Y1 := Y1.out
  replace HB := HB.out
  replace hs := hs.out
  have p0 := X0.cell 0 rfl
  have p1 := X0.cell 1 rfl
  have p2 := X0.cell 2 rfl
  have p3 := X0.cell 3 rfl
  have p4 := X0.cell 4 rfl
  have q0 := X1.cell 0 rfl
  have q1 := X1.cell 1 rfl
  have q2 := X1.cell 2 rfl
  have c := H13.out v3
  go_wp2_with fail
  with_reducible refine c.mono ?_
  rintro e v4 ⟨rfl, h⟩
  clear p0 p1 p2 p3 p4 q0 q1 q2 c
  replace X0 := X0.below h
  replace X1 := X1.below h
  replace Y0 := Y0.below h
  replace Y1 := Y1.below h
  replace HB := below_on HB (by omega) h
  replace hs := Nat.le_trans hs h.size
  clear h
  have Y4 := Bo.new v4 [.int .i64 A.m, .int .i64 A.f, .int .i64 A.u, .int .i64 A.p, .int .i64 A.w] 23
  replace X0 := X0.alloc (.cells #[.int .i64 A.m, .int .i64 A.f, .int .i64 A.u, .int .i64 A.p, .int .i64 A.w] 23)
  replace X1 := X1.alloc (.cells #[.int .i64 A.m, .int .i64 A.f, .int .i64 A.u, .int .i64 A.p, .int .i64 A.w] 23)
  replace Y0 := Y0.alloc (.cells #[.int .i64 A.m, .int .i64 A.f, .int .i64 A.u, .int .i64 A.p, .int .i64 A.w] 23)
  replace Y1 := Y1.alloc (.cells #[.int .i64 A.m, .int .i64 A.f, .int .i64 A.u, .int .i64 A.p, .int .i64 A.w] 23)
  replace HB := HB.alloc (by omega) (.cells #[.int .i64 A.m, .int .i64 A.f, .int .i64 A.u, .int .i64 A.p, .int .i64 A.w] 23)
  replace hs : N + 2 ≤ (v4.alloc (.cells #[.int .i64 A.m, .int .i64 A.f, .int .i64 A.u, .int .i64 A.p, .int .i64 A.w] 23)).heap.size := by rw [World.size_alloc]; omega
  replace X0 := hidD X0
  replace X1 := hidD X1
  replace Y0 := hidD Y0
  replace Y1 := hidD Y1
  replace Y4 := hidD Y4
  replace HB := hidD HB
  replace hs := hidD hs
  go_upto_region 6 with fail
  replace X0 := X0.out
  replace X1 := X1.out
  replace Y0 := Y0.out
  replace Y1 := Y1.out
  replace Y4 := Y4.out
  replace HB := HB.out
  replace hs := hs.out
  generalize v4.alloc (.cells #[.int .i64 A.m, .int .i64 A.f, .int .i64 A.u, .int .i64 A.p, .int .i64 A.w] 23) = u4 at *
  generalize v4.heap.size = n4 at *
  have p0 := X0.cell 0 rfl
  have p1 := X0.cell 1 rfl
  have p2 := X0.cell 2 rfl
  have p3 := X0.cell 3 rfl
  have p4 := X0.cell 4 rfl
  have q0 := X1.cell 0 rfl
  have q1 := X1.cell 1 rfl
  have q2 := X1.cell 2 rfl
  have c := H14.out u4
  go_wp2_with fail
  with_reducible refine c.mono ?_
  rintro e v5 ⟨rfl, h⟩
  clear p0 p1 p2 p3 p4 q0 q1 q2 c
  replace X0 := X0.below h
  replace X1 := X1.below h
  replace Y0 := Y0.below h
  replace Y1 := Y1.below h
  replace Y4 := Y4.below h
  replace HB := below_on HB (by omega) h
  replace hs := Nat.le_trans hs h.size
  clear h
  have Y5 := Bo.new v5 [.int .i64 A.m, .int .i64 A.f, .int .i64 A.u, .int .i64 A.p, .int .i64 A.w] 23
  replace X0 := X0.alloc (.cells #[.int .i64 A.m, .int .i64 A.f, .int .i64 A.u, .int .i64 A.p, .int .i64 A.w] 23)
  replace X1 := X1.alloc (.cells #[.int .i64 A.m, .int .i64 A.f, .int .i64 A.u, .int .i64 A.p, .int .i64 A.w] 23)
  replace Y0 := Y0.alloc (.cells #[.int .i64 A.m, .int .i64 A.f, .int .i64 A.u, .int .i64 A.p, .int .i64 A.w] 23)
  replace Y1 := Y1.alloc (.cells #[.int .i64 A.m, .int .i64 A.f, .int .i64 A.u, .int .i64 A.p, .int .i64 A.w] 23)
  replace Y4 := Y4.alloc (.cells #[.int .i64 A.m, .int .i64 A.f, .int .i64 A.u, .int .i64 A.p, .int .i64 A.w] 23)
  replace HB := HB.alloc (by omega) (.cells #[.int .i64 A.m, .int .i64 A.f, .int .i64 A.u, .int .i64 A.p, .int .i64 A.w] 23)
  replace hs : N + 2 ≤ (v5.alloc (.cells #[.int .i64 A.m, .int .i64 A.f, .int .i64 A.u, .int .i64 A.p, .int .i64 A.w] 23)).heap.size := by rw [World.size_alloc]; omega
  replace X0 := hidD X0
  replace X1 := hidD X1
  replace Y0 := hidD Y0
  replace Y1 := hidD Y1
  replace Y4 := hidD Y4
  replace Y5 := hidD Y5
  replace HB := hidD HB
  replace hs := hidD hs
  go_upto_region 7 with fail
  replace X0 := X0.out
  replace X1 := X1.out
  replace Y0 := Y0.out
  replace Y1 := Y1.out
  replace Y4 := Y4.out
  replace Y5 := Y5.out
  replace HB := HB.out
  replace hs := hs.out
  generalize v5.alloc (.cells #[.int .i64 A.m, .int .i64 A.f, .int .i64 A.u, .int .i64 A.p, .int .i64 A.w] 23) = u5 at *
  generalize v5.heap.size = n5 at *
  have p0 := X0.cell 0 rfl
  have p1 := X0.cell 1 rfl
  have p2 := X0.cell 2 rfl
  have p3 := X0.cell 3 rfl
  have p4 := X0.cell 4 rfl
  have q0 := X1.cell 0 rfl
  have q1 := X1.cell 1 rfl
  have q2 := X1.cell 2 rfl
  have c := H15.out u5
  go_wp2_with fail
  with_reducible refine c.mono ?_
  rintro e v6 ⟨rfl, h⟩
  clear p0 p1 p2 p3 p4 q0 q1 q2 c
  replace X0 := X0.below h
  replace X1 := X1.below h
  replace Y0 := Y0.below h
  replace Y1 := Y1.below h
  replace Y4 := Y4.below h
  replace Y5 := Y5.below h
  replace HB := below_on HB (by omega) h
  replace hs := Nat.le_trans hs h.size
  clear h
  have Y6 := Bo.new v6 [.int .i64 E2.m, .int .i64 E2.f, .int .i64 E2.u, .int .i64 E2.p, .int .i64 E2.w] 23
  replace X0 := X0.alloc (.cells #[.int .i64 E2.m, .int .i64 E2.f, .int .i64 E2.u, .int .i64 E2.p, .int .i64 E2.w] 23)
  replace X1 := X1.alloc (.cells #[.int .i64 E2.m, .int .i64 E2.f, .int .i64 E2.u, .int .i64 E2.p, .int .i64 E2.w] 23)
  replace Y0 := Y0.alloc (.cells #[.int .i64 E2.m, .int .i64 E2.f, .int .i64 E2.u, .int .i64 E2.p, .int .i64 E2.w] 23)
  replace Y1 := Y1.alloc (.cells #[.int .i64 E2.m, .int .i64 E2.f, .int .i64 E2.u, .int .i64 E2.p, .int .i64 E2.w] 23)
  replace Y4 := Y4.alloc (.cells #[.int .i64 E2.m, .int .i64 E2.f, .int .i64 E2.u, .int .i64 E2.p, .int .i64 E2.w] 23)
  replace Y5 := Y5.alloc (.cells #[.int .i64 E2.m, .int .i64 E2.f, .int .i64 E2.u, .int .i64 E2.p, .int .i64 E2.w] 23)
  replace HB := HB.alloc (by omega) (.cells #[.int .i64 E2.m, .int .i64 E2.f, .int .i64 E2.u, .int .i64 E2.p, .int .i64 E2.w] 23)
  replace hs : N + 2 ≤ (v6.alloc (.cells #[.int .i64 E2.m, .int .i64 E2.f, .int .i64 E2.u, .int .i64 E2.p, .int .i64 E2.w] 23)).heap.size := by rw [World.size_alloc]; omega
  replace X0 := hidD X0
  replace X1 := hidD X1
  replace Y0 := hidD Y0
  replace Y1 := hidD Y1
  replace Y4 := hidD Y4
  replace Y5 := hidD Y5
  replace Y6 := hidD Y6
  replace HB := hidD HB
  replace hs := hidD hs
  go_upto_region 8 with fail
  replace X0 := X0.out
  replace X1 := X1.out
  replace Y0 := Y0.out
  replace Y1 := Y1.out
  replace Y4 := Y4.out
  replace Y5 := Y5.out
  replace Y6 := Y6.out
  replace HB := HB.out
  replace hs := hs.out
  generalize v6.alloc (.cells #[.int .i64 E2.m, .int .i64 E2.f, .int .i64 E2.u, .int .i64 E2.p, .int .i64 E2.w] 23) = u6 at *
  generalize v6.heap.size = n6 at *
  have p0 := X0.cell 0 rfl
  have p1 := X0.cell 1 rfl
  have p2 := X0.cell 2 rfl
  have p3 := X0.cell 3 rfl
  have p4 := X0.cell 4 rfl
  have q0 := X1.cell 0 rfl
  have q1 := X1.cell 1 rfl
  have q2 := X1.cell 2 rfl
  have c := H16.out u6
  go_wp2_with fail
  with_reducible refine c.mono ?_
  rintro e v7 ⟨rfl, h⟩
  clear p0 p1 p2 p3 p4 q0 q1 q2 c
  replace X0 := X0.below h
  replace X1 := X1.below h
  replace Y0 := Y0.below h
  replace Y1 := Y1.below h
  replace Y4 := Y4.below h
  replace Y5 := Y5.below h
  replace Y6 := Y6.below h
  replace HB := below_on HB (by omega) h
  replace hs := Nat.le_trans hs h.size
  clear h
  have Y7 := Bo.new v7 [.int .i64 E2.m, .int .i64 E2.f, .int .i64 E2.u, .int .i64 E2.p, .int .i64 E2.w] 23
  replace X0 := X0.alloc (.cells #[.int .i64 E2.m, .int .i64 E2.f, .int .i64 E2.u, .int .i64 E2.p, .int .i64 E2.w] 23)
  replace X1 := X1.alloc (.cells #[.int .i64 E2.m, .int .i64 E2.f, .int .i64 E2.u, .int .i64 E2.p, .int .i64 E2.w] 23)
  replace Y0 := Y0.alloc (.cells #[.int .i64 E2.m, .int .i64 E2.f, .int .i64 E2.u, .int .i64 E2.p, .int .i64 E2.w] 23)
  replace Y1 := Y1.alloc (.cells #[.int .i64 E2.m, .int .i64 E2.f, .int .i64 E2.u, .int .i64 E2.p, .int .i64 E2.w] 23)
  replace Y4 := Y4.alloc (.cells #[.int .i64 E2.m, .int .i64 E2.f, .int .i64 E2.u, .int .i64 E2.p, .int .i64 E2.w] 23)
  replace Y5 := Y5.alloc (.cells #[.int .i64 E2.m, .int .i64 E2.f, .int .i64 E2.u, .int .i64 E2.p, .int .i64 E2.w] 23)
  replace Y6 := Y6.alloc (.cells #[.int .i64 E2.m, .int .i64 E2.f, .int .i64 E2.u, .int .i64 E2.p, .int .i64 E2.w] 23)
  replace HB := HB.alloc (by omega) (.cells #[.int .i64 E2.m, .int .i64 E2.f, .int .i64 E2.u, .int .i64 E2.p, .int .i64 E2.w] 23)
  replace hs : N + 2 ≤ (v7.alloc (.cells #[.int .i64 E2.m, .int .i64 E2.f, .int .i64 E2.u, .int .i64 E2.p, .int .i64 E2.w] 23)).heap.size := by rw [World.size_alloc]; omega
  replace X0 := hidD X0
  replace X1 := hidD X1
  replace Y0 := hidD Y0
  replace Y1 := hidD Y1
  replace Y4 := hidD Y4
  replace Y5 := hidD Y5
  replace Y6 := hidD Y6
  replace Y7 := hidD Y7
  replace HB := hidD HB
  replace hs := hidD hs
  go_upto_region 9 with fail
  replace X0 := X0.out
  replace X1 := X1.out
  replace Y0 := Y0.out
  replace Y1 := Y1.out
  replace Y4 := Y4.out
  replace Y5 := Y5.out
  replace Y6 := Y6.out
  replace Y7 := Y7.out
  replace HB := HB.out
  replace hs := hs.out
  generalize v7.alloc (.cells #[.int .i64 E2.m, .int .i64 E2.f, .int .i64 E2.u, .int .i64 E2.p, .int .i64 E2.w] 23) = u7 at *
  generalize v7.heap.size = n7 at *
  have a0 := Y0.cell 0 rfl
  have a1 := Y0.cell 1 rfl
  have a2 := Y0.cell 2 rfl
  have a3 := Y0.cell 3 rfl
  have a4 := Y0.cell 4 rfl
  have b0 := Y1.cell 0 rfl
  have b1 := Y1.cell 1 rfl
  have b2 := Y1.cell 2 rfl
  have b3 := Y1.cell 3 rfl
  have b4 := Y1.cell 4 rfl
  have c0 := Y4.cell 0 rfl
  have c1 := Y4.cell 1 rfl
  have c2 := Y4.cell 2 rfl
  have c3 := Y4.cell 3 rfl
  have c4 := Y4.cell 4 rfl
  have d0 := Y5.cell 0 rfl
  have d1 := Y5.cell 1 rfl
  have d2 := Y5.cell 2 rfl
  have d3 := Y5.cell 3 rfl
  have d4 := Y5.cell 4 rfl
  have e0 := Y6.cell 0 rfl
  have e1 := Y6.cell 1 rfl
  have e2 := Y6.cell 2 rfl
  have e3 := Y6.cell 3 rfl
  have e4 := Y6.cell 4 rfl
  have f0 := Y7.cell 0 rfl
  have f1 := Y7.cell 1 rfl
  have f2 := Y7.cell 2 rfl
  have f3 := Y7.cell 3 rfl
  have f4 := Y7.cell 4 rfl
  replace X0 := hidD X0
  replace X1 := hidD X1
  replace HB := hidD HB
  replace hs := hidD hs
  clear Y0 Y1 Y4 Y5 Y6 Y7
  have n1 : (al != al) = false := by simp
  have n2 : (bp != bp) = false := by simp
  have n3 : (k != k) = false := by simp
  have n4 : (be != be) = false := by simp
  go_wp2_with (go_at_call 17; refine (num_any _ _).mono ?_; rintro e ww ⟨rfl, rfl⟩)
  clear a0 a1 a2 a3 a4 b0 b1 b2 b3 b4 c0 c1 c2 c3 c4 d0 d1 d2 d3 d4 e0 e1 e2 e3 e4 f0 f1 f2 f3 f4
  have k1 : (k == k) = true := by simp
  have p0 := X0.out.cell 0 rfl
  have p1 := X0.out.cell 1 rfl
  have p2 := X0.out.cell 2 rfl
  have p3 := X0.out.cell 3 rfl
  have p4 := X0.out.cell 4 rfl
  have q0 := X1.out.cell 0 rfl
  have q1 := X1.out.cell 1 rfl
  have q2 := X1.out.cell 2 rfl
  have HBB := HB.out
  have hss := hs.out
  replace hss : N ≤ _ := Nat.le_trans (Nat.le_add_right N 2) hss
  clear HB hs X0 X1
  go_region_held (fun w' => w'.cell? ⟨N, 0, none⟩ = some (.int .i64 b.m) ∧ w'.cell? ⟨N, 1, none⟩ = some (.int .i64 b.f) ∧ w'.cell? ⟨N, 2, none⟩ = some (.int .i64 b.u) ∧ w'.cell? ⟨N, 3, none⟩ = some (.int .i64 b.p) ∧ w'.cell? ⟨N, 4, none⟩ = some (.int .i64 b.w) ∧ w'.cell? ⟨N + 1, 0, none⟩ = some (.int .i64 s.f) ∧ w'.cell? ⟨N + 1, 1, none⟩ = some (.int .i64 s.o) ∧ w'.cell? ⟨N + 1, 2, none⟩ = some (.int .i64 s.p) ∧ Below N w w' ∧ N ≤ w'.heap.size) (first | exact keep8 (by assumption) (by assumption) | exact keep8d ⟨p0, p1, p2, p3, p4, q0, q1, q2, HBB, hss⟩ | assumption) (first | (go_at_call 18; refine (H18.out _).mono ?_; rintro e ww ⟨rfl, hww⟩) | (go_at_call 19; refine (H19.out _).mono ?_; rintro e ww ⟨rfl, hww⟩) | (go_at_call 20; refine (H20.out _).mono ?_; rintro e ww ⟨rfl, hww⟩) | (go_at_call 17; refine (num_any _ _).mono ?_; rintro e ww ⟨rfl, rfl⟩))
  all_goals
    go_wp2
    go_ret
    exact ⟨rfl, keep8b (by assumption)⟩

theorem walk (b : Br.St) (s : Br.Se) (t : Int) (wt : (Lit.int .i64 t).wf = true) (pr g : Bool) {w : World} : Calls Try.prog 3 #[vB b, vS s, .int .i64 t, .bool pr, .bool g] w fun e w' => e = .returned (.bool true) ∧ Below w.heap.size w w' :=
  walk_v b s t pr g _ _ _ _ _ _ _ w (fun W => btick_any b s t W) (fun W => rtick_any b s t W) (fun W => ballows_any b s t W) (fun W => rallows_any b s t W) (fun W => bbegin_any b s t W) (fun W => rbegin_any b s t W) (fun W => bend_any b s t pr g W) (fun W => rend_any b s t pr g W) (fun W => bcheck_any b s t W) (fun W => rcheck_any b s t W) (fun W => balive_any W)

set_option maxRecDepth 100000 in
theorem lifted (os : Os) (started : os.Started) (H : Type) (enc : TypeId × Value → H) :
    ReturnsInHanded {} Try.checked os 3 .any (Rows.breakerTellsSpec.pre6 enc Try.prog Try.f3 Rows.breakerTellsRow.domain false) (Rows.breakerTellsSpec.post enc Try.prog Try.f3 false true false false) := by
  refine returnsInHanded_of_change (C := Try.checked) own started (by kernel_rfl) Try.func3
    (ChangeSpec.witness6 (enc := enc) (C := Try.checked) false ⟨#[], #[.agg #[.int .i64 0, .int .i64 0, .int .i64 0, .int .i64 0, .int .i64 0], .agg #[.int .i64 0, .int .i64 0, .int .i64 0], .int .i64 0, .bool false, .bool false], []⟩ 8 (by kernel_rfl) (by kernel_rfl) (by kernel_rfl) (by kernel_rfl)) ?_
  intro W base args ds gs before hval0 hW hcnd _
  have hval : ∀ (j : Nat) t v, Try.f3.params[j]? = some t → args[j]? = some v → Value.okWide Try.prog W .any base t v := hval0
  have hW' := hW
  obtain ⟨p, q, hA0, hV, rfl, hfz, hnd⟩ := hW
  have hA : DataW.TrodAll enc Try.prog W 0 (fun _ => true) true Try.f3.params.toList args.toList ds p := hA0
  rw [Try.params3] at hA hval
  obtain ⟨v0, vs0, d0, ds0, p0, q0, hargs, rfl, rfl, h0, r0⟩ := trodAll_cons hA
  obtain ⟨v1, vs1, d1, ds1, p1, q1, rfl, rfl, rfl, h1, r1⟩ := trodAll_cons r0
  obtain ⟨v2, vs2, d2, ds2, p2, q2, rfl, rfl, rfl, h2, r2⟩ := trodAll_cons r1
  obtain ⟨v3, vs3, d3, ds3, p3, q3, rfl, rfl, rfl, h3, r3⟩ := trodAll_cons r2
  obtain ⟨v4, vs4, d4, ds4, p4, q4, rfl, rfl, rfl, h4, r4⟩ := trodAll_cons r3
  obtain ⟨rfl, rfl, rfl⟩ := trodAll_nil r4
  obtain rfl : args = #[v0, v1, v2, v3, v4] := by cases args; simp_all
  obtain ⟨rfl, rfl⟩ := trodVars_none hV
  have k0 := h0
  have lt0 : ∀ x ∈ p0, x.block < W.heap.size := by obtain ⟨m, hm⟩ := k0; exact DataW.trod_lt m _ _ _ hm
  obtain ⟨x0, hv0⟩ := open_breaker (hval 0 23 v0 rfl rfl) h0
  subst hv0
  have k1 := h1
  have lt1 : ∀ x ∈ p1, x.block < W.heap.size := by obtain ⟨m, hm⟩ := k1; exact DataW.trod_lt m _ _ _ hm
  obtain ⟨x1, hv1⟩ := open_set (hval 1 25 v1 rfl rfl) h1
  subst hv1
  obtain ⟨a2, rfl, rfl, rfl, w2⟩ := open_int Try.underlying3 (hval 2 3 v2 rfl rfl) h2
  obtain ⟨b3, rfl, rfl, rfl⟩ := open_bool Try.underlying4 (hval 3 4 v3 rfl rfl) h3
  obtain ⟨b4, rfl, rfl, rfl⟩ := open_bool Try.underlying4 (hval 4 4 v4 rfl rfl) h4
  clear hA0 hval0
  refine (walk x0 x1 a2 w2 b3 b4).mono fun e W' ⟨he, bel⟩ => ?_
  subst he
  exact ⟨_, rfl, _, _, _, [], _, [], hW', trodAll_mk1 (shut_bool Try.underlying4 _), (trodAll_cons_mk (Below.trod laidOut (by kernel_rfl) (of_decide_eq_true (by kernel_rfl)) k0 bel lt0) (trodAll_cons_mk (Below.trod laidOut (by kernel_rfl) (of_decide_eq_true (by kernel_rfl)) k1 bel lt1) (trodAll_cons_mk (shut_int Try.underlying3 w2) (trodAll_cons_mk (shut_bool Try.underlying4 b3) (trodAll_cons_mk (shut_bool Try.underlying4 b4) trodAll_mk0))))), rfl, bel.frame _, fun h => by cases h⟩

theorem over : Rows.breakerTellsRow.holds Try.pinned (OpenSpec.ofChange Rows.breakerTellsSpec) :=
  OpenClaim.holds_of_wide 3 Try.f3 rfl rfl rfl rfl rfl rfl rfl ⟨rfl, rfl, rfl, rfl, rfl⟩ rfl rfl rfl rfl rfl (by kernel_rfl) Try.func3 (by kernel_rfl)
    (of_decide_eq_true (by kernel_rfl)) (by unfold Func.isWrapper; first | (rw [if_pos (by decide +kernel)]; kernel_rfl) | (rw [if_neg (by decide +kernel)]; exact ⟨rfl, rfl⟩))
    (fun os started H enc _ => lifted os started H enc)
end Go.Proofs.Ytkfkhhhoboenkaa.breakerTells

namespace Go.Proofs.Ytkfkhhhoboenkaa
/-- THE STATEMENT. -/
theorem breakerTells_holds : Rows.BreakerTellsSaid := breakerTells.over
#print axioms breakerTells_holds
end Go.Proofs.Ytkfkhhhoboenkaa
