/- Whatever breaker, settings, tick and ends are handed in: BreakerMay returns true, and they read as they did. -/
import Derived.Test.YtkfkhhhoboenkaaRows
import Derived.BigQuiet
import Derived.Deep.QuietTactic
import Derived.WalkKit
import Derived.ProofKit
import Derived.OpenShut
import Derived.ShutString
import Derived.Test.YtkfkhhhoboenkaaBU
import Derived.Test.YtkfkhhhoboenkaaOpenK
namespace Go.Proofs.Ytkfkhhhoboenkaa.breakerMay
open Go.ChangeShapes Go.WideShapes Go.ChangeAt Go.RowKit
open Go.ChangeMaps (open_string shut_string)
set_option linter.unusedVariables false
set_option maxRecDepth 20000

set_option maxHeartbeats 4000000 in
theorem walk_v (b : Br.St) (s : Br.Se) (t : Int) (pr g : Bool) (T A E2 : Br.St) (bp : Bool) (k be : Int) (w : World)
    (C9 : ∀ W, Calls Try.prog 9 #[vB b, vS s, .int .i64 t] W fun e w' => e = .returned (.tuple #[vB T, .int .i64 k]) ∧ Below W.heap.size W w')
    (C13 : ∀ W, Calls Try.prog 13 #[vB b, vS s, .int .i64 t] W fun e w' => e = .returned (.tuple #[vB A, .bool bp, .int .i64 be]) ∧ Below W.heap.size W w')
    (C15 : ∀ W, Calls Try.prog 15 #[vB b, vS s, .int .i64 t, .bool pr, .bool g] W fun e w' => e = .returned (.tuple #[vB E2, .int .i64 k]) ∧ Below W.heap.size W w')
    (C18 : k = 0 → ∀ W, Calls Try.prog 18 #[vB T, vS s, .int .i64 t] W fun e w' => e = .returned (.int .i64 0) ∧ Below W.heap.size W w')
    (C19 : k = 0 → b.p ≠ 1000 → be = 0 → ∀ W, Calls Try.prog 18 #[vB A, vS s, .int .i64 t] W fun e w' => e = .returned (.int .i64 0) ∧ Below W.heap.size W w')
    (C17 : k = 0 → ∀ W, Calls Try.prog 18 #[vB E2, vS s, .int .i64 t] W fun e w' => e = .returned (.int .i64 0) ∧ Below W.heap.size W w')
    (C20 : ∀ W, Calls Try.prog 20 #[] W fun e w' => e = .returned (.bool true) ∧ Below W.heap.size W w')
    (hT : k ≠ 0 → T = Br.zero) (hE : k = 0 → be = 0 ∨ be = 9) :
    Calls Try.prog 5 #[vB b, vS s, .int .i64 t, .bool pr, .bool g] w fun e w' => e = .returned (.bool true) ∧ Below w.heap.size w w' := by
  obtain ⟨W0, hW0, X0, X1, HB, HS⟩ := two_boxes w (bL b) (sL s) 23 25
  have H9 := hidD C9
  have H13 := hidD C13
  have H15 := hidD C15
  have H18 := hidD C18
  have H19 := hidD C19
  have H17 := hidD C17
  have H20 := hidD C20
  have HT := hidD hT
  have HE := hidD hE
  clear C9 C13 C15 C18 C19 C17 C20 hT hE
  simp only [bL, sL] at hW0
  obtain ⟨N, hN⟩ : ∃ N, N = w.heap.size := ⟨_, rfl⟩
  rw [← hN] at X0 X1 HB HS ⊢
  have hs : N + 2 ≤ W0.heap.size := by omega
  clear HS
  have c := H20.out W0
  go_enter Try.func5, Try.ntmps5
  go_wp2_with fail
  rw [← hN, ← hW0]
  clear hN hW0
  with_reducible refine c.mono ?_
  rintro e va ⟨rfl, h⟩
  clear c
  replace X0 := X0.below h
  replace X1 := X1.below h
  replace HB := below_on HB (by omega) h
  replace hs := Nat.le_trans hs h.size
  clear h
  have p0 := X0.cell 0 rfl
  have p1 := X0.cell 1 rfl
  have p2 := X0.cell 2 rfl
  have p3 := X0.cell 3 rfl
  have p4 := X0.cell 4 rfl
  have q0 := X1.cell 0 rfl
  have q1 := X1.cell 1 rfl
  have q2 := X1.cell 2 rfl
  have c := H9.out va
  go_wp2_with fail
  with_reducible refine c.mono ?_
  rintro e v0 ⟨rfl, h⟩
  clear p0 p1 p2 p3 p4 q0 q1 q2 c
  replace X0 := X0.below h
  replace X1 := X1.below h
  replace HB := below_on HB (by omega) h
  replace hs := Nat.le_trans hs h.size
  clear h
  have Y0 := Bo.new v0 [.int .i64 T.m, .int .i64 T.f, .int .i64 T.u, .int .i64 T.p, .int .i64 T.w] 23
  replace X0 := X0.alloc (.cells #[.int .i64 T.m, .int .i64 T.f, .int .i64 T.u, .int .i64 T.p, .int .i64 T.w] 23)
  replace X1 := X1.alloc (.cells #[.int .i64 T.m, .int .i64 T.f, .int .i64 T.u, .int .i64 T.p, .int .i64 T.w] 23)
  replace HB := HB.alloc (by omega) (.cells #[.int .i64 T.m, .int .i64 T.f, .int .i64 T.u, .int .i64 T.p, .int .i64 T.w] 23)
  replace hs : N + 2 ≤ (v0.alloc (.cells #[.int .i64 T.m, .int .i64 T.f, .int .i64 T.u, .int .i64 T.p, .int .i64 T.w] 23)).heap.size := by rw [World.size_alloc]; omega
  replace X0 := hidD X0
  replace X1 := hidD X1
  replace Y0 := hidD Y0
  replace HB := hidD HB
  replace hs := hidD hs
  go_upto_region 4 with fail
  replace X0 := X0.out
  replace X1 := X1.out
  replace Y0 := Y0.out
  replace HB := HB.out
  replace hs := hs.out
  generalize v0.alloc (.cells #[.int .i64 T.m, .int .i64 T.f, .int .i64 T.u, .int .i64 T.p, .int .i64 T.w] 23) = u0 at *
  generalize v0.heap.size = n0 at *
  by_cases hk : k = 0
  case neg =>
    have e1 := HT.out hk
    subst e1
    have hk1 : (k != 0) = true := by simp [hk]
    have HBB := hidD HB
    have a0 := Y0.cell 0 rfl
    have a1 := Y0.cell 1 rfl
    have a2 := Y0.cell 2 rfl
    have a3 := Y0.cell 3 rfl
    have a4 := Y0.cell 4 rfl
    unfold Br.zero at a0 a1 a2 a3 a4
    clear X0 X1 Y0 HB hs hk H9 H13 H15 H18 H19 H17 H20 HT HE
    go_wp2_with (go_at_call 17; refine (num_any _ _).mono ?_; rintro e ww ⟨rfl, rfl⟩)
    go_ret
    exact ⟨rfl, HBB.out⟩
  subst hk
  replace X0 := hidD X0
  replace X1 := hidD X1
  replace Y0 := hidD Y0
  replace HB := hidD HB
  replace hs := hidD hs
  go_upto_region 6 with (go_at_call 17; refine (num_any _ _).mono ?_; rintro e ww ⟨rfl, rfl⟩)
  replace X0 := X0.out
  replace X1 := X1.out
  replace Y0 := Y0.out
  replace HB := HB.out
  replace hs := hs.out
  have p0 := X0.cell 0 rfl
  have p1 := X0.cell 1 rfl
  have p2 := X0.cell 2 rfl
  have p3 := X0.cell 3 rfl
  have p4 := X0.cell 4 rfl
  have q0 := X1.cell 0 rfl
  have q1 := X1.cell 1 rfl
  have q2 := X1.cell 2 rfl
  have c := H13.out u0
  go_wp2_with fail
  with_reducible refine c.mono ?_
  rintro e v1 ⟨rfl, h⟩
  clear p0 p1 p2 p3 p4 q0 q1 q2 c
  replace X0 := X0.below h
  replace X1 := X1.below h
  replace Y0 := Y0.below h
  replace HB := below_on HB (by omega) h
  replace hs := Nat.le_trans hs h.size
  clear h
  have Y1 := Bo.new v1 [.int .i64 A.m, .int .i64 A.f, .int .i64 A.u, .int .i64 A.p, .int .i64 A.w] 23
  replace X0 := X0.alloc (.cells #[.int .i64 A.m, .int .i64 A.f, .int .i64 A.u, .int .i64 A.p, .int .i64 A.w] 23)
  replace X1 := X1.alloc (.cells #[.int .i64 A.m, .int .i64 A.f, .int .i64 A.u, .int .i64 A.p, .int .i64 A.w] 23)
  replace Y0 := Y0.alloc (.cells #[.int .i64 A.m, .int .i64 A.f, .int .i64 A.u, .int .i64 A.p, .int .i64 A.w] 23)
  replace HB := HB.alloc (by omega) (.cells #[.int .i64 A.m, .int .i64 A.f, .int .i64 A.u, .int .i64 A.p, .int .i64 A.w] 23)
  replace hs : N + 2 ≤ (v1.alloc (.cells #[.int .i64 A.m, .int .i64 A.f, .int .i64 A.u, .int .i64 A.p, .int .i64 A.w] 23)).heap.size := by rw [World.size_alloc]; omega
  replace X0 := hidD X0
  replace X1 := hidD X1
  replace Y0 := hidD Y0
  replace Y1 := hidD Y1
  replace HB := hidD HB
  replace hs := hidD hs
  go_upto_region 7 with fail
  replace X0 := X0.out
  replace X1 := X1.out
  replace Y0 := Y0.out
  replace Y1 := Y1.out
  replace HB := HB.out
  replace hs := hs.out
  generalize v1.alloc (.cells #[.int .i64 A.m, .int .i64 A.f, .int .i64 A.u, .int .i64 A.p, .int .i64 A.w] 23) = u1 at *
  generalize v1.heap.size = n1 at *
  have p0 := X0.cell 0 rfl
  have p1 := X0.cell 1 rfl
  have p2 := X0.cell 2 rfl
  have p3 := X0.cell 3 rfl
  have p4 := X0.cell 4 rfl
  have q0 := X1.cell 0 rfl
  have q1 := X1.cell 1 rfl
  have q2 := X1.cell 2 rfl
  have c := H15.out u1
  go_wp2_with fail
  with_reducible refine c.mono ?_
  rintro e v2 ⟨rfl, h⟩
  clear p0 p1 p2 p3 p4 q0 q1 q2 c
  replace X0 := X0.below h
  replace X1 := X1.below h
  replace Y0 := Y0.below h
  replace Y1 := Y1.below h
  replace HB := below_on HB (by omega) h
  replace hs := Nat.le_trans hs h.size
  clear h
  have Y2 := Bo.new v2 [.int .i64 E2.m, .int .i64 E2.f, .int .i64 E2.u, .int .i64 E2.p, .int .i64 E2.w] 23
  replace X0 := X0.alloc (.cells #[.int .i64 E2.m, .int .i64 E2.f, .int .i64 E2.u, .int .i64 E2.p, .int .i64 E2.w] 23)
  replace X1 := X1.alloc (.cells #[.int .i64 E2.m, .int .i64 E2.f, .int .i64 E2.u, .int .i64 E2.p, .int .i64 E2.w] 23)
  replace Y0 := Y0.alloc (.cells #[.int .i64 E2.m, .int .i64 E2.f, .int .i64 E2.u, .int .i64 E2.p, .int .i64 E2.w] 23)
  replace Y1 := Y1.alloc (.cells #[.int .i64 E2.m, .int .i64 E2.f, .int .i64 E2.u, .int .i64 E2.p, .int .i64 E2.w] 23)
  replace HB := HB.alloc (by omega) (.cells #[.int .i64 E2.m, .int .i64 E2.f, .int .i64 E2.u, .int .i64 E2.p, .int .i64 E2.w] 23)
  replace hs : N + 2 ≤ (v2.alloc (.cells #[.int .i64 E2.m, .int .i64 E2.f, .int .i64 E2.u, .int .i64 E2.p, .int .i64 E2.w] 23)).heap.size := by rw [World.size_alloc]; omega
  replace X0 := hidD X0
  replace X1 := hidD X1
  replace Y0 := hidD Y0
  replace Y1 := hidD Y1
  replace Y2 := hidD Y2
  replace HB := hidD HB
  replace hs := hidD hs
  go_upto_region 8 with fail
  replace X0 := X0.out
  replace X1 := X1.out
  replace Y0 := Y0.out
  replace Y1 := Y1.out
  replace Y2 := Y2.out
  replace HB := HB.out
  replace hs := hs.out
  generalize v2.alloc (.cells #[.int .i64 E2.m, .int .i64 E2.f, .int .i64 E2.u, .int .i64 E2.p, .int .i64 E2.w] 23) = u2 at *
  generalize v2.heap.size = n2 at *
  have p1 := X0.cell 1 rfl
  have p3 := X0.cell 3 rfl
  have p4 := X0.cell 4 rfl
  have V0 := hidD X0
  have V1 := hidD X1
  have V2 := hidD Y0
  have V3 := hidD Y1
  have V4 := hidD Y2
  have VB := hidD HB
  have Vs := hidD hs
  clear X0 X1 Y0 Y1 Y2 HB hs
  by_cases hf : b.f = 1000
  case pos =>
    have e1 : (b.f == 1000) = true := by simp [hf]
    go_wp2_with (go_at_call 17; refine (num_any _ _).mono ?_; rintro e ww ⟨rfl, rfl⟩)
    go_ret
    exact ⟨rfl, VB.out⟩
  have e1 : (b.f == 1000) = false := by simp [hf]
  by_cases hp : b.p = 1000
  case pos =>
    have e3 : (b.p == 1000) = true := by simp [hp]
    go_wp2_with (go_at_call 17; refine (num_any _ _).mono ?_; rintro e ww ⟨rfl, rfl⟩)
    go_ret
    exact ⟨rfl, VB.out⟩
  have e3 : (b.p == 1000) = false := by simp [hp]
  by_cases hw : b.w = 1000
  case pos =>
    have e4 : (b.w == 1000) = true := by simp [hw]
    go_wp2_with (go_at_call 17; refine (num_any _ _).mono ?_; rintro e ww ⟨rfl, rfl⟩)
    go_ret
    exact ⟨rfl, VB.out⟩
  have e4 : (b.w == 1000) = false := by simp [hw]
  go_upto_region 10 with fail
  have hbe := HE.out (by first | trivial | rfl)
  rcases hbe with hbe | hbe
  case inl =>
    subst hbe
    have K18 := H18.out (by first | trivial | rfl)
    have K17 := H17.out (by first | trivial | rfl)
    have K19 := H19.out (by first | trivial | rfl) hp (by first | trivial | rfl)
    have a0 := V2.out.cell 0 rfl
    have a1 := V2.out.cell 1 rfl
    have a2 := V2.out.cell 2 rfl
    have a3 := V2.out.cell 3 rfl
    have a4 := V2.out.cell 4 rfl
    have q0 := V1.out.cell 0 rfl
    have q1 := V1.out.cell 1 rfl
    have q2 := V1.out.cell 2 rfl
    have c0 := V3.out.cell 0 rfl
    have c1 := V3.out.cell 1 rfl
    have c2 := V3.out.cell 2 rfl
    have c3 := V3.out.cell 3 rfl
    have c4 := V3.out.cell 4 rfl
    have d0 := V4.out.cell 0 rfl
    have d1 := V4.out.cell 1 rfl
    have d2 := V4.out.cell 2 rfl
    have d3 := V4.out.cell 3 rfl
    have d4 := V4.out.cell 4 rfl
    have HBB := VB.out
    have hss := Nat.le_trans (Nat.le_add_right N 2) Vs.out
    clear p1 p3 p4 V0 V1 V2 V3 V4 VB Vs e1 e3 e4 H9 H13 H15 H18 H19 H17 H20 HT HE hf hw hp
    refine wp_region_held_drew (S := (fun w' => w'.cell? ⟨n0, 0, none⟩ = some (.int .i64 T.m) ∧ w'.cell? ⟨n0, 1, none⟩ = some (.int .i64 T.f) ∧ w'.cell? ⟨n0, 2, none⟩ = some (.int .i64 T.u) ∧ w'.cell? ⟨n0, 3, none⟩ = some (.int .i64 T.p) ∧ w'.cell? ⟨n0, 4, none⟩ = some (.int .i64 T.w) ∧ w'.cell? ⟨N + 1, 0, none⟩ = some (.int .i64 s.f) ∧ w'.cell? ⟨N + 1, 1, none⟩ = some (.int .i64 s.o) ∧ w'.cell? ⟨N + 1, 2, none⟩ = some (.int .i64 s.p) ∧ w'.cell? ⟨n1, 0, none⟩ = some (.int .i64 A.m) ∧ w'.cell? ⟨n1, 1, none⟩ = some (.int .i64 A.f) ∧ w'.cell? ⟨n1, 2, none⟩ = some (.int .i64 A.u) ∧ w'.cell? ⟨n1, 3, none⟩ = some (.int .i64 A.p) ∧ w'.cell? ⟨n1, 4, none⟩ = some (.int .i64 A.w) ∧ w'.cell? ⟨n2, 0, none⟩ = some (.int .i64 E2.m) ∧ w'.cell? ⟨n2, 1, none⟩ = some (.int .i64 E2.f) ∧ w'.cell? ⟨n2, 2, none⟩ = some (.int .i64 E2.u) ∧ w'.cell? ⟨n2, 3, none⟩ = some (.int .i64 E2.p) ∧ w'.cell? ⟨n2, 4, none⟩ = some (.int .i64 E2.w) ∧ Below N w w' ∧ N ≤ w'.heap.size)) (by kernel_rfl) (by exact keep18d ⟨a0, a1, a2, a3, a4, q0, q1, q2, c0, c1, c2, c3, c4, d0, d1, d2, d3, d4, HBB, hss⟩) (fun hHeld => ?_)
    refine wpAnyH_take (i := 0) (oi := { dst := some 66, op := Op.load 23 (Operand.tmp 11), type := _, pos := _, after := _, guard := _ }) (v := ?_) rfl (by kernel_rfl) (by kernel_rfl) (by kernel_rfl) (fun _ _ _ h => h) (Or.inl ⟨by rfl, ?_⟩) (by assumption) ?_
    rotate_left
    · intro w hSw
      (try dsimp only at hSw)
      go_simp
      all_goals with_reducible rfl
    try simp only [Act.put, List.setIfInBounds_toArray, List.set_cons_zero, List.set_cons_succ]
    refine wpAnyH_take (i := 1) (oi := { dst := some 67, op := Op.load 25 (Operand.tmp 6), type := _, pos := _, after := _, guard := _ }) (v := ?_) rfl (by kernel_rfl) (by kernel_rfl) (by kernel_rfl) (fun _ _ _ h => h) (Or.inl ⟨by rfl, ?_⟩) (by assumption) ?_
    rotate_left
    · intro w hSw
      (try dsimp only at hSw)
      go_simp
      all_goals with_reducible rfl
    try simp only [Act.put, List.setIfInBounds_toArray, List.set_cons_zero, List.set_cons_succ]
    refine wpAnyH_take (i := 2) (oi := { dst := some 68, op := Op.move (Operand.tmp 2), type := _, pos := _, after := _, guard := _ }) (v := ?_) rfl (by kernel_rfl) (by kernel_rfl) (by kernel_rfl) (fun _ _ _ h => h) (Or.inl ⟨by rfl, ?_⟩) (by assumption) ?_
    rotate_left
    · intro w hSw
      (try dsimp only at hSw)
      go_simp
      all_goals with_reducible rfl
    try simp only [Act.put, List.setIfInBounds_toArray, List.set_cons_zero, List.set_cons_succ]
    refine wpAnyH_ready (rs := [3]) (by kernel_rfl) (by simp) ?_
    refine AllReadyH.cons rfl (fun K hK => ?_) AllReadyH.nil
    go_simp
    go_wp2_with (first | (go_at_call 18; (first | with_reducible refine (K18 _).mono ?_ | with_reducible refine (K17 _).mono ?_ | with_reducible refine (K19 _).mono ?_); rintro e ww ⟨rfl, hww⟩) | (go_at_call 17; refine (num_any _ _).mono ?_; rintro e ww ⟨rfl, rfl⟩))
    refine hK.out _ _ ?_ (fun hHeld => ?_)
    · (try dsimp only)
      first | exact keep18 (by assumption) (by assumption) | assumption
    clear hK K
    refine wpAnyH_ready (rs := [4]) (by kernel_rfl) (by simp) ?_
    refine AllReadyH.cons rfl (fun K hK => ?_) AllReadyH.nil
    go_simp
    go_wp2_with (first | (go_at_call 18; (first | with_reducible refine (K18 _).mono ?_ | with_reducible refine (K17 _).mono ?_ | with_reducible refine (K19 _).mono ?_); rintro e ww ⟨rfl, hww⟩) | (go_at_call 17; refine (num_any _ _).mono ?_; rintro e ww ⟨rfl, rfl⟩))
    refine hK.out _ _ ?_ (fun hHeld => ?_)
    · (try dsimp only)
      first | exact keep18 (by assumption) (by assumption) | assumption
    clear hK K
    refine wpAnyH_take (i := 5) (oi := { dst := some 71, op := Op.binOp BinOp.eql 3 (Operand.tmp 70) (Operand.const (Value.int IntKind.i64 0)) 3, type := _, pos := _, after := _, guard := _ }) (v := ?_) rfl (by kernel_rfl) (by kernel_rfl) (by kernel_rfl) (fun _ _ _ h => h) (Or.inl ⟨by rfl, ?_⟩) (by assumption) ?_
    rotate_left
    · intro w hSw
      (try dsimp only at hSw)
      go_simp
      all_goals with_reducible rfl
    try simp only [Act.put, List.setIfInBounds_toArray, List.set_cons_zero, List.set_cons_succ]
    refine wpAnyH_take (i := 6) (oi := { dst := some 72, op := Op.move (Operand.tmp 71), type := _, pos := _, after := _, guard := _ }) (v := ?_) rfl (by kernel_rfl) (by kernel_rfl) (by kernel_rfl) (fun _ _ _ h => h) (Or.inl ⟨by rfl, ?_⟩) (by assumption) ?_
    rotate_left
    · intro w hSw
      (try dsimp only at hSw)
      go_simp
      all_goals with_reducible rfl
    try simp only [Act.put, List.setIfInBounds_toArray, List.set_cons_zero, List.set_cons_succ]
    refine wpAnyH_take (i := 7) (oi := { dst := some 73, op := Op.move (Operand.tmp 15), type := _, pos := _, after := _, guard := _ }) (v := ?_) rfl (by kernel_rfl) (by kernel_rfl) (by kernel_rfl) (fun _ _ _ h => h) (Or.inl ⟨by rfl, ?_⟩) (by assumption) ?_
    rotate_left
    · intro w hSw
      (try dsimp only at hSw)
      go_simp
      all_goals with_reducible rfl
    try simp only [Act.put, List.setIfInBounds_toArray, List.set_cons_zero, List.set_cons_succ]
    refine wpAnyH_ready (rs := [8]) (by kernel_rfl) (by simp) ?_
    refine AllReadyH.cons rfl (fun K hK => ?_) AllReadyH.nil
    go_simp
    go_wp2_with (first | (go_at_call 18; (first | with_reducible refine (K18 _).mono ?_ | with_reducible refine (K17 _).mono ?_ | with_reducible refine (K19 _).mono ?_); rintro e ww ⟨rfl, hww⟩) | (go_at_call 17; refine (num_any _ _).mono ?_; rintro e ww ⟨rfl, rfl⟩))
    refine hK.out _ _ ?_ (fun hHeld => ?_)
    · (try dsimp only)
      first | exact keep18 (by assumption) (by assumption) | assumption
    clear hK K
    refine wpAnyH_take (i := 9) (oi := { dst := some 75, op := Op.binOp BinOp.neq 3 (Operand.tmp 74) (Operand.const (Value.int IntKind.i64 0)) 3, type := _, pos := _, after := _, guard := _ }) (v := ?_) rfl (by kernel_rfl) (by kernel_rfl) (by kernel_rfl) (fun _ _ _ h => h) (Or.inl ⟨by rfl, ?_⟩) (by assumption) ?_
    rotate_left
    · intro w hSw
      (try dsimp only at hSw)
      go_simp
      all_goals with_reducible rfl
    try simp only [Act.put, List.setIfInBounds_toArray, List.set_cons_zero, List.set_cons_succ]
    refine wpAnyH_take (i := 10) (oi := { dst := some 76, op := Op.move (Operand.tmp 75), type := _, pos := _, after := _, guard := _ }) (v := ?_) rfl (by kernel_rfl) (by kernel_rfl) (by kernel_rfl) (fun _ _ _ h => h) (Or.inl ⟨by rfl, ?_⟩) (by assumption) ?_
    rotate_left
    · intro w hSw
      (try dsimp only at hSw)
      go_simp
      all_goals with_reducible rfl
    try simp only [Act.put, List.setIfInBounds_toArray, List.set_cons_zero, List.set_cons_succ]
    refine wpAnyH_take (i := 11) (oi := { dst := some 77, op := Op.load 23 (Operand.tmp 13), type := _, pos := _, after := _, guard := _ }) (v := ?_) rfl (by kernel_rfl) (by kernel_rfl) (by kernel_rfl) (fun _ _ _ h => h) (Or.inl ⟨by rfl, ?_⟩) (by assumption) ?_
    rotate_left
    · intro w hSw
      (try dsimp only at hSw)
      go_simp
      all_goals with_reducible rfl
    try simp only [Act.put, List.setIfInBounds_toArray, List.set_cons_zero, List.set_cons_succ]
    refine wpAnyH_take (i := 12) (oi := { dst := some 78, op := Op.load 25 (Operand.tmp 6), type := _, pos := _, after := _, guard := _ }) (v := ?_) rfl (by kernel_rfl) (by kernel_rfl) (by kernel_rfl) (fun _ _ _ h => h) (Or.inl ⟨by rfl, ?_⟩) (by assumption) ?_
    rotate_left
    · intro w hSw
      (try dsimp only at hSw)
      go_simp
      all_goals with_reducible rfl
    try simp only [Act.put, List.setIfInBounds_toArray, List.set_cons_zero, List.set_cons_succ]
    refine wpAnyH_take (i := 13) (oi := { dst := some 79, op := Op.move (Operand.tmp 2), type := _, pos := _, after := _, guard := _ }) (v := ?_) rfl (by kernel_rfl) (by kernel_rfl) (by kernel_rfl) (fun _ _ _ h => h) (Or.inl ⟨by rfl, ?_⟩) (by assumption) ?_
    rotate_left
    · intro w hSw
      (try dsimp only at hSw)
      go_simp
      all_goals with_reducible rfl
    try simp only [Act.put, List.setIfInBounds_toArray, List.set_cons_zero, List.set_cons_succ]
    refine wpAnyH_ready (rs := [14]) (by kernel_rfl) (by simp) ?_
    refine AllReadyH.cons rfl (fun K hK => ?_) AllReadyH.nil
    go_simp
    go_wp2_with (first | (go_at_call 18; (first | with_reducible refine (K18 _).mono ?_ | with_reducible refine (K17 _).mono ?_ | with_reducible refine (K19 _).mono ?_); rintro e ww ⟨rfl, hww⟩) | (go_at_call 17; refine (num_any _ _).mono ?_; rintro e ww ⟨rfl, rfl⟩))
    refine hK.out _ _ ?_ (fun hHeld => ?_)
    · (try dsimp only)
      first | exact keep18 (by assumption) (by assumption) | assumption
    clear hK K
    refine wpAnyH_ready (rs := [15]) (by kernel_rfl) (by simp) ?_
    refine AllReadyH.cons rfl (fun K hK => ?_) AllReadyH.nil
    go_simp
    go_wp2_with (first | (go_at_call 18; (first | with_reducible refine (K18 _).mono ?_ | with_reducible refine (K17 _).mono ?_ | with_reducible refine (K19 _).mono ?_); rintro e ww ⟨rfl, hww⟩) | (go_at_call 17; refine (num_any _ _).mono ?_; rintro e ww ⟨rfl, rfl⟩))
    refine hK.out _ _ ?_ (fun hHeld => ?_)
    · (try dsimp only)
      first | exact keep18 (by assumption) (by assumption) | assumption
    clear hK K
    refine wpAnyH_take (i := 16) (oi := { dst := some 82, op := Op.binOp BinOp.eql 3 (Operand.tmp 81) (Operand.const (Value.int IntKind.i64 0)) 3, type := _, pos := _, after := _, guard := _ }) (v := ?_) rfl (by kernel_rfl) (by kernel_rfl) (by kernel_rfl) (fun _ _ _ h => h) (Or.inl ⟨by rfl, ?_⟩) (by assumption) ?_
    rotate_left
    · intro w hSw
      (try dsimp only at hSw)
      go_simp
      all_goals with_reducible rfl
    try simp only [Act.put, List.setIfInBounds_toArray, List.set_cons_zero, List.set_cons_succ]
    refine wpAnyH_take (i := 17) (oi := { dst := some 83, op := Op.pick (Operand.tmp 76) (Operand.const (Value.bool true)) (Operand.tmp 82), type := _, pos := _, after := _, guard := _ }) (v := ?_) rfl (by kernel_rfl) (by kernel_rfl) (by kernel_rfl) (fun _ _ _ h => h) (Or.inl ⟨by rfl, ?_⟩) (by assumption) ?_
    rotate_left
    · intro w hSw
      (try dsimp only at hSw)
      go_simp
      all_goals with_reducible rfl
    try simp only [Act.put, List.setIfInBounds_toArray, List.set_cons_zero, List.set_cons_succ]
    refine wpAnyH_take (i := 18) (oi := { dst := some 84, op := Op.pick (Operand.tmp 72) (Operand.tmp 83) (Operand.const (Value.bool false)), type := _, pos := _, after := _, guard := _ }) (v := ?_) rfl (by kernel_rfl) (by kernel_rfl) (by kernel_rfl) (fun _ _ _ h => h) (Or.inl ⟨by rfl, ?_⟩) (by assumption) ?_
    rotate_left
    · intro w hSw
      (try dsimp only at hSw)
      go_simp
      all_goals with_reducible rfl
    try simp only [Act.put, List.setIfInBounds_toArray, List.set_cons_zero, List.set_cons_succ]
    refine wpAnyH_take (i := 19) (oi := { dst := some 85, op := Op.move (Operand.tmp 84), type := _, pos := _, after := _, guard := _ }) (v := ?_) rfl (by kernel_rfl) (by kernel_rfl) (by kernel_rfl) (fun _ _ _ h => h) (Or.inl ⟨by rfl, ?_⟩) (by assumption) ?_
    rotate_left
    · intro w hSw
      (try dsimp only at hSw)
      go_simp
      all_goals with_reducible rfl
    try simp only [Act.put, List.setIfInBounds_toArray, List.set_cons_zero, List.set_cons_succ]
    refine wpAnyH_take (i := 20) (oi := { dst := some 86, op := Op.move (Operand.tmp 17), type := _, pos := _, after := _, guard := _ }) (v := ?_) rfl (by kernel_rfl) (by kernel_rfl) (by kernel_rfl) (fun _ _ _ h => h) (Or.inl ⟨by rfl, ?_⟩) (by assumption) ?_
    rotate_left
    · intro w hSw
      (try dsimp only at hSw)
      go_simp
      all_goals with_reducible rfl
    try simp only [Act.put, List.setIfInBounds_toArray, List.set_cons_zero, List.set_cons_succ]
    refine wpAnyH_take (i := 22) (oi := { dst := some 88, op := Op.load 23 (Operand.tmp 16), type := _, pos := _, after := _, guard := _ }) (v := ?_) rfl (by kernel_rfl) (by kernel_rfl) (by kernel_rfl) (fun _ _ _ h => h) (Or.inl ⟨by rfl, ?_⟩) (by assumption) ?_
    rotate_left
    · intro w hSw
      (try dsimp only at hSw)
      go_simp
      all_goals with_reducible rfl
    try simp only [Act.put, List.setIfInBounds_toArray, List.set_cons_zero, List.set_cons_succ]
    refine wpAnyH_take (i := 23) (oi := { dst := some 89, op := Op.load 25 (Operand.tmp 6), type := _, pos := _, after := _, guard := _ }) (v := ?_) rfl (by kernel_rfl) (by kernel_rfl) (by kernel_rfl) (fun _ _ _ h => h) (Or.inl ⟨by rfl, ?_⟩) (by assumption) ?_
    rotate_left
    · intro w hSw
      (try dsimp only at hSw)
      go_simp
      all_goals with_reducible rfl
    try simp only [Act.put, List.setIfInBounds_toArray, List.set_cons_zero, List.set_cons_succ]
    refine wpAnyH_take (i := 24) (oi := { dst := some 90, op := Op.move (Operand.tmp 2), type := _, pos := _, after := _, guard := _ }) (v := ?_) rfl (by kernel_rfl) (by kernel_rfl) (by kernel_rfl) (fun _ _ _ h => h) (Or.inl ⟨by rfl, ?_⟩) (by assumption) ?_
    rotate_left
    · intro w hSw
      (try dsimp only at hSw)
      go_simp
      all_goals with_reducible rfl
    try simp only [Act.put, List.setIfInBounds_toArray, List.set_cons_zero, List.set_cons_succ]
    refine wpAnyH_ready (rs := [21]) (by kernel_rfl) (by simp) ?_
    refine AllReadyH.cons rfl (fun K hK => ?_) AllReadyH.nil
    go_simp
    go_wp2_with (first | (go_at_call 18; (first | with_reducible refine (K18 _).mono ?_ | with_reducible refine (K17 _).mono ?_ | with_reducible refine (K19 _).mono ?_); rintro e ww ⟨rfl, hww⟩) | (go_at_call 17; refine (num_any _ _).mono ?_; rintro e ww ⟨rfl, rfl⟩))
    refine hK.out _ _ ?_ (fun hHeld => ?_)
    · (try dsimp only)
      first | exact keep18 (by assumption) (by assumption) | assumption
    clear hK K
    refine wpAnyH_ready (rs := [25]) (by kernel_rfl) (by simp) ?_
    refine AllReadyH.cons rfl (fun K hK => ?_) AllReadyH.nil
    go_simp
    go_wp2_with (first | (go_at_call 18; (first | with_reducible refine (K18 _).mono ?_ | with_reducible refine (K17 _).mono ?_ | with_reducible refine (K19 _).mono ?_); rintro e ww ⟨rfl, hww⟩) | (go_at_call 17; refine (num_any _ _).mono ?_; rintro e ww ⟨rfl, rfl⟩))
    refine hK.out _ _ ?_ (fun hHeld => ?_)
    · (try dsimp only)
      first | exact keep18 (by assumption) (by assumption) | assumption
    clear hK K
    refine wpAnyH_ready (rs := [26]) (by kernel_rfl) (by simp) ?_
    refine AllReadyH.cons rfl (fun K hK => ?_) AllReadyH.nil
    go_simp
    go_wp2_with (first | (go_at_call 18; (first | with_reducible refine (K18 _).mono ?_ | with_reducible refine (K17 _).mono ?_ | with_reducible refine (K19 _).mono ?_); rintro e ww ⟨rfl, hww⟩) | (go_at_call 17; refine (num_any _ _).mono ?_; rintro e ww ⟨rfl, rfl⟩))
    refine hK.out _ _ ?_ (fun hHeld => ?_)
    · (try dsimp only)
      first | exact keep18 (by assumption) (by assumption) | assumption
    clear hK K
    refine wpAnyH_take (i := 27) (oi := { dst := some 93, op := Op.binOp BinOp.add 3 (Operand.tmp 87) (Operand.tmp 92) 3, type := _, pos := _, after := _, guard := _ }) (v := ?_) rfl (by kernel_rfl) (by kernel_rfl) (by kernel_rfl) (fun _ _ _ h => h) (Or.inl ⟨by rfl, ?_⟩) (by assumption) ?_
    rotate_left
    · intro w hSw
      (try dsimp only at hSw)
      go_simp
      all_goals with_reducible rfl
    try simp only [Act.put, List.setIfInBounds_toArray, List.set_cons_zero, List.set_cons_succ]
    refine wpAnyH_take (i := 28) (oi := { dst := some 94, op := Op.binOp BinOp.eql 3 (Operand.tmp 93) (Operand.const (Value.int IntKind.i64 0)) 3, type := _, pos := _, after := _, guard := _ }) (v := ?_) rfl (by kernel_rfl) (by kernel_rfl) (by kernel_rfl) (fun _ _ _ h => h) (Or.inl ⟨by rfl, ?_⟩) (by assumption) ?_
    rotate_left
    · intro w hSw
      (try dsimp only at hSw)
      go_simp
      all_goals with_reducible rfl
    try simp only [Act.put, List.setIfInBounds_toArray, List.set_cons_zero, List.set_cons_succ]
    refine wpAnyH_take (i := 29) (oi := { dst := some 95, op := Op.pick (Operand.tmp 85) (Operand.tmp 94) (Operand.const (Value.bool false)), type := _, pos := _, after := _, guard := _ }) (v := ?_) rfl (by kernel_rfl) (by kernel_rfl) (by kernel_rfl) (fun _ _ _ h => h) (Or.inl ⟨by rfl, ?_⟩) (by assumption) ?_
    rotate_left
    · intro w hSw
      (try dsimp only at hSw)
      go_simp
      all_goals with_reducible rfl
    try simp only [Act.put, List.setIfInBounds_toArray, List.set_cons_zero, List.set_cons_succ]
    refine wpAnyH_take (i := 30) (oi := { dst := some 10, op := Op.assign (Operand.tmp 95), type := _, pos := _, after := _, guard := _ }) (v := ?_) rfl (by kernel_rfl) (by kernel_rfl) (by kernel_rfl) (fun _ _ _ h => h) (Or.inl ⟨by rfl, ?_⟩) (by assumption) ?_
    rotate_left
    · intro w hSw
      (try dsimp only at hSw)
      go_simp
      all_goals with_reducible rfl
    try simp only [Act.put, List.setIfInBounds_toArray, List.set_cons_zero, List.set_cons_succ]
    refine wpAnyH_done (by kernel_rfl) ?_ _
    all_goals
      go_wp2
      go_ret
      exact ⟨rfl, keep18b (by assumption)⟩
  case inr =>
    subst hbe
    have K18 := H18.out (by first | trivial | rfl)
    have K17 := H17.out (by first | trivial | rfl)
    have a0 := V2.out.cell 0 rfl
    have a1 := V2.out.cell 1 rfl
    have a2 := V2.out.cell 2 rfl
    have a3 := V2.out.cell 3 rfl
    have a4 := V2.out.cell 4 rfl
    have q0 := V1.out.cell 0 rfl
    have q1 := V1.out.cell 1 rfl
    have q2 := V1.out.cell 2 rfl
    have c0 := V3.out.cell 0 rfl
    have c1 := V3.out.cell 1 rfl
    have c2 := V3.out.cell 2 rfl
    have c3 := V3.out.cell 3 rfl
    have c4 := V3.out.cell 4 rfl
    have d0 := V4.out.cell 0 rfl
    have d1 := V4.out.cell 1 rfl
    have d2 := V4.out.cell 2 rfl
    have d3 := V4.out.cell 3 rfl
    have d4 := V4.out.cell 4 rfl
    have HBB := VB.out
    have hss := Nat.le_trans (Nat.le_add_right N 2) Vs.out
    clear p1 p3 p4 V0 V1 V2 V3 V4 VB Vs e1 e3 e4 H9 H13 H15 H18 H19 H17 H20 HT HE hf hw hp
    refine wp_region_held_drew (S := (fun w' => w'.cell? ⟨n0, 0, none⟩ = some (.int .i64 T.m) ∧ w'.cell? ⟨n0, 1, none⟩ = some (.int .i64 T.f) ∧ w'.cell? ⟨n0, 2, none⟩ = some (.int .i64 T.u) ∧ w'.cell? ⟨n0, 3, none⟩ = some (.int .i64 T.p) ∧ w'.cell? ⟨n0, 4, none⟩ = some (.int .i64 T.w) ∧ w'.cell? ⟨N + 1, 0, none⟩ = some (.int .i64 s.f) ∧ w'.cell? ⟨N + 1, 1, none⟩ = some (.int .i64 s.o) ∧ w'.cell? ⟨N + 1, 2, none⟩ = some (.int .i64 s.p) ∧ w'.cell? ⟨n1, 0, none⟩ = some (.int .i64 A.m) ∧ w'.cell? ⟨n1, 1, none⟩ = some (.int .i64 A.f) ∧ w'.cell? ⟨n1, 2, none⟩ = some (.int .i64 A.u) ∧ w'.cell? ⟨n1, 3, none⟩ = some (.int .i64 A.p) ∧ w'.cell? ⟨n1, 4, none⟩ = some (.int .i64 A.w) ∧ w'.cell? ⟨n2, 0, none⟩ = some (.int .i64 E2.m) ∧ w'.cell? ⟨n2, 1, none⟩ = some (.int .i64 E2.f) ∧ w'.cell? ⟨n2, 2, none⟩ = some (.int .i64 E2.u) ∧ w'.cell? ⟨n2, 3, none⟩ = some (.int .i64 E2.p) ∧ w'.cell? ⟨n2, 4, none⟩ = some (.int .i64 E2.w) ∧ Below N w w' ∧ N ≤ w'.heap.size)) (by kernel_rfl) (by exact keep18d ⟨a0, a1, a2, a3, a4, q0, q1, q2, c0, c1, c2, c3, c4, d0, d1, d2, d3, d4, HBB, hss⟩) (fun hHeld => ?_)
    refine wpAnyH_take (i := 0) (oi := { dst := some 66, op := Op.load 23 (Operand.tmp 11), type := _, pos := _, after := _, guard := _ }) (v := ?_) rfl (by kernel_rfl) (by kernel_rfl) (by kernel_rfl) (fun _ _ _ h => h) (Or.inl ⟨by rfl, ?_⟩) (by assumption) ?_
    rotate_left
    · intro w hSw
      (try dsimp only at hSw)
      go_simp
      all_goals with_reducible rfl
    try simp only [Act.put, List.setIfInBounds_toArray, List.set_cons_zero, List.set_cons_succ]
    refine wpAnyH_take (i := 1) (oi := { dst := some 67, op := Op.load 25 (Operand.tmp 6), type := _, pos := _, after := _, guard := _ }) (v := ?_) rfl (by kernel_rfl) (by kernel_rfl) (by kernel_rfl) (fun _ _ _ h => h) (Or.inl ⟨by rfl, ?_⟩) (by assumption) ?_
    rotate_left
    · intro w hSw
      (try dsimp only at hSw)
      go_simp
      all_goals with_reducible rfl
    try simp only [Act.put, List.setIfInBounds_toArray, List.set_cons_zero, List.set_cons_succ]
    refine wpAnyH_take (i := 2) (oi := { dst := some 68, op := Op.move (Operand.tmp 2), type := _, pos := _, after := _, guard := _ }) (v := ?_) rfl (by kernel_rfl) (by kernel_rfl) (by kernel_rfl) (fun _ _ _ h => h) (Or.inl ⟨by rfl, ?_⟩) (by assumption) ?_
    rotate_left
    · intro w hSw
      (try dsimp only at hSw)
      go_simp
      all_goals with_reducible rfl
    try simp only [Act.put, List.setIfInBounds_toArray, List.set_cons_zero, List.set_cons_succ]
    refine wpAnyH_ready (rs := [3]) (by kernel_rfl) (by simp) ?_
    refine AllReadyH.cons rfl (fun K hK => ?_) AllReadyH.nil
    go_simp
    go_wp2_with (first | (go_at_call 18; (first | with_reducible refine (K18 _).mono ?_ | with_reducible refine (K17 _).mono ?_); rintro e ww ⟨rfl, hww⟩) | (go_at_call 17; refine (num_any _ _).mono ?_; rintro e ww ⟨rfl, rfl⟩))
    refine hK.out _ _ ?_ (fun hHeld => ?_)
    · (try dsimp only)
      first | exact keep18 (by assumption) (by assumption) | assumption
    clear hK K
    refine wpAnyH_ready (rs := [4]) (by kernel_rfl) (by simp) ?_
    refine AllReadyH.cons rfl (fun K hK => ?_) AllReadyH.nil
    go_simp
    go_wp2_with (first | (go_at_call 18; (first | with_reducible refine (K18 _).mono ?_ | with_reducible refine (K17 _).mono ?_); rintro e ww ⟨rfl, hww⟩) | (go_at_call 17; refine (num_any _ _).mono ?_; rintro e ww ⟨rfl, rfl⟩))
    refine hK.out _ _ ?_ (fun hHeld => ?_)
    · (try dsimp only)
      first | exact keep18 (by assumption) (by assumption) | assumption
    clear hK K
    refine wpAnyH_take (i := 5) (oi := { dst := some 71, op := Op.binOp BinOp.eql 3 (Operand.tmp 70) (Operand.const (Value.int IntKind.i64 0)) 3, type := _, pos := _, after := _, guard := _ }) (v := ?_) rfl (by kernel_rfl) (by kernel_rfl) (by kernel_rfl) (fun _ _ _ h => h) (Or.inl ⟨by rfl, ?_⟩) (by assumption) ?_
    rotate_left
    · intro w hSw
      (try dsimp only at hSw)
      go_simp
      all_goals with_reducible rfl
    try simp only [Act.put, List.setIfInBounds_toArray, List.set_cons_zero, List.set_cons_succ]
    refine wpAnyH_take (i := 6) (oi := { dst := some 72, op := Op.move (Operand.tmp 71), type := _, pos := _, after := _, guard := _ }) (v := ?_) rfl (by kernel_rfl) (by kernel_rfl) (by kernel_rfl) (fun _ _ _ h => h) (Or.inl ⟨by rfl, ?_⟩) (by assumption) ?_
    rotate_left
    · intro w hSw
      (try dsimp only at hSw)
      go_simp
      all_goals with_reducible rfl
    try simp only [Act.put, List.setIfInBounds_toArray, List.set_cons_zero, List.set_cons_succ]
    refine wpAnyH_take (i := 7) (oi := { dst := some 73, op := Op.move (Operand.tmp 15), type := _, pos := _, after := _, guard := _ }) (v := ?_) rfl (by kernel_rfl) (by kernel_rfl) (by kernel_rfl) (fun _ _ _ h => h) (Or.inl ⟨by rfl, ?_⟩) (by assumption) ?_
    rotate_left
    · intro w hSw
      (try dsimp only at hSw)
      go_simp
      all_goals with_reducible rfl
    try simp only [Act.put, List.setIfInBounds_toArray, List.set_cons_zero, List.set_cons_succ]
    refine wpAnyH_ready (rs := [8]) (by kernel_rfl) (by simp) ?_
    refine AllReadyH.cons rfl (fun K hK => ?_) AllReadyH.nil
    go_simp
    go_wp2_with (first | (go_at_call 18; (first | with_reducible refine (K18 _).mono ?_ | with_reducible refine (K17 _).mono ?_); rintro e ww ⟨rfl, hww⟩) | (go_at_call 17; refine (num_any _ _).mono ?_; rintro e ww ⟨rfl, rfl⟩))
    refine hK.out _ _ ?_ (fun hHeld => ?_)
    · (try dsimp only)
      first | exact keep18 (by assumption) (by assumption) | assumption
    clear hK K
    refine wpAnyH_take (i := 9) (oi := { dst := some 75, op := Op.binOp BinOp.neq 3 (Operand.tmp 74) (Operand.const (Value.int IntKind.i64 0)) 3, type := _, pos := _, after := _, guard := _ }) (v := ?_) rfl (by kernel_rfl) (by kernel_rfl) (by kernel_rfl) (fun _ _ _ h => h) (Or.inl ⟨by rfl, ?_⟩) (by assumption) ?_
    rotate_left
    · intro w hSw
      (try dsimp only at hSw)
      go_simp
      all_goals with_reducible rfl
    try simp only [Act.put, List.setIfInBounds_toArray, List.set_cons_zero, List.set_cons_succ]
    refine wpAnyH_take (i := 10) (oi := { dst := some 76, op := Op.move (Operand.tmp 75), type := _, pos := _, after := _, guard := _ }) (v := ?_) rfl (by kernel_rfl) (by kernel_rfl) (by kernel_rfl) (fun _ _ _ h => h) (Or.inl ⟨by rfl, ?_⟩) (by assumption) ?_
    rotate_left
    · intro w hSw
      (try dsimp only at hSw)
      go_simp
      all_goals with_reducible rfl
    try simp only [Act.put, List.setIfInBounds_toArray, List.set_cons_zero, List.set_cons_succ]
    refine wpAnyH_take (i := 11) (oi := { dst := some 77, op := Op.load 23 (Operand.tmp 13), type := _, pos := _, after := _, guard := _ }) (v := undef) rfl (by kernel_rfl) (by kernel_rfl) (by kernel_rfl) (fun _ _ _ h => h) (Or.inr ⟨by rfl, rfl⟩) (by assumption) ?_
    try simp only [Act.put, List.setIfInBounds_toArray, List.set_cons_zero, List.set_cons_succ]
    refine wpAnyH_take (i := 12) (oi := { dst := some 78, op := Op.load 25 (Operand.tmp 6), type := _, pos := _, after := _, guard := _ }) (v := undef) rfl (by kernel_rfl) (by kernel_rfl) (by kernel_rfl) (fun _ _ _ h => h) (Or.inr ⟨by rfl, rfl⟩) (by assumption) ?_
    try simp only [Act.put, List.setIfInBounds_toArray, List.set_cons_zero, List.set_cons_succ]
    refine wpAnyH_take (i := 13) (oi := { dst := some 79, op := Op.move (Operand.tmp 2), type := _, pos := _, after := _, guard := _ }) (v := undef) rfl (by kernel_rfl) (by kernel_rfl) (by kernel_rfl) (fun _ _ _ h => h) (Or.inr ⟨by rfl, rfl⟩) (by assumption) ?_
    try simp only [Act.put, List.setIfInBounds_toArray, List.set_cons_zero, List.set_cons_succ]
    refine wpAnyH_take (i := 14) (oi := { dst := some 80, op := Op.call { callee := Callee.value (Operand.func 18), args := #[Operand.tmp 77, Operand.tmp 78, Operand.tmp 79], argTypes := #[23, 25, 3] }, type := _, pos := _, after := _, guard := _ }) (v := undef) rfl (by kernel_rfl) (by kernel_rfl) (by kernel_rfl) (fun _ _ _ h => h) (Or.inr ⟨by rfl, rfl⟩) (by assumption) ?_
    try simp only [Act.put, List.setIfInBounds_toArray, List.set_cons_zero, List.set_cons_succ]
    refine wpAnyH_take (i := 15) (oi := { dst := some 81, op := Op.call { callee := Callee.value (Operand.func 17), args := #[Operand.tmp 80], argTypes := #[26] }, type := _, pos := _, after := _, guard := _ }) (v := undef) rfl (by kernel_rfl) (by kernel_rfl) (by kernel_rfl) (fun _ _ _ h => h) (Or.inr ⟨by rfl, rfl⟩) (by assumption) ?_
    try simp only [Act.put, List.setIfInBounds_toArray, List.set_cons_zero, List.set_cons_succ]
    refine wpAnyH_take (i := 16) (oi := { dst := some 82, op := Op.binOp BinOp.eql 3 (Operand.tmp 81) (Operand.const (Value.int IntKind.i64 0)) 3, type := _, pos := _, after := _, guard := _ }) (v := undef) rfl (by kernel_rfl) (by kernel_rfl) (by kernel_rfl) (fun _ _ _ h => h) (Or.inr ⟨by rfl, rfl⟩) (by assumption) ?_
    try simp only [Act.put, List.setIfInBounds_toArray, List.set_cons_zero, List.set_cons_succ]
    refine wpAnyH_take (i := 17) (oi := { dst := some 83, op := Op.pick (Operand.tmp 76) (Operand.const (Value.bool true)) (Operand.tmp 82), type := _, pos := _, after := _, guard := _ }) (v := ?_) rfl (by kernel_rfl) (by kernel_rfl) (by kernel_rfl) (fun _ _ _ h => h) (Or.inl ⟨by rfl, ?_⟩) (by assumption) ?_
    rotate_left
    · intro w hSw
      (try dsimp only at hSw)
      go_simp
      all_goals with_reducible rfl
    try simp only [Act.put, List.setIfInBounds_toArray, List.set_cons_zero, List.set_cons_succ]
    refine wpAnyH_take (i := 18) (oi := { dst := some 84, op := Op.pick (Operand.tmp 72) (Operand.tmp 83) (Operand.const (Value.bool false)), type := _, pos := _, after := _, guard := _ }) (v := ?_) rfl (by kernel_rfl) (by kernel_rfl) (by kernel_rfl) (fun _ _ _ h => h) (Or.inl ⟨by rfl, ?_⟩) (by assumption) ?_
    rotate_left
    · intro w hSw
      (try dsimp only at hSw)
      go_simp
      all_goals with_reducible rfl
    try simp only [Act.put, List.setIfInBounds_toArray, List.set_cons_zero, List.set_cons_succ]
    refine wpAnyH_take (i := 19) (oi := { dst := some 85, op := Op.move (Operand.tmp 84), type := _, pos := _, after := _, guard := _ }) (v := ?_) rfl (by kernel_rfl) (by kernel_rfl) (by kernel_rfl) (fun _ _ _ h => h) (Or.inl ⟨by rfl, ?_⟩) (by assumption) ?_
    rotate_left
    · intro w hSw
      (try dsimp only at hSw)
      go_simp
      all_goals with_reducible rfl
    try simp only [Act.put, List.setIfInBounds_toArray, List.set_cons_zero, List.set_cons_succ]
    refine wpAnyH_take (i := 20) (oi := { dst := some 86, op := Op.move (Operand.tmp 17), type := _, pos := _, after := _, guard := _ }) (v := ?_) rfl (by kernel_rfl) (by kernel_rfl) (by kernel_rfl) (fun _ _ _ h => h) (Or.inl ⟨by rfl, ?_⟩) (by assumption) ?_
    rotate_left
    · intro w hSw
      (try dsimp only at hSw)
      go_simp
      all_goals with_reducible rfl
    try simp only [Act.put, List.setIfInBounds_toArray, List.set_cons_zero, List.set_cons_succ]
    refine wpAnyH_take (i := 22) (oi := { dst := some 88, op := Op.load 23 (Operand.tmp 16), type := _, pos := _, after := _, guard := _ }) (v := ?_) rfl (by kernel_rfl) (by kernel_rfl) (by kernel_rfl) (fun _ _ _ h => h) (Or.inl ⟨by rfl, ?_⟩) (by assumption) ?_
    rotate_left
    · intro w hSw
      (try dsimp only at hSw)
      go_simp
      all_goals with_reducible rfl
    try simp only [Act.put, List.setIfInBounds_toArray, List.set_cons_zero, List.set_cons_succ]
    refine wpAnyH_take (i := 23) (oi := { dst := some 89, op := Op.load 25 (Operand.tmp 6), type := _, pos := _, after := _, guard := _ }) (v := ?_) rfl (by kernel_rfl) (by kernel_rfl) (by kernel_rfl) (fun _ _ _ h => h) (Or.inl ⟨by rfl, ?_⟩) (by assumption) ?_
    rotate_left
    · intro w hSw
      (try dsimp only at hSw)
      go_simp
      all_goals with_reducible rfl
    try simp only [Act.put, List.setIfInBounds_toArray, List.set_cons_zero, List.set_cons_succ]
    refine wpAnyH_take (i := 24) (oi := { dst := some 90, op := Op.move (Operand.tmp 2), type := _, pos := _, after := _, guard := _ }) (v := ?_) rfl (by kernel_rfl) (by kernel_rfl) (by kernel_rfl) (fun _ _ _ h => h) (Or.inl ⟨by rfl, ?_⟩) (by assumption) ?_
    rotate_left
    · intro w hSw
      (try dsimp only at hSw)
      go_simp
      all_goals with_reducible rfl
    try simp only [Act.put, List.setIfInBounds_toArray, List.set_cons_zero, List.set_cons_succ]
    refine wpAnyH_ready (rs := [21]) (by kernel_rfl) (by simp) ?_
    refine AllReadyH.cons rfl (fun K hK => ?_) AllReadyH.nil
    go_simp
    go_wp2_with (first | (go_at_call 18; (first | with_reducible refine (K18 _).mono ?_ | with_reducible refine (K17 _).mono ?_); rintro e ww ⟨rfl, hww⟩) | (go_at_call 17; refine (num_any _ _).mono ?_; rintro e ww ⟨rfl, rfl⟩))
    refine hK.out _ _ ?_ (fun hHeld => ?_)
    · (try dsimp only)
      first | exact keep18 (by assumption) (by assumption) | assumption
    clear hK K
    refine wpAnyH_ready (rs := [25]) (by kernel_rfl) (by simp) ?_
    refine AllReadyH.cons rfl (fun K hK => ?_) AllReadyH.nil
    go_simp
    go_wp2_with (first | (go_at_call 18; (first | with_reducible refine (K18 _).mono ?_ | with_reducible refine (K17 _).mono ?_); rintro e ww ⟨rfl, hww⟩) | (go_at_call 17; refine (num_any _ _).mono ?_; rintro e ww ⟨rfl, rfl⟩))
    refine hK.out _ _ ?_ (fun hHeld => ?_)
    · (try dsimp only)
      first | exact keep18 (by assumption) (by assumption) | assumption
    clear hK K
    refine wpAnyH_ready (rs := [26]) (by kernel_rfl) (by simp) ?_
    refine AllReadyH.cons rfl (fun K hK => ?_) AllReadyH.nil
    go_simp
    go_wp2_with (first | (go_at_call 18; (first | with_reducible refine (K18 _).mono ?_ | with_reducible refine (K17 _).mono ?_); rintro e ww ⟨rfl, hww⟩) | (go_at_call 17; refine (num_any _ _).mono ?_; rintro e ww ⟨rfl, rfl⟩))
    refine hK.out _ _ ?_ (fun hHeld => ?_)
    · (try dsimp only)
      first | exact keep18 (by assumption) (by assumption) | assumption
    clear hK K
    refine wpAnyH_take (i := 27) (oi := { dst := some 93, op := Op.binOp BinOp.add 3 (Operand.tmp 87) (Operand.tmp 92) 3, type := _, pos := _, after := _, guard := _ }) (v := ?_) rfl (by kernel_rfl) (by kernel_rfl) (by kernel_rfl) (fun _ _ _ h => h) (Or.inl ⟨by rfl, ?_⟩) (by assumption) ?_
    rotate_left
    · intro w hSw
      (try dsimp only at hSw)
      go_simp
      all_goals with_reducible rfl
    try simp only [Act.put, List.setIfInBounds_toArray, List.set_cons_zero, List.set_cons_succ]
    refine wpAnyH_take (i := 28) (oi := { dst := some 94, op := Op.binOp BinOp.eql 3 (Operand.tmp 93) (Operand.const (Value.int IntKind.i64 0)) 3, type := _, pos := _, after := _, guard := _ }) (v := ?_) rfl (by kernel_rfl) (by kernel_rfl) (by kernel_rfl) (fun _ _ _ h => h) (Or.inl ⟨by rfl, ?_⟩) (by assumption) ?_
    rotate_left
    · intro w hSw
      (try dsimp only at hSw)
      go_simp
      all_goals with_reducible rfl
    try simp only [Act.put, List.setIfInBounds_toArray, List.set_cons_zero, List.set_cons_succ]
    refine wpAnyH_take (i := 29) (oi := { dst := some 95, op := Op.pick (Operand.tmp 85) (Operand.tmp 94) (Operand.const (Value.bool false)), type := _, pos := _, after := _, guard := _ }) (v := ?_) rfl (by kernel_rfl) (by kernel_rfl) (by kernel_rfl) (fun _ _ _ h => h) (Or.inl ⟨by rfl, ?_⟩) (by assumption) ?_
    rotate_left
    · intro w hSw
      (try dsimp only at hSw)
      go_simp
      all_goals with_reducible rfl
    try simp only [Act.put, List.setIfInBounds_toArray, List.set_cons_zero, List.set_cons_succ]
    refine wpAnyH_take (i := 30) (oi := { dst := some 10, op := Op.assign (Operand.tmp 95), type := _, pos := _, after := _, guard := _ }) (v := ?_) rfl (by kernel_rfl) (by kernel_rfl) (by kernel_rfl) (fun _ _ _ h => h) (Or.inl ⟨by rfl, ?_⟩) (by assumption) ?_
    rotate_left
    · intro w hSw
      (try dsimp only at hSw)
      go_simp
      all_goals with_reducible rfl
    try simp only [Act.put, List.setIfInBounds_toArray, List.set_cons_zero, List.set_cons_succ]
    refine wpAnyH_done (by kernel_rfl) ?_ _
    all_goals
      go_wp2
      go_ret
      exact ⟨rfl, keep18b (by assumption)⟩

theorem walk (b : Br.St) (s : Br.Se) (t : Int) (wt : (Lit.int .i64 t).wf = true) (pr g : Bool) {w : World} : Calls Try.prog 5 #[vB b, vS s, .int .i64 t, .bool pr, .bool g] w fun e w' => e = .returned (.bool true) ∧ Below w.heap.size w w' := by
  refine walk_v b s t pr g _ _ _ _ _ _ w (fun W => btick_any b s t W) (fun W => bbegin_any b s t W) (fun W => bend_any b s t pr g W) (fun hk W => ?_) (fun hk hp hbe W => ?_) (fun hk W => ?_) (fun W => balive_any W) (fun hk => if_neg hk) (fun hk => by unfold Br.begE; rw [if_pos hk]; split <;> simp)
  · obtain ⟨h1, h2, h3, h4⟩ := Br.chk_zero hk
    have c := bcheck_any (Br.tickR b s t) s t W
    rw [show Br.tickR b s t = Br.tick b t from if_pos hk] at c ⊢
    rw [Br.chk_good h1 h2 h3 (Br.tick_may h4)] at c
    exact c
  · obtain ⟨h1, h2, h3, h4⟩ := Br.chk_zero hk
    have ha : Br.allows b s = true := by
      cases ha : Br.allows b s with
      | true => rfl
      | false =>
        unfold Br.begE at hbe
        rw [if_pos hk, ha, if_neg (by decide)] at hbe
        cases hbe
    have c := bcheck_any (Br.begR b s t) s t W
    rw [show Br.begR b s t = Br.beg b from if_pos ⟨hk, ha⟩] at c ⊢
    rw [Br.chk_good h1 h2 h3 (Br.beg_may h4 hp)] at c
    exact c
  · obtain ⟨h1, h2, h3, h4⟩ := Br.chk_zero hk
    have c := bcheck_any (Br.endR b s t pr g) s t W
    rw [show Br.endR b s t pr g = Br.fin b s t pr g from if_pos hk] at c ⊢
    rw [Br.chk_good h1 h2 h3 (Br.fin_may h4 h1 h2 h3)] at c
    exact c

set_option maxRecDepth 100000 in
theorem lifted (os : Os) (started : os.Started) (H : Type) (enc : TypeId × Value → H) :
    ReturnsInHanded {} Try.checked os 5 .any (Rows.breakerMaySpec.pre6 enc Try.prog Try.f5 Rows.breakerMayRow.domain false) (Rows.breakerMaySpec.post enc Try.prog Try.f5 false true false false) := by
  refine returnsInHanded_of_change (C := Try.checked) own started (by kernel_rfl) Try.func5
    (ChangeSpec.witness6 (enc := enc) (C := Try.checked) false ⟨#[], #[.agg #[.int .i64 0, .int .i64 0, .int .i64 0, .int .i64 0, .int .i64 0], .agg #[.int .i64 0, .int .i64 0, .int .i64 0], .int .i64 0, .bool false, .bool false], []⟩ 8 (by kernel_rfl) (by kernel_rfl) (by kernel_rfl) (by kernel_rfl)) ?_
  intro W base args ds gs before hval0 hW hcnd _
  have hval : ∀ (j : Nat) t v, Try.f5.params[j]? = some t → args[j]? = some v → Value.okWide Try.prog W .any base t v := hval0
  have hW' := hW
  obtain ⟨p, q, hA0, hV, rfl, hfz, hnd⟩ := hW
  have hA : DataW.TrodAll enc Try.prog W 0 (fun _ => true) true Try.f5.params.toList args.toList ds p := hA0
  rw [Try.params5] at hA hval
  obtain ⟨v0, vs0, d0, ds0, p0, q0, hargs, rfl, rfl, h0, r0⟩ := trodAll_cons hA
  obtain ⟨v1, vs1, d1, ds1, p1, q1, rfl, rfl, rfl, h1, r1⟩ := trodAll_cons r0
  obtain ⟨v2, vs2, d2, ds2, p2, q2, rfl, rfl, rfl, h2, r2⟩ := trodAll_cons r1
  obtain ⟨v3, vs3, d3, ds3, p3, q3, rfl, rfl, rfl, h3, r3⟩ := trodAll_cons r2
  obtain ⟨v4, vs4, d4, ds4, p4, q4, rfl, rfl, rfl, h4, r4⟩ := trodAll_cons r3
  obtain ⟨rfl, rfl, rfl⟩ := trodAll_nil r4
  obtain rfl : args = #[v0, v1, v2, v3, v4] := by cases args; simp_all
  obtain ⟨rfl, rfl⟩ := trodVars_none hV
  have k0 := h0
  have lt0 : ∀ x ∈ p0, x.block < W.heap.size := by obtain ⟨m, hm⟩ := k0; exact DataW.trod_lt m _ _ _ hm
  obtain ⟨x0, hv0⟩ := open_breaker (hval 0 23 v0 rfl rfl) h0
  subst hv0
  have k1 := h1
  have lt1 : ∀ x ∈ p1, x.block < W.heap.size := by obtain ⟨m, hm⟩ := k1; exact DataW.trod_lt m _ _ _ hm
  obtain ⟨x1, hv1⟩ := open_set (hval 1 25 v1 rfl rfl) h1
  subst hv1
  obtain ⟨a2, rfl, rfl, rfl, w2⟩ := open_int Try.underlying3 (hval 2 3 v2 rfl rfl) h2
  obtain ⟨b3, rfl, rfl, rfl⟩ := open_bool Try.underlying4 (hval 3 4 v3 rfl rfl) h3
  obtain ⟨b4, rfl, rfl, rfl⟩ := open_bool Try.underlying4 (hval 4 4 v4 rfl rfl) h4
  clear hA0 hval0
  refine (walk x0 x1 a2 w2 b3 b4).mono fun e W' ⟨he, bel⟩ => ?_
  subst he
  exact ⟨_, rfl, _, _, _, [], _, [], hW', trodAll_mk1 (shut_bool Try.underlying4 _), (trodAll_cons_mk (Below.trod laidOut (by kernel_rfl) (of_decide_eq_true (by kernel_rfl)) k0 bel lt0) (trodAll_cons_mk (Below.trod laidOut (by kernel_rfl) (of_decide_eq_true (by kernel_rfl)) k1 bel lt1) (trodAll_cons_mk (shut_int Try.underlying3 w2) (trodAll_cons_mk (shut_bool Try.underlying4 b3) (trodAll_cons_mk (shut_bool Try.underlying4 b4) trodAll_mk0))))), rfl, bel.frame _, fun h => by cases h⟩

theorem over : Rows.breakerMayRow.holds Try.pinned (OpenSpec.ofChange Rows.breakerMaySpec) :=
  OpenClaim.holds_of_wide 5 Try.f5 rfl rfl rfl rfl rfl rfl rfl ⟨rfl, rfl, rfl, rfl, rfl⟩ rfl rfl rfl rfl rfl (by kernel_rfl) Try.func5 (by kernel_rfl)
    (of_decide_eq_true (by kernel_rfl)) (by unfold Func.isWrapper; first | (rw [if_pos (by decide +kernel)]; kernel_rfl) | (rw [if_neg (by decide +kernel)]; exact ⟨rfl, rfl⟩))
    (fun os started H enc _ => lifted os started H enc)
end Go.Proofs.Ytkfkhhhoboenkaa.breakerMay

namespace Go.Proofs.Ytkfkhhhoboenkaa
/-- THE STATEMENT. -/
theorem breakerMay_holds : Rows.BreakerMaySaid := breakerMay.over
#print axioms breakerMay_holds
end Go.Proofs.Ytkfkhhhoboenkaa
