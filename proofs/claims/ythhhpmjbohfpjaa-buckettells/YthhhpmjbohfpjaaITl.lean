/- The statement BucketTells. -/
import Derived.Test.YthhhpmjbohfpjaaRows
import Derived.BigQuiet
import Derived.Deep.QuietTactic
import Derived.WalkKit
import Derived.ProofKit
import Derived.OpenShut
import Derived.ShutString
import Derived.Test.YthhhpmjbohfpjaaIJ
namespace Go.Proofs.Ythhhpmjbohfpjaa.bucketTells
open Go.ChangeShapes Go.WideShapes Go.ChangeAt Go.RowKit
open Go.ChangeMaps (open_string shut_string)
set_option linter.unusedVariables false
set_option maxRecDepth 20000

set_option maxHeartbeats 4000000 in
theorem walk_v (s : Bu.Se) (v n sr se cr ae kr tr ck : Int) (tb : Bool) (w : World)
    (C0a : ∀ W, Calls Try.prog 9 #[vS s] W fun e w' => e = .returned (.tuple #[.int .i64 sr, .int .i64 se]) ∧ Below W.heap.size W w')
    (C0b : ∀ W, Calls Try.prog 10 #[vS s] W fun e w' => e = .returned (.tuple #[.int .i64 sr, .int .i64 se]) ∧ Below W.heap.size W w')
    (C1a : ∀ W, Calls Try.prog 11 #[vS s, .int .i64 v, .int .i64 n] W fun e w' => e = .returned (.tuple #[.int .i64 cr, .int .i64 ae]) ∧ Below W.heap.size W w')
    (C1b : ∀ W, Calls Try.prog 12 #[vS s, .int .i64 v, .int .i64 n] W fun e w' => e = .returned (.tuple #[.int .i64 cr, .int .i64 ae]) ∧ Below W.heap.size W w')
    (C2a : ∀ W, Calls Try.prog 13 #[vS s, .int .i64 v, .int .i64 n] W fun e w' => e = .returned (.tuple #[.int .i64 kr, .int .i64 ae]) ∧ Below W.heap.size W w')
    (C2b : ∀ W, Calls Try.prog 14 #[vS s, .int .i64 v, .int .i64 n] W fun e w' => e = .returned (.tuple #[.int .i64 kr, .int .i64 ae]) ∧ Below W.heap.size W w')
    (C3a : ∀ W, Calls Try.prog 15 #[vS s, .int .i64 v] W fun e w' => e = .returned (.tuple #[.int .i64 tr, .bool tb, .int .i64 ck]) ∧ Below W.heap.size W w')
    (C3b : ∀ W, Calls Try.prog 16 #[vS s, .int .i64 v] W fun e w' => e = .returned (.tuple #[.int .i64 tr, .bool tb, .int .i64 ck]) ∧ Below W.heap.size W w')
    (C4a : ∀ W, Calls Try.prog 18 #[vS s, .int .i64 v] W fun e w' => e = .returned (.int .i64 ck) ∧ Below W.heap.size W w')
    (C4b : ∀ W, Calls Try.prog 19 #[vS s, .int .i64 v] W fun e w' => e = .returned (.int .i64 ck) ∧ Below W.heap.size W w')
    (Cal : ∀ W, Calls Try.prog 20 #[] W fun e w' => e = .returned (.bool true) ∧ Below W.heap.size W w') :
    Calls Try.prog 3 #[vS s, .int .i64 v, .int .i64 n] w fun e w' => e = .returned (.bool true) ∧ Below w.heap.size w w' := by
  have H0a := hidD C0a
  have H0b := hidD C0b
  have H1a := hidD C1a
  have H1b := hidD C1b
  have H2a := hidD C2a
  have H2b := hidD C2b
  have H3a := hidD C3a
  have H3b := hidD C3b
  have H4a := hidD C4a
  have H4b := hidD C4b
  have Hal := hidD Cal
  clear C0a C0b C1a C1b C2a C2b C3a C3b C4a C4b Cal
  have X0 := hidD (Bo.new w (sL s) 23)
  have HB := hidD ((Below.refl w.heap.size w).alloc (Nat.le_refl _) (.cells (sL s).toArray 23))
  have HS : Hid (w.heap.size + 1 ≤ (w.alloc (.cells (sL s).toArray 23)).heap.size) := hidD (by rw [World.size_alloc]; omega)
  obtain ⟨W0, hW0⟩ : ∃ W0, W0 = w.alloc (.cells (sL s).toArray 23) := ⟨_, rfl⟩
  obtain ⟨N, hN⟩ : ∃ N, N = w.heap.size := ⟨_, rfl⟩
  rw [← hW0] at X0 HB HS
  rw [← hN] at X0 HB HS ⊢
  simp only [sL] at hW0
  have c := H0a.out W0
  have p0 := X0.out.cell 0 rfl
  have p1 := X0.out.cell 1 rfl
  have p2 := X0.out.cell 2 rfl
  have p3 := X0.out.cell 3 rfl
  go_enter Try.func3, Try.ntmps3
  go_wp2_with fail
  rw [← hN, ← hW0]
  clear hN hW0
  with_reducible refine c.mono ?_
  rintro e v0 ⟨rfl, h⟩
  replace X0 := hidD (X0.out.below h)
  replace HB := hidD (below_on HB.out (Nat.le_of_succ_le HS.out) h)
  replace HS := hidD (Nat.le_trans HS.out h.size)
  clear h
  clear c p0 p1 p2 p3
  go_upto_region 2 with fail
  have p0 := X0.out.cell 0 rfl
  have p1 := X0.out.cell 1 rfl
  have p2 := X0.out.cell 2 rfl
  have p3 := X0.out.cell 3 rfl
  have c := hidD (H0b.out v0)
  go_wp2_with fail
  with_reducible refine c.out.mono ?_
  rintro e v1 ⟨rfl, h⟩
  clear c p0 p1 p2 p3
  replace X0 := hidD (X0.out.below h)
  replace HB := hidD (below_on HB.out (Nat.le_of_succ_le HS.out) h)
  replace HS := hidD (Nat.le_trans HS.out h.size)
  clear h
  go_upto_region 3 with fail
  have p0 := X0.out.cell 0 rfl
  have p1 := X0.out.cell 1 rfl
  have p2 := X0.out.cell 2 rfl
  have p3 := X0.out.cell 3 rfl
  have c := hidD (H1a.out v1)
  go_wp2_with fail
  with_reducible refine c.out.mono ?_
  rintro e v2 ⟨rfl, h⟩
  clear c p0 p1 p2 p3
  replace X0 := hidD (X0.out.below h)
  replace HB := hidD (below_on HB.out (Nat.le_of_succ_le HS.out) h)
  replace HS := hidD (Nat.le_trans HS.out h.size)
  clear h
  go_upto_region 4 with fail
  have p0 := X0.out.cell 0 rfl
  have p1 := X0.out.cell 1 rfl
  have p2 := X0.out.cell 2 rfl
  have p3 := X0.out.cell 3 rfl
  have c := hidD (H1b.out v2)
  go_wp2_with fail
  with_reducible refine c.out.mono ?_
  rintro e v3 ⟨rfl, h⟩
  clear c p0 p1 p2 p3
  replace X0 := hidD (X0.out.below h)
  replace HB := hidD (below_on HB.out (Nat.le_of_succ_le HS.out) h)
  replace HS := hidD (Nat.le_trans HS.out h.size)
  clear h
  go_upto_region 5 with fail
  have p0 := X0.out.cell 0 rfl
  have p1 := X0.out.cell 1 rfl
  have p2 := X0.out.cell 2 rfl
  have p3 := X0.out.cell 3 rfl
  have c := hidD (H2a.out v3)
  go_wp2_with fail
  with_reducible refine c.out.mono ?_
  rintro e v4 ⟨rfl, h⟩
  clear c p0 p1 p2 p3
  replace X0 := hidD (X0.out.below h)
  replace HB := hidD (below_on HB.out (Nat.le_of_succ_le HS.out) h)
  replace HS := hidD (Nat.le_trans HS.out h.size)
  clear h
  go_upto_region 6 with fail
  have p0 := X0.out.cell 0 rfl
  have p1 := X0.out.cell 1 rfl
  have p2 := X0.out.cell 2 rfl
  have p3 := X0.out.cell 3 rfl
  have c := hidD (H2b.out v4)
  go_wp2_with fail
  with_reducible refine c.out.mono ?_
  rintro e v5 ⟨rfl, h⟩
  clear c p0 p1 p2 p3
  replace X0 := hidD (X0.out.below h)
  replace HB := hidD (below_on HB.out (Nat.le_of_succ_le HS.out) h)
  replace HS := hidD (Nat.le_trans HS.out h.size)
  clear h
  go_upto_region 7 with fail
  have p0 := X0.out.cell 0 rfl
  have p1 := X0.out.cell 1 rfl
  have p2 := X0.out.cell 2 rfl
  have p3 := X0.out.cell 3 rfl
  have c := hidD (H3a.out v5)
  go_wp2_with fail
  with_reducible refine c.out.mono ?_
  rintro e v6 ⟨rfl, h⟩
  clear c p0 p1 p2 p3
  replace X0 := hidD (X0.out.below h)
  replace HB := hidD (below_on HB.out (Nat.le_of_succ_le HS.out) h)
  replace HS := hidD (Nat.le_trans HS.out h.size)
  clear h
  go_upto_region 8 with fail
  have p0 := X0.out.cell 0 rfl
  have p1 := X0.out.cell 1 rfl
  have p2 := X0.out.cell 2 rfl
  have p3 := X0.out.cell 3 rfl
  have c := hidD (H3b.out v6)
  go_wp2_with fail
  with_reducible refine c.out.mono ?_
  rintro e v7 ⟨rfl, h⟩
  clear c p0 p1 p2 p3
  replace X0 := hidD (X0.out.below h)
  replace HB := hidD (below_on HB.out (Nat.le_of_succ_le HS.out) h)
  replace HS := hidD (Nat.le_trans HS.out h.size)
  clear h
  clear H0a H0b H1a H1b H2a H2b H3a H3b
  go_upto_region 9 with fail
  have p0 := X0.out.cell 0 rfl
  have p1 := X0.out.cell 1 rfl
  have p2 := X0.out.cell 2 rfl
  have p3 := X0.out.cell 3 rfl
  have k1 : (sr == sr) = true := by simp
  have k2 : (se == se) = true := by simp
  have k3 : (cr == cr) = true := by simp
  have k4 : (ae == ae) = true := by simp
  have k5 : (kr == kr) = true := by simp
  have k6 : (tr == tr) = true := by simp
  have k7 : (tb == tb) = true := by simp
  have k8 : (ck == ck) = true := by simp
  have HBB := HB.out
  have hss : N ≤ _ := Nat.le_of_succ_le HS.out
  clear HB HS X0
  generalize Value.tuple #[.int .i64 sr, .int .i64 se] = g1
  generalize Value.tuple #[.int .i64 cr, .int .i64 ae] = g2
  generalize Value.tuple #[.int .i64 kr, .int .i64 ae] = g3
  generalize Value.tuple #[.int .i64 tr, .bool tb, .int .i64 ck] = g4
  generalize Value.agg #[.int .i64 s.c, .int .i64 s.t, .int .i64 s.r, .int .i64 s.p] = g5
  go_region_held (fun w' => w'.cell? ⟨N, 0, none⟩ = some (.int .i64 s.c) ∧ w'.cell? ⟨N, 1, none⟩ = some (.int .i64 s.t) ∧ w'.cell? ⟨N, 2, none⟩ = some (.int .i64 s.r) ∧ w'.cell? ⟨N, 3, none⟩ = some (.int .i64 s.p) ∧ Below N w w' ∧ N ≤ w'.heap.size) (first | exact keep4 (by assumption) (by assumption) | exact keep4d ⟨p0, p1, p2, p3, HBB, hss⟩ | assumption) (first | (go_at_call 18; refine (H4a.out _).mono ?_; rintro e ww ⟨rfl, hww⟩) | (go_at_call 19; refine (H4b.out _).mono ?_; rintro e ww ⟨rfl, hww⟩) | (go_at_call 20; refine (Hal.out _).mono ?_; rintro e ww ⟨rfl, hww⟩) | (go_at_call 17; refine (num_any _ _).mono ?_; rintro e ww ⟨rfl, rfl⟩))
  all_goals
    go_wp2
    go_ret
    exact ⟨rfl, keep4b (by assumption)⟩

theorem walk (s : Bu.Se) (v : Int) (wv : (Lit.int .i64 v).wf = true) (n : Int) (wn : (Lit.int .i64 n).wf = true) {w : World} :
    Calls Try.prog 3 #[vS s, .int .i64 v, .int .i64 n] w fun e w' => e = .returned (.bool true) ∧ Below w.heap.size w w' :=
  walk_v s v n _ _ _ _ _ _ _ _ w (fun W => ostart_any s W) (fun W => rstart_any s W) (fun W => ocalls_any s v n W) (fun W => rcalls_any s v n W) (fun W => oticks_any s v n W) (fun W => rticks_any s v n W) (fun W => otake_any s v W) (fun W => rtake_any s v W) (fun W => bcheck_any s v W) (fun W => rcheck_any s v W) (fun W => ualive_any W)

set_option maxRecDepth 100000 in
theorem lifted (os : Os) (started : os.Started) (H : Type) (enc : TypeId × Value → H) :
    ReturnsInHanded {} Try.checked os 3 .any (Rows.bucketTellsSpec.pre6 enc Try.prog Try.f3 Rows.bucketTellsRow.domain false) (Rows.bucketTellsSpec.post enc Try.prog Try.f3 false true false false) := by
  refine returnsInHanded_of_change (C := Try.checked) own started (by kernel_rfl) Try.func3
    (ChangeSpec.witness6 (enc := enc) (C := Try.checked) false ⟨#[], #[.agg #[.int .i64 0, .int .i64 0, .int .i64 0, .int .i64 0], .int .i64 0, .int .i64 0], []⟩ 8 (by kernel_rfl) (by kernel_rfl) (by kernel_rfl) (by kernel_rfl)) ?_
  intro W base args ds gs before hval0 hW hcnd _
  have hval : ∀ (j : Nat) t v, Try.f3.params[j]? = some t → args[j]? = some v → Value.okWide Try.prog W .any base t v := hval0
  have hW' := hW
  obtain ⟨p, q, hA0, hV, rfl, hfz, hnd⟩ := hW
  have hA : DataW.TrodAll enc Try.prog W 0 (fun _ => true) true Try.f3.params.toList args.toList ds p := hA0
  rw [Try.params3] at hA hval
  obtain ⟨v0, vs0, d0, ds0, p0, q0, hargs, rfl, rfl, h0, r0⟩ := trodAll_cons hA
  obtain ⟨v1, vs1, d1, ds1, p1, q1, rfl, rfl, rfl, h1, r1⟩ := trodAll_cons r0
  obtain ⟨v2, vs2, d2, ds2, p2, q2, rfl, rfl, rfl, h2, r2⟩ := trodAll_cons r1
  obtain ⟨rfl, rfl, rfl⟩ := trodAll_nil r2
  obtain rfl : args = #[v0, v1, v2] := by cases args; simp_all
  obtain ⟨rfl, rfl⟩ := trodVars_none hV
  have k0 := h0
  have lt0 : ∀ x ∈ p0, x.block < W.heap.size := by obtain ⟨m, hm⟩ := k0; exact DataW.trod_lt m _ _ _ hm
  obtain ⟨x0, hv0⟩ := open_uset (hval 0 23 v0 rfl rfl) h0
  subst hv0
  obtain ⟨a1, rfl, rfl, rfl, w1⟩ := open_int Try.underlying3 (hval 1 3 v1 rfl rfl) h1
  obtain ⟨a2, rfl, rfl, rfl, w2⟩ := open_int Try.underlying3 (hval 2 3 v2 rfl rfl) h2
  clear hA0 hval0
  refine (walk x0 a1 w1 a2 w2).mono fun e W' ⟨he, bel⟩ => ?_
  subst he
  exact ⟨_, rfl, _, _, _, [], _, [], hW', trodAll_mk1 (shut_bool Try.underlying4 _), (trodAll_cons_mk (Below.trod laidOut (by kernel_rfl) (of_decide_eq_true (by kernel_rfl)) k0 bel lt0) (trodAll_cons_mk (shut_int Try.underlying3 w1) (trodAll_cons_mk (shut_int Try.underlying3 w2) trodAll_mk0))), rfl, bel.frame _, fun h => by cases h⟩

theorem over : Rows.bucketTellsRow.holds Try.pinned (OpenSpec.ofChange Rows.bucketTellsSpec) :=
  OpenClaim.holds_of_wide 3 Try.f3 rfl rfl rfl rfl rfl rfl rfl ⟨rfl, rfl, rfl, rfl, rfl⟩ rfl rfl rfl rfl rfl (by kernel_rfl) Try.func3 (by kernel_rfl)
    (of_decide_eq_true (by kernel_rfl)) (by unfold Func.isWrapper; first | (rw [if_pos (by decide +kernel)]; kernel_rfl) | (rw [if_neg (by decide +kernel)]; exact ⟨rfl, rfl⟩))
    (fun os started H enc _ => lifted os started H enc)
end Go.Proofs.Ythhhpmjbohfpjaa.bucketTells

namespace Go.Proofs.Ythhhpmjbohfpjaa
/-- THE STATEMENT. -/
theorem bucketTells_holds : Rows.BucketTellsSaid := bucketTells.over
#print axioms bucketTells_holds
end Go.Proofs.Ythhhpmjbohfpjaa
