/- Whatever settings and acts are handed in: BreakerRuns returns true, and they read as they did. -/
import Derived.Test.YtkfkhhhoboenkaaRows
import Derived.BigQuiet
import Derived.Deep.QuietTactic
import Derived.WalkKit
import Derived.ProofKit
import Derived.OpenShut
import Derived.ShutString
import Derived.Test.YtkfkhhhoboenkaaCB
import Derived.Test.YtkfkhhhoboenkaaOpenK
namespace Go.Proofs.Ytkfkhhhoboenkaa.breakerRuns
open Go.ChangeShapes Go.WideShapes Go.ChangeAt Go.RowKit
open Go.ChangeMaps (open_string shut_string)
set_option linter.unusedVariables false
set_option maxRecDepth 20000

set_option maxHeartbeats 1000000 in
theorem walk_v (s : Br.Se) (v : Value) (l : List Br.Ac) (R : Br.St) (E : Int) (T : List Int) (w : World) (hs : ASeg w v l)
    (C1 : ∀ W, ASeg W v l → Calls Try.prog 21 #[vS s, v] W fun e w' => ∃ v', e = .returned (.tuple #[vB R, v', .int .i64 E]) ∧ w'.ownsRow W.heap.size 3 1 v' T.length (i64s T) ∧ Below W.heap.size W w')
    (C2 : ∀ W, ASeg W v l → Calls Try.prog 22 #[vS s, v] W fun e w' => ∃ v', e = .returned (.tuple #[vB R, v', .int .i64 E]) ∧ w'.ownsRow W.heap.size 3 1 v' T.length (i64s T) ∧ Below W.heap.size W w')
    (C20 : ∀ W, Calls Try.prog 20 #[] W fun e w' => e = .returned (.bool true) ∧ Below W.heap.size W w') :
    Calls Try.prog 4 #[vS s, v] w fun e w' => e = .returned (.bool true) ∧ Below w.heap.size w w' := by
  have HV := hidD hs
  obtain ⟨av, cv, rfl, _, q2, _, _⟩ := hs
  unfold maxLen at q2
  have H1 := hidD C1
  have H2 := hidD C2
  have H20 := hidD C20
  clear C1 C2 C20
  have X0 := Bo.new w [.int .i64 s.f, .int .i64 s.o, .int .i64 s.p] 25
  have HB : Below w.heap.size w (w.alloc (.cells #[.int .i64 s.f, .int .i64 s.o, .int .i64 s.p] 25)) := (Below.refl _ _).alloc (Nat.le_refl _) _
  have hs0 : w.heap.size + 1 ≤ (w.alloc (.cells #[.int .i64 s.f, .int .i64 s.o, .int .i64 s.p] 25)).heap.size := by simp
  have c := H1.out _ (HV.out.below HB)
  obtain ⟨W0, hW0⟩ : ∃ W0, W0 = w.alloc (.cells #[.int .i64 s.f, .int .i64 s.o, .int .i64 s.p] 25) := ⟨_, rfl⟩
  obtain ⟨N, hN⟩ : ∃ N, N = w.heap.size := ⟨_, rfl⟩
  rw [← hW0] at X0 HB hs0 c
  have HVS : Hid (∀ W, Below N w W → ASeg W (.slice av l.length cv) l) := hidD (fun W h => HV.out.below (hN ▸ h))
  rw [← hN] at X0 HB hs0 ⊢
  go_enter Try.func4, Try.ntmps4
  go_wp2_with fail
  rw [← hN, ← hW0]
  clear hN hW0
  with_reducible refine c.mono ?_
  rintro e w1 ⟨v1, rfl, o1, h1⟩
  have HB1 := below_on HB (by omega) h1
  have hs1 := Nat.le_trans hs0 h1.size
  have X1 := hidD ((X0.below h1).alloc (.cells #[.int .i64 R.m, .int .i64 R.f, .int .i64 R.u, .int .i64 R.p, .int .i64 R.w] 23))
  have Y1 := hidD (Bo.new w1 [.int .i64 R.m, .int .i64 R.f, .int .i64 R.u, .int .i64 R.p, .int .i64 R.w] 23)
  have O1 := hidD (o1.alloc (.cells #[.int .i64 R.m, .int .i64 R.f, .int .i64 R.u, .int .i64 R.p, .int .i64 R.w] 23))
  have B1 := hidD (HB1.alloc (by omega) (.cells #[.int .i64 R.m, .int .i64 R.f, .int .i64 R.u, .int .i64 R.p, .int .i64 R.w] 23))
  have hs2 : N + 1 ≤ (w1.alloc (.cells #[.int .i64 R.m, .int .i64 R.f, .int .i64 R.u, .int .i64 R.p, .int .i64 R.w] 23)).heap.size := by simp; omega
  obtain ⟨a1, c1, rfl⟩ := own_sl o1
  clear c X0 HB hs0 h1 HB1 o1
  go_upto_region 2 with fail
  generalize w1.alloc (.cells #[.int .i64 R.m, .int .i64 R.f, .int .i64 R.u, .int .i64 R.p, .int .i64 R.w] 23) = W1 at *
  generalize w1.heap.size = D1 at *
  have q0 := X1.out.cell 0 rfl
  have q1 := X1.out.cell 1 rfl
  have q2' := X1.out.cell 2 rfl
  have c := H2.out W1 (HVS.out W1 B1.out)
  go_wp2_with fail
  with_reducible refine c.mono ?_
  rintro e w3 ⟨v3, rfl, o3, h3⟩
  have HB3 := below_on B1.out (by omega) h3
  have hs3 := Nat.le_trans hs2 h3.size
  have Y3 := hidD ((Y1.out.below h3).alloc (.cells #[.int .i64 R.m, .int .i64 R.f, .int .i64 R.u, .int .i64 R.p, .int .i64 R.w] 23))
  have Z3 := hidD (Bo.new w3 [.int .i64 R.m, .int .i64 R.f, .int .i64 R.u, .int .i64 R.p, .int .i64 R.w] 23)
  have O3 := hidD ((ownsRow_below O1.out h3).alloc (.cells #[.int .i64 R.m, .int .i64 R.f, .int .i64 R.u, .int .i64 R.p, .int .i64 R.w] 23))
  have P3 := hidD (o3.alloc (.cells #[.int .i64 R.m, .int .i64 R.f, .int .i64 R.u, .int .i64 R.p, .int .i64 R.w] 23))
  have B3 := hidD (HB3.alloc (by omega) (.cells #[.int .i64 R.m, .int .i64 R.f, .int .i64 R.u, .int .i64 R.p, .int .i64 R.w] 23))
  have hs4 : N + 1 ≤ (w3.alloc (.cells #[.int .i64 R.m, .int .i64 R.f, .int .i64 R.u, .int .i64 R.p, .int .i64 R.w] 23)).heap.size := by simp; omega
  obtain ⟨a3, c3, rfl⟩ := own_sl o3
  clear c h3 HB3 o3 Y1 O1 B1 X1 q0 q1 q2' hs2
  go_upto_region 3 with fail
  generalize w3.alloc (.cells #[.int .i64 R.m, .int .i64 R.f, .int .i64 R.u, .int .i64 R.p, .int .i64 R.w] 23) = W3 at *
  generalize w3.heap.size = D3 at *
  have d0 := Y3.out.cell 0 rfl
  have d1 := Y3.out.cell 1 rfl
  have d2 := Y3.out.cell 2 rfl
  have d3 := Y3.out.cell 3 rfl
  have d4 := Y3.out.cell 4 rfl
  have e0 := Z3.out.cell 0 rfl
  have e1 := Z3.out.cell 1 rfl
  have e2 := Z3.out.cell 2 rfl
  have e3 := Z3.out.cell 3 rfl
  have e4 := Z3.out.cell 4 rfl
  have cs := sameInts_any _ _ T T W3 (Seg.own O3.out) (Seg.own P3.out)
  rw [decide_eq_true rfl] at cs
  have k1 : (E == E) = true := by simp
  go_wp2_with fail
  with_reducible refine cs.mono ?_
  rintro e w5 ⟨rfl, h5⟩
  have B5 := hidD (below_on B3.out (by omega) h5)
  have hs5 := Nat.le_trans hs4 h5.size
  have c := H20.out w5
  clear cs h5
  go_wp2_with (go_at_call 17; refine (num_any _ _).mono ?_; rintro e ww ⟨rfl, rfl⟩)
  with_reducible refine c.mono ?_
  rintro e w6 ⟨rfl, h6⟩
  have B6 := hidD (below_on B5.out (by omega) h6)
  clear c h6
  go_wp2
  go_ret
  exact ⟨by first | rfl | simp, B6.out⟩

theorem walk (s : Br.Se) (v : Value) (l : List Br.Ac) {w : World} (hs : ASeg w v l) (ho : ∀ t ∈ l, (Lit.int .i64 t.k).wf = true ∧ (Lit.int .i64 t.t).wf = true) : Calls Try.prog 4 #[vS s, v] w fun e w' => e = .returned (.bool true) ∧ Below w.heap.size w w' :=
  walk_v s v l _ _ _ w hs (fun W h => run_any s v l W h) (fun W h => rrun_any s v l W h) (fun W => balive_any W)

set_option maxRecDepth 100000 in
theorem lifted (os : Os) (started : os.Started) (H : Type) (enc : TypeId × Value → H) :
    ReturnsInHanded {} Try.checked os 4 .any (Rows.breakerRunsSpec.pre6 enc Try.prog Try.f4 Rows.breakerRunsRow.domain false) (Rows.breakerRunsSpec.post enc Try.prog Try.f4 false true false false) := by
  refine returnsInHanded_of_change (C := Try.checked) own started (by kernel_rfl) Try.func4
    (ChangeSpec.witness6 (enc := enc) (C := Try.checked) false ⟨#[], #[.agg #[.int .i64 0, .int .i64 0, .int .i64 0], .slice none 0 0], []⟩ 8 (by kernel_rfl) (by kernel_rfl) (by kernel_rfl) (by kernel_rfl)) ?_
  intro W base args ds gs before hval0 hW hcnd _
  have hval : ∀ (j : Nat) t v, Try.f4.params[j]? = some t → args[j]? = some v → Value.okWide Try.prog W .any base t v := hval0
  have hW' := hW
  obtain ⟨p, q, hA0, hV, rfl, hfz, hnd⟩ := hW
  have hA : DataW.TrodAll enc Try.prog W 0 (fun _ => true) true Try.f4.params.toList args.toList ds p := hA0
  rw [Try.params4] at hA hval
  obtain ⟨v0, vs0, d0, ds0, p0, q0, hargs, rfl, rfl, h0, r0⟩ := trodAll_cons hA
  obtain ⟨v1, vs1, d1, ds1, p1, q1, rfl, rfl, rfl, h1, r1⟩ := trodAll_cons r0
  obtain ⟨rfl, rfl, rfl⟩ := trodAll_nil r1
  obtain rfl : args = #[v0, v1] := by cases args; simp_all
  obtain ⟨rfl, rfl⟩ := trodVars_none hV
  have k0 := h0
  have lt0 : ∀ x ∈ p0, x.block < W.heap.size := by obtain ⟨m, hm⟩ := k0; exact DataW.trod_lt m _ _ _ hm
  obtain ⟨x0, hv0⟩ := open_set (hval 0 25 v0 rfl rfl) h0
  subst hv0
  have k1 := h1
  have lt1 : ∀ x ∈ p1, x.block < W.heap.size := by obtain ⟨m, hm⟩ := k1; exact DataW.trod_lt m _ _ _ hm
  obtain ⟨l1, hs1, ho1, e1⟩ := open_acts (hval 1 46 v1 rfl rfl) h1
  clear hA0 hval0
  refine (walk x0 v1 l1 hs1 ho1).mono fun e W' ⟨he, bel⟩ => ?_
  subst he
  exact ⟨_, rfl, _, _, _, [], _, [], hW', trodAll_mk1 (shut_bool Try.underlying4 _), (trodAll_cons_mk (Below.trod laidOut (by kernel_rfl) (of_decide_eq_true (by kernel_rfl)) k0 bel lt0) (trodAll_cons_mk (Below.trod laidOut (by kernel_rfl) (of_decide_eq_true (by kernel_rfl)) k1 bel lt1) trodAll_mk0)), rfl, bel.frame _, fun h => by cases h⟩

theorem over : Rows.breakerRunsRow.holds Try.pinned (OpenSpec.ofChange Rows.breakerRunsSpec) :=
  OpenClaim.holds_of_wide 4 Try.f4 rfl rfl rfl rfl rfl rfl rfl ⟨rfl, rfl, rfl, rfl, rfl⟩ rfl rfl rfl rfl rfl (by kernel_rfl) Try.func4 (by kernel_rfl)
    (of_decide_eq_true (by kernel_rfl)) (by unfold Func.isWrapper; first | (rw [if_pos (by decide +kernel)]; kernel_rfl) | (rw [if_neg (by decide +kernel)]; exact ⟨rfl, rfl⟩))
    (fun os started H enc _ => lifted os started H enc)
end Go.Proofs.Ytkfkhhhoboenkaa.breakerRuns

namespace Go.Proofs.Ytkfkhhhoboenkaa
/-- THE STATEMENT. -/
theorem breakerRuns_holds : Rows.BreakerRunsSaid := breakerRuns.over
#print axioms breakerRuns_holds
end Go.Proofs.Ytkfkhhhoboenkaa
