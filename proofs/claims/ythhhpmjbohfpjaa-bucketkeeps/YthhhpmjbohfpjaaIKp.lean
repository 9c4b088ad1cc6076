/- The statement BucketKeeps. -/
import Derived.Test.YthhhpmjbohfpjaaRows
import Derived.BigQuiet
import Derived.Deep.QuietTactic
import Derived.WalkKit
import Derived.ProofKit
import Derived.OpenShut
import Derived.ShutString
import Derived.Test.YthhhpmjbohfpjaaIJ
namespace Go.Proofs.Ythhhpmjbohfpjaa.bucketKeeps
open Go.ChangeShapes Go.WideShapes Go.ChangeAt Go.RowKit
open Go.ChangeMaps (open_string shut_string)
set_option linter.unusedVariables false
set_option maxRecDepth 20000

set_option maxHeartbeats 2000000 in
theorem walk (s : Bu.Se) (v : Int) (wv : (Lit.int .i64 v).wf = true) (n : Int) (wn : (Lit.int .i64 n).wf = true) {w : World} :
    Calls Try.prog 6 #[vS s, .int .i64 v, .int .i64 n] w fun e w' => e = .returned (.bool true) ∧ Below w.heap.size w w' := by
  have C1 := hidD (fun W => otake_any s v W)
  have C2 := hidD (fun m W => ocalls_any s v m W)
  have C3 := hidD (fun m W => oticks_any s v m W)
  have C4 := hidD (fun a W => bcheck_any s a W)
  have HG := hidD (@Bu.keeps s v (Bu.thou n))
  have HB0 := hidD (@Bu.keeps_no s v)
  have HR := hidD (Bu.thou_range n)
  obtain ⟨t1, t2, t3, t0⟩ := Bu.thou_wraps n
  generalize Bu.takeR s v = z at *
  generalize Bu.takeB s v = zb at *
  obtain ⟨k, hk⟩ : ∃ k, k = Bu.chk s v := ⟨_, rfl⟩
  rw [← hk] at C1 HG HB0
  clear hk
  have X0 := hidD (Bo.new w (sL s) 23)
  have HB := hidD ((Below.refl w.heap.size w).alloc (Nat.le_refl _) (.cells (sL s).toArray 23))
  have HS : Hid (w.heap.size + 1 ≤ (w.alloc (.cells (sL s).toArray 23)).heap.size) := hidD (by rw [World.size_alloc]; omega)
  obtain ⟨W0, hW0⟩ : ∃ W0, W0 = w.alloc (.cells (sL s).toArray 23) := ⟨_, rfl⟩
  obtain ⟨N, hN⟩ : ∃ N, N = w.heap.size := ⟨_, rfl⟩
  rw [← hW0] at X0 HB HS
  rw [← hN] at X0 HB HS ⊢
  simp only [sL] at hW0
  go_enter Try.func6, Try.ntmps6
  go_wp2_with fail
  rw [← hN, ← hW0]
  clear hN hW0
  with_reducible refine (ualive_any W0).mono ?_
  rintro e v0 ⟨rfl, h⟩
  replace X0 := hidD (X0.out.below h)
  replace HB := hidD (below_on HB.out (Nat.le_of_succ_le HS.out) h)
  replace HS := hidD (Nat.le_trans HS.out h.size)
  clear h
  have p0 := X0.out.cell 0 rfl
  have p1 := X0.out.cell 1 rfl
  have p2 := X0.out.cell 2 rfl
  have p3 := X0.out.cell 3 rfl
  have c := hidD (C1.out v0)
  go_wp2_with fail
  with_reducible refine c.out.mono ?_
  rintro e v1 ⟨rfl, h⟩
  clear c p0 p1 p2 p3
  replace X0 := hidD (X0.out.below h)
  replace HB := hidD (below_on HB.out (Nat.le_of_succ_le HS.out) h)
  replace HS := hidD (Nat.le_trans HS.out h.size)
  clear h
  clear C1
  by_cases hk : k = 0
  case neg =>
    obtain ⟨e1, e2⟩ := HB0.out hk
    subst e1 e2
    have hk1 : (k != 0) = true := by simp [hk]
    have HBB := HB
    clear HG HB0 X0 HB HS C2 C3 C4
    go_wp2_with (go_at_call 17; refine (num_any _ _).mono ?_; rintro e ww ⟨rfl, rfl⟩)
    go_ret
    exact ⟨rfl, HBB.out⟩
  subst hk
  obtain ⟨m0, m1⟩ := HR.out
  obtain ⟨⟨v0', v1'⟩, e1, e2, e3, g1, g2, g3, g4⟩ := HG.out rfl m0 m1
  generalize Bu.thou n = m at *
  have D2 := hidD (C2.out m)
  have D3 := hidD (C3.out m)
  rw [e3] at D2 D3
  have E1 := hidD e1
  have E2 := hidD e2
  clear HG HB0 e1 e2 e3 C2 C3
  generalize Bu.addR s v m s.c = a at *
  generalize Bu.addR s v m s.t = b at *
  have C5 := hidD (C4.out a)
  have C6 := hidD (C4.out b)
  rw [g3] at C5
  rw [g4] at C6
  clear C4 g3 g4
  go_upto_region 7 with (go_at_call 17; refine (num_any _ _).mono ?_; rintro e ww ⟨rfl, rfl⟩)
  have p0 := X0.out.cell 0 rfl
  have p1 := X0.out.cell 1 rfl
  have p2 := X0.out.cell 2 rfl
  have p3 := X0.out.cell 3 rfl
  have c := hidD (D2.out v1)
  go_wp2_with fail
  with_reducible refine c.out.mono ?_
  rintro e v2 ⟨rfl, h⟩
  clear c p0 p1 p2 p3
  replace X0 := hidD (X0.out.below h)
  replace HB := hidD (below_on HB.out (Nat.le_of_succ_le HS.out) h)
  replace HS := hidD (Nat.le_trans HS.out h.size)
  clear h
  go_upto_region 8 with fail
  have p0 := X0.out.cell 0 rfl
  have p1 := X0.out.cell 1 rfl
  have p2 := X0.out.cell 2 rfl
  have p3 := X0.out.cell 3 rfl
  have c := hidD (D3.out v2)
  go_wp2_with fail
  with_reducible refine c.out.mono ?_
  rintro e v3 ⟨rfl, h⟩
  clear c p0 p1 p2 p3
  replace X0 := hidD (X0.out.below h)
  replace HB := hidD (below_on HB.out (Nat.le_of_succ_le HS.out) h)
  replace HS := hidD (Nat.le_trans HS.out h.size)
  clear h
  clear D2 D3 t1 t2 t3 t0
  go_upto_region 9 with fail
  have p0 := X0.out.cell 0 rfl
  have p1 := X0.out.cell 1 rfl
  have p2 := X0.out.cell 2 rfl
  have p3 := X0.out.cell 3 rfl
  have c5 := hidD (C5.out v3)
  clear C5
  have e1 := E1.out
  have e2 := E2.out
  clear E1 E2
  by_cases hle : 1000 ≤ v
  · rw [if_pos hle] at e2
    rw [decide_eq_true hle] at e1
    subst e1 e2
    have u1 : IntKind.i64.wrap (v - 1000) = v - 1000 := wrap_ok (by omega) (by omega)
    go_wp2_with (go_at_call 17; refine (num_any _ _).mono ?_; rintro e ww ⟨rfl, rfl⟩)
    with_reducible refine c5.out.mono ?_
    rintro e v4 ⟨rfl, h⟩
    clear c5
    replace X0 := hidD (X0.out.below h)
    replace HB := hidD (below_on HB.out (Nat.le_of_succ_le HS.out) h)
    replace HS := hidD (Nat.le_trans HS.out h.size)
    clear h p0 p1 p2 p3
    have p0 := X0.out.cell 0 rfl
    have p1 := X0.out.cell 1 rfl
    have p2 := X0.out.cell 2 rfl
    have p3 := X0.out.cell 3 rfl
    have c6 := hidD (C6.out v4)
    clear C6
    go_wp2_with (go_at_call 17; refine (num_any _ _).mono ?_; rintro e ww ⟨rfl, rfl⟩)
    with_reducible refine c6.out.mono ?_
    rintro e v5 ⟨rfl, h⟩
    clear c6
    replace X0 := hidD (X0.out.below h)
    replace HB := hidD (below_on HB.out (Nat.le_of_succ_le HS.out) h)
    replace HS := hidD (Nat.le_trans HS.out h.size)
    clear h
    have HBB := HB
    clear HB HS X0 p0 p1 p2 p3
    go_wp2_with (go_at_call 17; refine (num_any _ _).mono ?_; rintro e ww ⟨rfl, rfl⟩)
    go_ret
    exact ⟨by first | rfl | simp [*], HBB.out⟩
  · rw [if_neg hle] at e2
    rw [decide_eq_false hle] at e1
    subst e1 e2
    go_wp2_with (go_at_call 17; refine (num_any _ _).mono ?_; rintro e ww ⟨rfl, rfl⟩)
    with_reducible refine c5.out.mono ?_
    rintro e v4 ⟨rfl, h⟩
    clear c5
    replace X0 := hidD (X0.out.below h)
    replace HB := hidD (below_on HB.out (Nat.le_of_succ_le HS.out) h)
    replace HS := hidD (Nat.le_trans HS.out h.size)
    clear h p0 p1 p2 p3
    have p0 := X0.out.cell 0 rfl
    have p1 := X0.out.cell 1 rfl
    have p2 := X0.out.cell 2 rfl
    have p3 := X0.out.cell 3 rfl
    have c6 := hidD (C6.out v4)
    clear C6
    go_wp2_with (go_at_call 17; refine (num_any _ _).mono ?_; rintro e ww ⟨rfl, rfl⟩)
    with_reducible refine c6.out.mono ?_
    rintro e v5 ⟨rfl, h⟩
    clear c6
    replace X0 := hidD (X0.out.below h)
    replace HB := hidD (below_on HB.out (Nat.le_of_succ_le HS.out) h)
    replace HS := hidD (Nat.le_trans HS.out h.size)
    clear h
    have HBB := HB
    clear HB HS X0 p0 p1 p2 p3
    go_wp2_with (go_at_call 17; refine (num_any _ _).mono ?_; rintro e ww ⟨rfl, rfl⟩)
    go_ret
    exact ⟨by first | rfl | simp [*], HBB.out⟩

set_option maxRecDepth 100000 in
theorem lifted (os : Os) (started : os.Started) (H : Type) (enc : TypeId × Value → H) :
    ReturnsInHanded {} Try.checked os 6 .any (Rows.bucketKeepsSpec.pre6 enc Try.prog Try.f6 Rows.bucketKeepsRow.domain false) (Rows.bucketKeepsSpec.post enc Try.prog Try.f6 false true false false) := by
  refine returnsInHanded_of_change (C := Try.checked) own started (by kernel_rfl) Try.func6
    (ChangeSpec.witness6 (enc := enc) (C := Try.checked) false ⟨#[], #[.agg #[.int .i64 0, .int .i64 0, .int .i64 0, .int .i64 0], .int .i64 0, .int .i64 0], []⟩ 8 (by kernel_rfl) (by kernel_rfl) (by kernel_rfl) (by kernel_rfl)) ?_
  intro W base args ds gs before hval0 hW hcnd _
  have hval : ∀ (j : Nat) t v, Try.f6.params[j]? = some t → args[j]? = some v → Value.okWide Try.prog W .any base t v := hval0
  have hW' := hW
  obtain ⟨p, q, hA0, hV, rfl, hfz, hnd⟩ := hW
  have hA : DataW.TrodAll enc Try.prog W 0 (fun _ => true) true Try.f6.params.toList args.toList ds p := hA0
  rw [Try.params6] at hA hval
  obtain ⟨v0, vs0, d0, ds0, p0, q0, hargs, rfl, rfl, h0, r0⟩ := trodAll_cons hA
  obtain ⟨v1, vs1, d1, ds1, p1, q1, rfl, rfl, rfl, h1, r1⟩ := trodAll_cons r0
  obtain ⟨v2, vs2, d2, ds2, p2, q2, rfl, rfl, rfl, h2, r2⟩ := trodAll_cons r1
  obtain ⟨rfl, rfl, rfl⟩ := trodAll_nil r2
  obtain rfl : args = #[v0, v1, v2] := by cases args; simp_all
  obtain ⟨rfl, rfl⟩ := trodVars_none hV
  have k0 := h0
  have lt0 : ∀ x ∈ p0, x.block < W.heap.size := by obtain ⟨m, hm⟩ := k0; exact DataW.trod_lt m _ _ _ hm
  obtain ⟨x0, hv0⟩ := open_uset (hval 0 23 v0 rfl rfl) h0
  subst hv0
  obtain ⟨a1, rfl, rfl, rfl, w1⟩ := open_int Try.underlying3 (hval 1 3 v1 rfl rfl) h1
  obtain ⟨a2, rfl, rfl, rfl, w2⟩ := open_int Try.underlying3 (hval 2 3 v2 rfl rfl) h2
  clear hA0 hval0
  refine (walk x0 a1 w1 a2 w2).mono fun e W' ⟨he, bel⟩ => ?_
  subst he
  exact ⟨_, rfl, _, _, _, [], _, [], hW', trodAll_mk1 (shut_bool Try.underlying4 _), (trodAll_cons_mk (Below.trod laidOut (by kernel_rfl) (of_decide_eq_true (by kernel_rfl)) k0 bel lt0) (trodAll_cons_mk (shut_int Try.underlying3 w1) (trodAll_cons_mk (shut_int Try.underlying3 w2) trodAll_mk0))), rfl, bel.frame _, fun h => by cases h⟩

theorem over : Rows.bucketKeepsRow.holds Try.pinned (OpenSpec.ofChange Rows.bucketKeepsSpec) :=
  OpenClaim.holds_of_wide 6 Try.f6 rfl rfl rfl rfl rfl rfl rfl ⟨rfl, rfl, rfl, rfl, rfl⟩ rfl rfl rfl rfl rfl (by kernel_rfl) Try.func6 (by kernel_rfl)
    (of_decide_eq_true (by kernel_rfl)) (by unfold Func.isWrapper; first | (rw [if_pos (by decide +kernel)]; kernel_rfl) | (rw [if_neg (by decide +kernel)]; exact ⟨rfl, rfl⟩))
    (fun os started H enc _ => lifted os started H enc)
end Go.Proofs.Ythhhpmjbohfpjaa.bucketKeeps

namespace Go.Proofs.Ythhhpmjbohfpjaa
/-- THE STATEMENT. -/
theorem bucketKeeps_holds : Rows.BucketKeepsSaid := bucketKeeps.over
#print axioms bucketKeeps_holds
end Go.Proofs.Ythhhpmjbohfpjaa
