/- For all settings, ints n and draws a and b: of one retry a greater draw waits no longer (the law BackoffJitter answers true), and the arguments stay: without a bound. -/
import Derived.Test.YtekldjfmdapgpaaRows
import Derived.BigQuiet
import Derived.Deep.QuietTactic
import Derived.WalkKit
import Derived.ProofKit
import Derived.OpenShut
import Derived.ShutString
import Derived.Test.YtekldjfmdapgpaaBkL
namespace Go.Proofs.Ytekldjfmdapgpaa.backoffJitter
open Go.ChangeShapes Go.WideShapes Go.ChangeAt Go.RowKit
open Go.ChangeMaps (open_string shut_string)
set_option linter.unusedVariables false
set_option maxRecDepth 20000

set_option maxHeartbeats 2000000 in
theorem walk (s : Bf.Se) (n : Int) (wn : (Lit.int .i64 n).wf = true) (xi : Int) (wx : (Lit.int .u64 xi).wf = true) (yi : Int) (wy : (Lit.int .u64 yi).wf = true) {w : World} :
    Calls Try.prog 7 #[vS s, .int .i64 n, .int .u64 xi, .int .u64 yi] w fun e w' => e = .returned (.bool true) ∧ Below w.heap.size w w' := by
  have hx := bounds_u64 wx
  obtain ⟨x, rfl⟩ := Int.eq_ofNat_of_zero_le hx.1
  have hX : x < 18446744073709551616 := by omega
  have hy := bounds_u64 wy
  obtain ⟨y, rfl⟩ := Int.eq_ofNat_of_zero_le hy.1
  have hY : y < 18446744073709551616 := by omega
  have C1 := hidD (fun W => bdelay_any s n x hX W)
  have C2 := hidD (fun W => bdelay_any s n y hY W)
  have HG := hidD (fun h => @Bf.jit s n x y h)
  clear wn wx wy hx hy hX hY
  generalize Bf.delayR s n x = d at *
  generalize Bf.delayR s n y = m at *
  generalize Bf.mostE s n = k at *
  have X0 := hidD (Bo.new w (sL s) 23)
  have HB := hidD ((Below.refl w.heap.size w).alloc (Nat.le_refl _) (.cells (sL s).toArray 23))
  have HS : Hid (w.heap.size + 1 ≤ (w.alloc (.cells (sL s).toArray 23)).heap.size) := hidD (by rw [World.size_alloc]; omega)
  obtain ⟨W0, hW0⟩ : ∃ W0, W0 = w.alloc (.cells (sL s).toArray 23) := ⟨_, rfl⟩
  obtain ⟨N, hN⟩ : ∃ N, N = w.heap.size := ⟨_, rfl⟩
  rw [← hW0] at X0 HB HS
  rw [← hN] at X0 HB HS ⊢
  simp only [sL] at hW0
  go_enter Try.func7, Try.ntmps7
  go_wp2_with fail
  rw [← hN, ← hW0]
  clear hN hW0
  with_reducible refine (alive_any W0).mono ?_
  rintro e v0 ⟨rfl, h⟩
  replace X0 := hidD (X0.out.below h)
  replace HB := hidD (below_on HB.out (Nat.le_of_succ_le HS.out) h)
  replace HS := hidD (Nat.le_trans HS.out h.size)
  clear h
  have p0 := X0.out.cell 0 rfl
  have p1 := X0.out.cell 1 rfl
  have p2 := X0.out.cell 2 rfl
  have c := hidD (C1.out v0)
  go_wp2_with fail
  with_reducible refine c.out.mono ?_
  rintro e v1 ⟨rfl, h⟩
  clear c p0 p1 p2
  replace X0 := hidD (X0.out.below h)
  replace HB := hidD (below_on HB.out (Nat.le_of_succ_le HS.out) h)
  replace HS := hidD (Nat.le_trans HS.out h.size)
  clear h
  have p0 := X0.out.cell 0 rfl
  have p1 := X0.out.cell 1 rfl
  have p2 := X0.out.cell 2 rfl
  have c := hidD (C2.out v1)
  go_wp2_with fail
  with_reducible refine c.out.mono ?_
  rintro e v2 ⟨rfl, h⟩
  clear c p0 p1 p2
  replace X0 := hidD (X0.out.below h)
  replace HB := hidD (below_on HB.out (Nat.le_of_succ_le HS.out) h)
  replace HS := hidD (Nat.le_trans HS.out h.size)
  clear h
  clear C1 C2
  have k1 : (k == k) = true := by simp
  have HBB := HB
  by_cases hxy : x ≤ y
  · have a1 := HG.out hxy
    have a2 : ¬ ((y : Int) < (x : Int)) := by omega
    clear HG X0 HB HS hxy
    go_wp2_with (go_at_call 17; refine (num_any _ _).mono ?_; rintro e ww ⟨rfl, rfl⟩)
    go_ret
    exact ⟨by first | rfl | simp, HBB.out⟩
  · have a2 : (y : Int) < (x : Int) := by omega
    clear HG X0 HB HS hxy
    go_wp2_with (go_at_call 17; refine (num_any _ _).mono ?_; rintro e ww ⟨rfl, rfl⟩)
    go_ret
    exact ⟨by first | rfl | simp, HBB.out⟩

set_option maxRecDepth 100000 in
theorem lifted (os : Os) (started : os.Started) (H : Type) (enc : TypeId × Value → H) :
    ReturnsInHanded {} Try.checked os 7 .any (Rows.backoffJitterSpec.pre6 enc Try.prog Try.f7 Rows.backoffJitterRow.domain false) (Rows.backoffJitterSpec.post enc Try.prog Try.f7 false true false false) := by
  refine returnsInHanded_of_change (C := Try.checked) own started (by kernel_rfl) Try.func7
    (ChangeSpec.witness6 (enc := enc) (C := Try.checked) false ⟨#[], #[.agg #[.int .i64 0, .int .i64 0, .int .i64 0], .int .i64 0, .int .u64 0, .int .u64 0], []⟩ 8 (by kernel_rfl) (by kernel_rfl) (by kernel_rfl) (by kernel_rfl)) ?_
  intro W base args ds gs before hval0 hW hcnd _
  have hval : ∀ (j : Nat) t v, Try.f7.params[j]? = some t → args[j]? = some v → Value.okWide Try.prog W .any base t v := hval0
  have hW' := hW
  obtain ⟨p, q, hA0, hV, rfl, hfz, hnd⟩ := hW
  have hA : DataW.TrodAll enc Try.prog W 0 (fun _ => true) true Try.f7.params.toList args.toList ds p := hA0
  rw [Try.params7] at hA hval
  obtain ⟨v0, vs0, d0, ds0, p0, q0, hargs, rfl, rfl, h0, r0⟩ := trodAll_cons hA
  obtain ⟨v1, vs1, d1, ds1, p1, q1, rfl, rfl, rfl, h1, r1⟩ := trodAll_cons r0
  obtain ⟨v2, vs2, d2, ds2, p2, q2, rfl, rfl, rfl, h2, r2⟩ := trodAll_cons r1
  obtain ⟨v3, vs3, d3, ds3, p3, q3, rfl, rfl, rfl, h3, r3⟩ := trodAll_cons r2
  obtain ⟨rfl, rfl, rfl⟩ := trodAll_nil r3
  obtain rfl : args = #[v0, v1, v2, v3] := by cases args; simp_all
  obtain ⟨rfl, rfl⟩ := trodVars_none hV
  have k0 := h0
  have lt0 : ∀ x ∈ p0, x.block < W.heap.size := by obtain ⟨m, hm⟩ := k0; exact DataW.trod_lt m _ _ _ hm
  obtain ⟨x0, hv0⟩ := open_bset (hval 0 23 v0 rfl rfl) h0
  subst hv0
  obtain ⟨a1, rfl, rfl, rfl, w1⟩ := open_int Try.underlying3 (hval 1 3 v1 rfl rfl) h1
  obtain ⟨a2, rfl, rfl, rfl, w2⟩ := open_int Try.underlying24 (hval 2 24 v2 rfl rfl) h2
  obtain ⟨a3, rfl, rfl, rfl, w3⟩ := open_int Try.underlying24 (hval 3 24 v3 rfl rfl) h3
  clear hA0 hval0
  refine (walk x0 a1 w1 a2 w2 a3 w3).mono fun e W' ⟨he, bel⟩ => ?_
  subst he
  exact ⟨_, rfl, _, _, _, [], _, [], hW', trodAll_mk1 (shut_bool Try.underlying4 _), (trodAll_cons_mk (Below.trod laidOut (by kernel_rfl) (of_decide_eq_true (by kernel_rfl)) k0 bel lt0) (trodAll_cons_mk (shut_int Try.underlying3 w1) (trodAll_cons_mk (shut_int Try.underlying24 w2) (trodAll_cons_mk (shut_int Try.underlying24 w3) trodAll_mk0)))), rfl, bel.frame _, fun h => by cases h⟩

theorem over : Rows.backoffJitterRow.holds Try.pinned (OpenSpec.ofChange Rows.backoffJitterSpec) :=
  OpenClaim.holds_of_wide 7 Try.f7 rfl rfl rfl rfl rfl rfl rfl ⟨rfl, rfl, rfl, rfl, rfl⟩ rfl rfl rfl rfl rfl (by kernel_rfl) Try.func7 (by kernel_rfl)
    (of_decide_eq_true (by kernel_rfl)) (by unfold Func.isWrapper; first | (rw [if_pos (by decide +kernel)]; kernel_rfl) | (rw [if_neg (by decide +kernel)]; exact ⟨rfl, rfl⟩))
    (fun os started H enc _ => lifted os started H enc)
end Go.Proofs.Ytekldjfmdapgpaa.backoffJitter

namespace Go.Proofs.Ytekldjfmdapgpaa
/-- THE STATEMENT. -/
theorem backoffJitter_holds : Rows.BackoffJitterSaid := backoffJitter.over
#print axioms backoffJitter_holds
end Go.Proofs.Ytekldjfmdapgpaa
