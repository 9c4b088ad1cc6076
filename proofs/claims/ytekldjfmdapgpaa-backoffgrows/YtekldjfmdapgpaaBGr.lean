/- For all settings and ints n: of retries 1 to 64 the most of a later one is no smaller, and it is twice the earlier one or the cap (the law BackoffGrows answers true), and the arguments stay: without a bound. -/
import Derived.Test.YtekldjfmdapgpaaRows
import Derived.BigQuiet
import Derived.Deep.QuietTactic
import Derived.WalkKit
import Derived.ProofKit
import Derived.OpenShut
import Derived.ShutString
import Derived.Test.YtekldjfmdapgpaaBkL
namespace Go.Proofs.Ytekldjfmdapgpaa.backoffGrows
open Go.ChangeShapes Go.WideShapes Go.ChangeAt Go.RowKit
open Go.ChangeMaps (open_string shut_string)
set_option linter.unusedVariables false
set_option maxRecDepth 20000

set_option maxHeartbeats 2000000 in
theorem walk (s : Bf.Se) (n : Int) (wn : (Lit.int .i64 n).wf = true) {w : World} :
    Calls Try.prog 5 #[vS s, .int .i64 n] w fun e w' => e = .returned (.bool true) ∧ Below w.heap.size w w' := by
  obtain ⟨⟨r1, r2⟩, t1, t2, t3, t4⟩ := Bf.brought_wraps n 63 (by decide) (by decide)
  generalize Bf.brought n 63 = m at *
  have C1 := hidD (fun W => most_any s (1 + m) W)
  have C2 := hidD (fun W => most_any s (1 + m + 1) W)
  have HG := hidD (Bf.grow_all (s := s) r1 (show m ≤ 62 by omega))
  have u1 : IntKind.i64.wrap (1 + m) = 1 + m := wrap_ok (by omega) (by omega)
  have u2 : IntKind.i64.wrap (1 + m + 1) = 1 + m + 1 := wrap_ok (by omega) (by omega)
  clear wn
  generalize Bf.mostR s (1 + m) = a at *
  generalize Bf.mostR s (1 + m + 1) = b at *
  generalize Bf.mostE s (1 + m) = k at *
  generalize Bf.mostE s (1 + m + 1) = k2 at *
  have X0 := hidD (Bo.new w (sL s) 23)
  have HB := hidD ((Below.refl w.heap.size w).alloc (Nat.le_refl _) (.cells (sL s).toArray 23))
  have HS : Hid (w.heap.size + 1 ≤ (w.alloc (.cells (sL s).toArray 23)).heap.size) := hidD (by rw [World.size_alloc]; omega)
  obtain ⟨W0, hW0⟩ : ∃ W0, W0 = w.alloc (.cells (sL s).toArray 23) := ⟨_, rfl⟩
  obtain ⟨N, hN⟩ : ∃ N, N = w.heap.size := ⟨_, rfl⟩
  rw [← hW0] at X0 HB HS
  rw [← hN] at X0 HB HS ⊢
  simp only [sL] at hW0
  go_enter Try.func5, Try.ntmps5
  go_wp2_with fail
  rw [← hN, ← hW0]
  clear hN hW0
  with_reducible refine (alive_any W0).mono ?_
  rintro e v0 ⟨rfl, h⟩
  replace X0 := hidD (X0.out.below h)
  replace HB := hidD (below_on HB.out (Nat.le_of_succ_le HS.out) h)
  replace HS := hidD (Nat.le_trans HS.out h.size)
  clear h
  have p0 := X0.out.cell 0 rfl
  have p1 := X0.out.cell 1 rfl
  have p2 := X0.out.cell 2 rfl
  go_upto_region 4 with fail
  have c := hidD (C1.out v0)
  go_wp2_with fail
  with_reducible refine c.out.mono ?_
  rintro e v1 ⟨rfl, h⟩
  clear c p0 p1 p2
  replace X0 := hidD (X0.out.below h)
  replace HB := hidD (below_on HB.out (Nat.le_of_succ_le HS.out) h)
  replace HS := hidD (Nat.le_trans HS.out h.size)
  clear h
  have p0 := X0.out.cell 0 rfl
  have p1 := X0.out.cell 1 rfl
  have p2 := X0.out.cell 2 rfl
  go_upto_region 5 with fail
  have c := hidD (C2.out v1)
  go_wp2_with fail
  with_reducible refine c.out.mono ?_
  rintro e v2 ⟨rfl, h⟩
  clear c p0 p1 p2
  replace X0 := hidD (X0.out.below h)
  replace HB := hidD (below_on HB.out (Nat.le_of_succ_le HS.out) h)
  replace HS := hidD (Nat.le_trans HS.out h.size)
  clear h
  clear C1 C2
  rcases HG.out with ⟨rfl, rfl, a1, a2, a3, a4⟩ | ⟨rfl, rfl, rfl⟩
  · have q1 := X0.out.cell 1 rfl
    have HBB := HB
    have u3 : IntKind.i64.wrap (2 * a) = 2 * a := wrap_ok (by omega) (by omega)
    clear HG X0 HB HS
    by_cases hb : b = 2 * a
    · clear a2
      subst hb
      go_wp2_with (go_at_call 17; refine (num_any _ _).mono ?_; rintro e ww ⟨rfl, rfl⟩)
      go_ret
      exact ⟨rfl, HBB.out⟩
    · have hp := a2.resolve_left hb
      clear a2
      subst hp
      go_wp2_with (go_at_call 17; refine (num_any _ _).mono ?_; rintro e ww ⟨rfl, rfl⟩)
      go_ret
      exact ⟨by simp, HBB.out⟩
  · have HBB := HB
    clear HG X0 HB HS
    go_wp2_with (go_at_call 17; refine (num_any _ _).mono ?_; rintro e ww ⟨rfl, rfl⟩)
    go_ret
    exact ⟨by first | rfl | simp, HBB.out⟩

set_option maxRecDepth 100000 in
theorem lifted (os : Os) (started : os.Started) (H : Type) (enc : TypeId × Value → H) :
    ReturnsInHanded {} Try.checked os 5 .any (Rows.backoffGrowsSpec.pre6 enc Try.prog Try.f5 Rows.backoffGrowsRow.domain false) (Rows.backoffGrowsSpec.post enc Try.prog Try.f5 false true false false) := by
  refine returnsInHanded_of_change (C := Try.checked) own started (by kernel_rfl) Try.func5
    (ChangeSpec.witness6 (enc := enc) (C := Try.checked) false ⟨#[], #[.agg #[.int .i64 0, .int .i64 0, .int .i64 0], .int .i64 0], []⟩ 8 (by kernel_rfl) (by kernel_rfl) (by kernel_rfl) (by kernel_rfl)) ?_
  intro W base args ds gs before hval0 hW hcnd _
  have hval : ∀ (j : Nat) t v, Try.f5.params[j]? = some t → args[j]? = some v → Value.okWide Try.prog W .any base t v := hval0
  have hW' := hW
  obtain ⟨p, q, hA0, hV, rfl, hfz, hnd⟩ := hW
  have hA : DataW.TrodAll enc Try.prog W 0 (fun _ => true) true Try.f5.params.toList args.toList ds p := hA0
  rw [Try.params5] at hA hval
  obtain ⟨v0, vs0, d0, ds0, p0, q0, hargs, rfl, rfl, h0, r0⟩ := trodAll_cons hA
  obtain ⟨v1, vs1, d1, ds1, p1, q1, rfl, rfl, rfl, h1, r1⟩ := trodAll_cons r0
  obtain ⟨rfl, rfl, rfl⟩ := trodAll_nil r1
  obtain rfl : args = #[v0, v1] := by cases args; simp_all
  obtain ⟨rfl, rfl⟩ := trodVars_none hV
  have k0 := h0
  have lt0 : ∀ x ∈ p0, x.block < W.heap.size := by obtain ⟨m, hm⟩ := k0; exact DataW.trod_lt m _ _ _ hm
  obtain ⟨x0, hv0⟩ := open_bset (hval 0 23 v0 rfl rfl) h0
  subst hv0
  obtain ⟨a1, rfl, rfl, rfl, w1⟩ := open_int Try.underlying3 (hval 1 3 v1 rfl rfl) h1
  clear hA0 hval0
  refine (walk x0 a1 w1).mono fun e W' ⟨he, bel⟩ => ?_
  subst he
  exact ⟨_, rfl, _, _, _, [], _, [], hW', trodAll_mk1 (shut_bool Try.underlying4 _), (trodAll_cons_mk (Below.trod laidOut (by kernel_rfl) (of_decide_eq_true (by kernel_rfl)) k0 bel lt0) (trodAll_cons_mk (shut_int Try.underlying3 w1) trodAll_mk0)), rfl, bel.frame _, fun h => by cases h⟩

theorem over : Rows.backoffGrowsRow.holds Try.pinned (OpenSpec.ofChange Rows.backoffGrowsSpec) :=
  OpenClaim.holds_of_wide 5 Try.f5 rfl rfl rfl rfl rfl rfl rfl ⟨rfl, rfl, rfl, rfl, rfl⟩ rfl rfl rfl rfl rfl (by kernel_rfl) Try.func5 (by kernel_rfl)
    (of_decide_eq_true (by kernel_rfl)) (by unfold Func.isWrapper; first | (rw [if_pos (by decide +kernel)]; kernel_rfl) | (rw [if_neg (by decide +kernel)]; exact ⟨rfl, rfl⟩))
    (fun os started H enc _ => lifted os started H enc)
end Go.Proofs.Ytekldjfmdapgpaa.backoffGrows

namespace Go.Proofs.Ytekldjfmdapgpaa
/-- THE STATEMENT. -/
theorem backoffGrows_holds : Rows.BackoffGrowsSaid := backoffGrows.over
#print axioms backoffGrows_holds
end Go.Proofs.Ytekldjfmdapgpaa
