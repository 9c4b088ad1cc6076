/- The statement BucketEmpty. -/
import Derived.Test.YthhhpmjbohfpjaaRows
import Derived.BigQuiet
import Derived.Deep.QuietTactic
import Derived.WalkKit
import Derived.ProofKit
import Derived.OpenShut
import Derived.ShutString
import Derived.Test.YthhhpmjbohfpjaaIJ
import Derived.Test.YthhhpmjbohfpjaaOpenN
namespace Go.Proofs.Ythhhpmjbohfpjaa.bucketEmpty
open Go.ChangeShapes Go.WideShapes Go.ChangeAt Go.RowKit
open Go.ChangeMaps (open_string shut_string)
set_option linter.unusedVariables false
set_option maxRecDepth 20000

set_option maxHeartbeats 2000000 in
theorem walk (t : Int) (wt : (Lit.int .i64 t).wf = true) (v : Value) (l : List Int) {w : World} (hv : Seg .i64 w v l) (ho : ∀ z ∈ l, -9223372036854775808 ≤ z ∧ z ≤ 9223372036854775807) :
    Calls Try.prog 8 #[.int .i64 t, v] w fun e w' => e = .returned (.bool true) ∧ Below w.heap.size w w' := by
  have HV : Hid (∀ W, Below w.heap.size w W → Seg .i64 W v l) := hidD (fun W h => hv.below h)
  obtain ⟨r1, r2⟩ := Bu.thou_range t
  obtain ⟨t1, t2, t3, t0⟩ := Bu.thou_wraps t
  generalize Bu.thou t = p at *
  have C1 := hidD (fun W h => orun_any ⟨0, 0, 0, p⟩ v l W h)
  obtain ⟨e1, e2, e3⟩ := Bu.empty l r1 r2
  rw [e1, e2] at C1
  clear e1 e2
  obtain ⟨av, cv, hva, _, q2, _, _⟩ := hv
  unfold maxLen at q2
  have HE := hidD e3
  clear e3
  generalize Bu.runE ⟨0, 0, 0, p⟩ l = k at *
  generalize l.length = n at *
  subst hva
  obtain ⟨N, hN⟩ : ∃ N, N = w.heap.size := ⟨_, rfl⟩
  rw [← hN] at HV ⊢
  go_enter Try.func8, Try.ntmps8
  go_wp2_with fail
  with_reducible refine (ualive_any w).mono ?_
  rintro e v0 ⟨rfl, h⟩
  have hb0 : Below N w v0 := by rw [hN]; exact h
  have hs0 : N ≤ v0.heap.size := by rw [hN]; exact h.size
  have X := hidD (Bo.new v0 [.int .i64 0, .int .i64 0, .int .i64 0, .int .i64 p] 23)
  have hb1 := hidD (hb0.alloc hs0 (.cells #[.int .i64 0, .int .i64 0, .int .i64 0, .int .i64 p] 23))
  have hs1 : Hid (N ≤ (v0.alloc (.cells #[.int .i64 0, .int .i64 0, .int .i64 0, .int .i64 p] 23)).heap.size) := hidD (by rw [World.size_alloc]; omega)
  clear h hb0 hs0 hN
  go_upto_region 4 with fail
  generalize (v0.alloc (.cells #[.int .i64 0, .int .i64 0, .int .i64 0, .int .i64 p] 23)) = v1 at *
  generalize v0.heap.size = A at *
  have p0 := X.out.cell 0 rfl
  have p1 := X.out.cell 1 rfl
  have p2 := X.out.cell 2 rfl
  have p3 := X.out.cell 3 rfl
  have c := hidD (C1.out v1 (HV.out _ hb1.out))
  clear C1 HV X
  go_wp2_with fail
  with_reducible refine c.out.mono ?_
  rintro e v2 ⟨rfl, h⟩
  have HBB := hidD (below_on hb1.out hs1.out h)
  clear c h p0 p1 p2 p3 hb1 hs1 t1 t2 t3 t0
  by_cases hk : k = 0
  · subst hk
    go_wp2_with (go_at_call 17; refine (num_any _ _).mono ?_; rintro e ww ⟨rfl, rfl⟩)
    go_ret
    exact ⟨by first | rfl | simp, HBB.out⟩
  · have hk1 : (k == 0) = false := by simp [hk]
    have hn := HE.out hk
    have hn2 : decide ((0 : Int) < (n : Int)) = true := decide_eq_true (by omega)
    clear HE
    go_wp2_with (go_at_call 17; refine (num_any _ _).mono ?_; rintro e ww ⟨rfl, rfl⟩)
    go_ret
    exact ⟨by first | rfl | simp [*], HBB.out⟩

set_option maxRecDepth 100000 in
theorem lifted (os : Os) (started : os.Started) (H : Type) (enc : TypeId × Value → H) :
    ReturnsInHanded {} Try.checked os 8 .any (Rows.bucketEmptySpec.pre6 enc Try.prog Try.f8 Rows.bucketEmptyRow.domain false) (Rows.bucketEmptySpec.post enc Try.prog Try.f8 false true false false) := by
  refine returnsInHanded_of_change (C := Try.checked) own started (by kernel_rfl) Try.func8
    (ChangeSpec.witness6 (enc := enc) (C := Try.checked) false ⟨#[], #[.int .i64 0, .slice none 0 0], []⟩ 8 (by kernel_rfl) (by kernel_rfl) (by kernel_rfl) (by kernel_rfl)) ?_
  intro W base args ds gs before hval0 hW hcnd _
  have hval : ∀ (j : Nat) t v, Try.f8.params[j]? = some t → args[j]? = some v → Value.okWide Try.prog W .any base t v := hval0
  have hW' := hW
  obtain ⟨p, q, hA0, hV, rfl, hfz, hnd⟩ := hW
  have hA : DataW.TrodAll enc Try.prog W 0 (fun _ => true) true Try.f8.params.toList args.toList ds p := hA0
  rw [Try.params8] at hA hval
  obtain ⟨v0, vs0, d0, ds0, p0, q0, hargs, rfl, rfl, h0, r0⟩ := trodAll_cons hA
  obtain ⟨v1, vs1, d1, ds1, p1, q1, rfl, rfl, rfl, h1, r1⟩ := trodAll_cons r0
  obtain ⟨rfl, rfl, rfl⟩ := trodAll_nil r1
  obtain rfl : args = #[v0, v1] := by cases args; simp_all
  obtain ⟨rfl, rfl⟩ := trodVars_none hV
  obtain ⟨a0, rfl, rfl, rfl, w0⟩ := open_int Try.underlying3 (hval 0 3 v0 rfl rfl) h0
  have k1 := h1
  have lt1 : ∀ x ∈ p1, x.block < W.heap.size := by obtain ⟨m, hm⟩ := k1; exact DataW.trod_lt m _ _ _ hm
  obtain ⟨l1, hs1, ho1, e1⟩ := open_numbers (hval 1 40 v1 rfl rfl) h1
  clear hA0 hval0
  refine (walk a0 w0 v1 l1 hs1 ho1).mono fun e W' ⟨he, bel⟩ => ?_
  subst he
  exact ⟨_, rfl, _, _, _, [], _, [], hW', trodAll_mk1 (shut_bool Try.underlying4 _), (trodAll_cons_mk (shut_int Try.underlying3 w0) (trodAll_cons_mk (Below.trod laidOut (by kernel_rfl) (of_decide_eq_true (by kernel_rfl)) k1 bel lt1) trodAll_mk0)), rfl, bel.frame _, fun h => by cases h⟩

theorem over : Rows.bucketEmptyRow.holds Try.pinned (OpenSpec.ofChange Rows.bucketEmptySpec) :=
  OpenClaim.holds_of_wide 8 Try.f8 rfl rfl rfl rfl rfl rfl rfl ⟨rfl, rfl, rfl, rfl, rfl⟩ rfl rfl rfl rfl rfl (by kernel_rfl) Try.func8 (by kernel_rfl)
    (of_decide_eq_true (by kernel_rfl)) (by unfold Func.isWrapper; first | (rw [if_pos (by decide +kernel)]; kernel_rfl) | (rw [if_neg (by decide +kernel)]; exact ⟨rfl, rfl⟩))
    (fun os started H enc _ => lifted os started H enc)
end Go.Proofs.Ythhhpmjbohfpjaa.bucketEmpty

namespace Go.Proofs.Ythhhpmjbohfpjaa
/-- THE STATEMENT. -/
theorem bucketEmpty_holds : Rows.BucketEmptySaid := bucketEmpty.over
#print axioms bucketEmpty_holds
end Go.Proofs.Ythhhpmjbohfpjaa
