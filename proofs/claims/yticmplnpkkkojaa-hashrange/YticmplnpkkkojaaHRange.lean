/- For every uint64 x and every int n: Share of x and n is refused (ErrRange, and 0) just if n is not from 1 to 2^20 (the law HashRange answers true), and the arguments stay: without a bound. -/
import Derived.Test.YticmplnpkkkojaaRows
import Derived.WalkKit
import Derived.ProofKit
import Derived.OpenShut
import Derived.ShutString
import Derived.Test.YticmplnpkkkojaaHB
import Derived.Test.YticmplnpkkkojaaOpen
namespace Go.Proofs.Yticmplnpkkkojaa.hashRange
open Go.ChangeShapes Go.WideShapes Go.ChangeAt Go.RowKit
open Go.ChangeMaps (open_string shut_string)
set_option linter.unusedVariables false
set_option maxRecDepth 20000

set_option maxHeartbeats 400000 in
theorem walk (x : Int) (w0 : (Lit.int .u64 x).wf = true) (n : Int) (w1 : (Lit.int .i64 n).wf = true) {w : World} :
    Calls Try.prog 7 #[.int .u64 x, .int .i64 n] w fun e w' => e = .returned (.bool true) ∧ Below w.heap.size w w' := by
  have hx := bounds_u64 w0
  have hn := bounds_i64 w1
  clear w0 w1
  obtain ⟨X, rfl⟩ := Int.eq_ofNat_of_zero_le hx.1
  have hX : X < 18446744073709551616 := by omega
  clear hx
  have c0 := alive_any w
  have c1 := share_any X n w hX hn.1 hn.2
  by_cases h : 1 ≤ n ∧ n ≤ 1048576
  · rw [Hp.shE_in h] at c1
    obtain ⟨h1, h2⟩ := h
    generalize Hp.shK X n = k at c1
    go_enter Try.func7, Try.ntmps7
    go_wp2_with (first | (go_at_call 19; with_reducible refine c0.mono ?_; rintro e w1 ⟨rfl, rfl⟩) | (go_at_call 8; with_reducible refine c1.mono ?_; rintro e w1 ⟨rfl, rfl⟩) | (go_at_call 18; refine (num_any _ w).mono ?_; rintro e w1 ⟨rfl, rfl⟩))
    go_ret
    refine ⟨ret_bool ?_, Below.refl _ _⟩
    all_goals (simp; try assumption)
  · rw [Hp.shE_out h, Hp.shK_out h] at c1
    rcases Int.lt_or_le n 1 with h2 | h2
    · go_enter Try.func7, Try.ntmps7
      go_wp2_with (first | (go_at_call 19; with_reducible refine c0.mono ?_; rintro e w1 ⟨rfl, rfl⟩) | (go_at_call 8; with_reducible refine c1.mono ?_; rintro e w1 ⟨rfl, rfl⟩) | (go_at_call 18; refine (num_any _ w).mono ?_; rintro e w1 ⟨rfl, rfl⟩))
      go_ret
      refine ⟨ret_bool ?_, Below.refl _ _⟩
      all_goals (simp; try assumption)
    · have h3 : 1048576 < n := by omega
      go_enter Try.func7, Try.ntmps7
      go_wp2_with (first | (go_at_call 19; with_reducible refine c0.mono ?_; rintro e w1 ⟨rfl, rfl⟩) | (go_at_call 8; with_reducible refine c1.mono ?_; rintro e w1 ⟨rfl, rfl⟩) | (go_at_call 18; refine (num_any _ w).mono ?_; rintro e w1 ⟨rfl, rfl⟩))
      go_ret
      refine ⟨ret_bool ?_, Below.refl _ _⟩
      all_goals (simp; try assumption)

set_option maxRecDepth 100000 in
theorem lifted (os : Os) (started : os.Started) (H : Type) (enc : TypeId × Value → H) :
    ReturnsInHanded {} Try.checked os 7 .any (Rows.hashRangeSpec.pre6 enc Try.prog Try.f7 Rows.hashRangeRow.domain false) (Rows.hashRangeSpec.post enc Try.prog Try.f7 false true false false) := by
  refine returnsInHanded_of_change (C := Try.checked) own started (by kernel_rfl) Try.func7
    (ChangeSpec.witness6 (enc := enc) (C := Try.checked) false ⟨#[], #[.int .u64 0, .int .i64 0], []⟩ 8 (by kernel_rfl) (by kernel_rfl) (by kernel_rfl) (by kernel_rfl)) ?_
  intro W base args ds gs before hval0 hW hcnd _
  have hval : ∀ (j : Nat) t v, Try.f7.params[j]? = some t → args[j]? = some v → Value.okWide Try.prog W .any base t v := hval0
  have hW' := hW
  obtain ⟨p, q, hA0, hV, rfl, hfz, hnd⟩ := hW
  have hA : DataW.TrodAll enc Try.prog W 0 (fun _ => true) true Try.f7.params.toList args.toList ds p := hA0
  rw [Try.params7] at hA hval
  obtain ⟨v0, vs0, d0, ds0, p0, q0, hargs, rfl, rfl, h0, r0⟩ := trodAll_cons hA
  obtain ⟨v1, vs1, d1, ds1, p1, q1, rfl, rfl, rfl, h1, r1⟩ := trodAll_cons r0
  obtain ⟨rfl, rfl, rfl⟩ := trodAll_nil r1
  obtain rfl : args = #[v0, v1] := by cases args; simp_all
  obtain ⟨rfl, rfl⟩ := trodVars_none hV
  obtain ⟨a0, rfl, rfl, rfl, w0⟩ := open_int Try.underlying22 (hval 0 22 v0 rfl rfl) h0
  obtain ⟨a1, rfl, rfl, rfl, w1⟩ := open_int Try.underlying3 (hval 1 3 v1 rfl rfl) h1
  clear hA0 hval0
  refine (walk a0 w0 a1 w1).mono fun e W' ⟨he, bel⟩ => ?_
  subst he
  exact ⟨_, rfl, _, _, _, [], _, [], hW', trodAll_mk1 (shut_bool Try.underlying4 _), (trodAll_cons_mk (shut_int Try.underlying22 w0) (trodAll_cons_mk (shut_int Try.underlying3 w1) trodAll_mk0)), rfl, bel.frame _, fun h => by cases h⟩

theorem over : Rows.hashRangeRow.holds Try.pinned (OpenSpec.ofChange Rows.hashRangeSpec) :=
  OpenClaim.holds_of_wide 7 Try.f7 rfl rfl rfl rfl rfl rfl rfl ⟨rfl, rfl, rfl, rfl, rfl⟩ rfl rfl rfl rfl rfl (by kernel_rfl) Try.func7 (by kernel_rfl)
    (of_decide_eq_true (by kernel_rfl)) (by unfold Func.isWrapper; first | (rw [if_pos (by decide +kernel)]; kernel_rfl) | (rw [if_neg (by decide +kernel)]; exact ⟨rfl, rfl⟩))
    (fun os started H enc _ => lifted os started H enc)
end Go.Proofs.Yticmplnpkkkojaa.hashRange

namespace Go.Proofs.Yticmplnpkkkojaa
/-- THE STATEMENT. -/
theorem hashRange_holds : Rows.HashRangeSaid := hashRange.over
#print axioms hashRange_holds
end Go.Proofs.Yticmplnpkkkojaa
