/- For all uint64 states and all ints n: Two tells two unlike numbers from 0 to n - 1 where n is from 2 to 2^20, else 0, 0 and an error (the law DrawTwo answers true), and the arguments stay: without a bound. -/
import Derived.Test.YtjdbfilbjpfajaaRows
import Derived.WalkKit
import Derived.ProofKit
import Derived.OpenShut
import Derived.ShutString
import Derived.Test.YtjdbfilbjpfajaaDG
import Derived.Test.YtjdbfilbjpfajaaOpen
namespace Go.Proofs.Ytjdbfilbjpfajaa.drawTwo
open Go.ChangeShapes Go.WideShapes Go.ChangeAt Go.RowKit
open Go.ChangeMaps (open_string shut_string)
set_option linter.unusedVariables false
set_option maxRecDepth 20000

theorem walk_v (s : Nat) (n : Int) (w : World) (A B S : Nat) (h2 : 2 ≤ n) (hAB : A ≠ B) (hA : (A : Int) < n) (hB : (B : Int) < n)
    (C1 : ∀ w : World, Calls Try.prog 13 #[.int .u64 s, .int .i64 n] w fun e w' => e = .returned (.tuple #[.int .u64 S, .int .i64 A, .int .i64 B, .int .i64 0]) ∧ w = w') :
    Calls Try.prog 6 #[.int .u64 s, .int .i64 n] w fun e w' => e = .returned (.bool true) ∧ Below w.heap.size w w' := by
  have c0 := alive_any w
  have hAB' : (A : Int) ≠ B := by omega
  go_enter Try.func6, Try.ntmps6
  go_wp2_with (first | (go_at_call 21; with_reducible refine c0.mono ?_; rintro e w1 ⟨rfl, b1⟩) | (go_at_call 13; with_reducible refine (C1 w1).mono ?_; rintro e w3 ⟨rfl, rfl⟩) | (go_at_call 16; refine (num_any _ _).mono ?_; rintro e w3 ⟨rfl, rfl⟩))
  go_ret
  refine ⟨ret_bool ?_, b1⟩
  simp [hAB']
theorem walk_n (s : Nat) (n : Int) (w : World) (h2 : ¬(2 ≤ n ∧ n ≤ 1048576))
    (C1 : ∀ w : World, Calls Try.prog 13 #[.int .u64 s, .int .i64 n] w fun e w' => e = .returned (.tuple #[.int .u64 0, .int .i64 0, .int .i64 0, .int .i64 4]) ∧ w = w') :
    Calls Try.prog 6 #[.int .u64 s, .int .i64 n] w fun e w' => e = .returned (.bool true) ∧ Below w.heap.size w w' := by
  have c0 := alive_any w
  rcases Int.lt_or_le n 2 with h3 | h3
  · go_enter Try.func6, Try.ntmps6
    go_wp2_with (first | (go_at_call 21; with_reducible refine c0.mono ?_; rintro e w1 ⟨rfl, b1⟩) | (go_at_call 13; with_reducible refine (C1 w1).mono ?_; rintro e w3 ⟨rfl, rfl⟩) | (go_at_call 16; refine (num_any _ _).mono ?_; rintro e w3 ⟨rfl, rfl⟩))
    go_ret
    exact ⟨rfl, b1⟩
  · have h4 : 1048576 < n := by omega
    go_enter Try.func6, Try.ntmps6
    go_wp2_with (first | (go_at_call 21; with_reducible refine c0.mono ?_; rintro e w1 ⟨rfl, b1⟩) | (go_at_call 13; with_reducible refine (C1 w1).mono ?_; rintro e w3 ⟨rfl, rfl⟩) | (go_at_call 16; refine (num_any _ _).mono ?_; rintro e w3 ⟨rfl, rfl⟩))
    go_ret
    refine ⟨ret_bool ?_, b1⟩
    simp

theorem walk (x : Int) (w0 : (Lit.int .u64 x).wf = true) (n : Int) (w1 : (Lit.int .i64 n).wf = true) {w : World} :
    Calls Try.prog 6 #[.int .u64 x, .int .i64 n] w fun e w' => e = .returned (.bool true) ∧ Below w.heap.size w w' := by
  have hx := bounds_u64 w0
  have hn := bounds_i64 w1
  clear w0 w1
  obtain ⟨s, rfl⟩ := Int.eq_ofNat_of_zero_le hx.1
  by_cases h : 2 ≤ n ∧ n ≤ 1048576
  · have C := fun v => two_any s n v
    rw [if_pos h] at C
    exact walk_v s n w _ _ _ h.1 (Hp.two_ok h.1).1 (Hp.twoA_lt h.1) (Hp.two_ok h.1).2 C
  · have C := fun v => two_any s n v
    rw [if_neg h] at C
    exact walk_n s n w h C

set_option maxRecDepth 100000 in
theorem lifted (os : Os) (started : os.Started) (H : Type) (enc : TypeId × Value → H) :
    ReturnsInHanded {} Try.checked os 6 .any (Rows.drawTwoSpec.pre6 enc Try.prog Try.f6 Rows.drawTwoRow.domain false) (Rows.drawTwoSpec.post enc Try.prog Try.f6 false true false false) := by
  refine returnsInHanded_of_change (C := Try.checked) own started (by kernel_rfl) Try.func6
    (ChangeSpec.witness6 (enc := enc) (C := Try.checked) false ⟨#[], #[.int .u64 0, .int .i64 0], []⟩ 8 (by kernel_rfl) (by kernel_rfl) (by kernel_rfl) (by kernel_rfl)) ?_
  intro W base args ds gs before hval0 hW hcnd _
  have hval : ∀ (j : Nat) t v, Try.f6.params[j]? = some t → args[j]? = some v → Value.okWide Try.prog W .any base t v := hval0
  have hW' := hW
  obtain ⟨p, q, hA0, hV, rfl, hfz, hnd⟩ := hW
  have hA : DataW.TrodAll enc Try.prog W 0 (fun _ => true) true Try.f6.params.toList args.toList ds p := hA0
  rw [Try.params6] at hA hval
  obtain ⟨v0, vs0, d0, ds0, p0, q0, hargs, rfl, rfl, h0, r0⟩ := trodAll_cons hA
  obtain ⟨v1, vs1, d1, ds1, p1, q1, rfl, rfl, rfl, h1, r1⟩ := trodAll_cons r0
  obtain ⟨rfl, rfl, rfl⟩ := trodAll_nil r1
  obtain rfl : args = #[v0, v1] := by cases args; simp_all
  obtain ⟨rfl, rfl⟩ := trodVars_none hV
  obtain ⟨a0, rfl, rfl, rfl, w0⟩ := open_int Try.underlying22 (hval 0 22 v0 rfl rfl) h0
  obtain ⟨a1, rfl, rfl, rfl, w1⟩ := open_int Try.underlying3 (hval 1 3 v1 rfl rfl) h1
  clear hA0 hval0
  refine (walk a0 w0 a1 w1).mono fun e W' ⟨he, bel⟩ => ?_
  subst he
  exact ⟨_, rfl, _, _, _, [], _, [], hW', trodAll_mk1 (shut_bool Try.underlying4 _), (trodAll_cons_mk (shut_int Try.underlying22 w0) (trodAll_cons_mk (shut_int Try.underlying3 w1) trodAll_mk0)), rfl, bel.frame _, fun h => by cases h⟩

theorem over : Rows.drawTwoRow.holds Try.pinned (OpenSpec.ofChange Rows.drawTwoSpec) :=
  OpenClaim.holds_of_wide 6 Try.f6 rfl rfl rfl rfl rfl rfl rfl ⟨rfl, rfl, rfl, rfl, rfl⟩ rfl rfl rfl rfl rfl (by kernel_rfl) Try.func6 (by kernel_rfl)
    (of_decide_eq_true (by kernel_rfl)) (by unfold Func.isWrapper; first | (rw [if_pos (by decide +kernel)]; kernel_rfl) | (rw [if_neg (by decide +kernel)]; exact ⟨rfl, rfl⟩))
    (fun os started H enc _ => lifted os started H enc)
end Go.Proofs.Ytjdbfilbjpfajaa.drawTwo

namespace Go.Proofs.Ytjdbfilbjpfajaa
/-- THE STATEMENT. -/
theorem drawTwo_holds : Rows.DrawTwoSaid := drawTwo.over
#print axioms drawTwo_holds
end Go.Proofs.Ytjdbfilbjpfajaa
