/- For all uint64 x and y: Unmix of Mix of x is x, Mix of Unmix of x is x, and x and y are mixed into the same just if they are the same (the law HashBack answers true), and the arguments stay: without a bound. -/
import Derived.Test.YticmplnpkkkojaaRows
import Derived.WalkKit
import Derived.ProofKit
import Derived.OpenShut
import Derived.ShutString
import Derived.Test.YticmplnpkkkojaaHB
import Derived.Test.YticmplnpkkkojaaOpen
namespace Go.Proofs.Yticmplnpkkkojaa.hashBack
open Go.ChangeShapes Go.WideShapes Go.ChangeAt Go.RowKit
open Go.ChangeMaps (open_string shut_string)
set_option linter.unusedVariables false
set_option maxRecDepth 20000

set_option maxHeartbeats 400000 in
theorem walk (x : Int) (w0 : (Lit.int .u64 x).wf = true) (y : Int) (w1 : (Lit.int .u64 y).wf = true) {w : World} :
    Calls Try.prog 4 #[.int .u64 x, .int .u64 y] w fun e w' => e = .returned (.bool true) ∧ Below w.heap.size w w' := by
  have hx := bounds_u64 w0
  have hy := bounds_u64 w1
  clear w0 w1
  obtain ⟨X, rfl⟩ := Int.eq_ofNat_of_zero_le hx.1
  obtain ⟨Y, rfl⟩ := Int.eq_ofNat_of_zero_le hy.1
  have hX : X < 18446744073709551616 := by omega
  have hY : Y < 18446744073709551616 := by omega
  clear hx hy
  have c0 := alive_any w
  have c1 := mix_any X w hX
  have c2 := mix_any Y w hY
  have c3 := unmix_any X w hX
  have c4 := unmix_any _ w (Hp.mix_lt X)
  have c5 := mix_any _ w (Hp.unmix_lt X)
  have e1 : Hp.unmix (Hp.mix X) = X := Hp.unmix_mix hX
  have e2 : Hp.mix (Hp.unmix X) = X := Hp.mix_unmix hX
  have e3 := Hp.mix_iff hX hY
  rw [e1] at c4
  rw [e2] at c5
  clear e1 e2
  generalize Hp.mix X = mx at *
  generalize Hp.mix Y = my at *
  generalize Hp.unmix X = ux at *
  go_enter Try.func4, Try.ntmps4
  go_wp2_with (first | (go_at_call 19; with_reducible refine c0.mono ?_; rintro e w1 ⟨rfl, rfl⟩) | (go_at_call 10; (first | (with_reducible refine c1.mono ?_) | (with_reducible refine c2.mono ?_) | (with_reducible refine c5.mono ?_)); rintro e w1 ⟨rfl, rfl⟩) | (go_at_call 12; (first | (with_reducible refine c3.mono ?_) | (with_reducible refine c4.mono ?_)); rintro e w1 ⟨rfl, rfl⟩))
  go_ret
  refine ⟨ret_bool ?_, Below.refl _ _⟩
  exact beq_iff (by omega)

set_option maxRecDepth 100000 in
theorem lifted (os : Os) (started : os.Started) (H : Type) (enc : TypeId × Value → H) :
    ReturnsInHanded {} Try.checked os 4 .any (Rows.hashBackSpec.pre6 enc Try.prog Try.f4 Rows.hashBackRow.domain false) (Rows.hashBackSpec.post enc Try.prog Try.f4 false true false false) := by
  refine returnsInHanded_of_change (C := Try.checked) own started (by kernel_rfl) Try.func4
    (ChangeSpec.witness6 (enc := enc) (C := Try.checked) false ⟨#[], #[.int .u64 0, .int .u64 0], []⟩ 8 (by kernel_rfl) (by kernel_rfl) (by kernel_rfl) (by kernel_rfl)) ?_
  intro W base args ds gs before hval0 hW hcnd _
  have hval : ∀ (j : Nat) t v, Try.f4.params[j]? = some t → args[j]? = some v → Value.okWide Try.prog W .any base t v := hval0
  have hW' := hW
  obtain ⟨p, q, hA0, hV, rfl, hfz, hnd⟩ := hW
  have hA : DataW.TrodAll enc Try.prog W 0 (fun _ => true) true Try.f4.params.toList args.toList ds p := hA0
  rw [Try.params4] at hA hval
  obtain ⟨v0, vs0, d0, ds0, p0, q0, hargs, rfl, rfl, h0, r0⟩ := trodAll_cons hA
  obtain ⟨v1, vs1, d1, ds1, p1, q1, rfl, rfl, rfl, h1, r1⟩ := trodAll_cons r0
  obtain ⟨rfl, rfl, rfl⟩ := trodAll_nil r1
  obtain rfl : args = #[v0, v1] := by cases args; simp_all
  obtain ⟨rfl, rfl⟩ := trodVars_none hV
  obtain ⟨a0, rfl, rfl, rfl, w0⟩ := open_int Try.underlying22 (hval 0 22 v0 rfl rfl) h0
  obtain ⟨a1, rfl, rfl, rfl, w1⟩ := open_int Try.underlying22 (hval 1 22 v1 rfl rfl) h1
  clear hA0 hval0
  refine (walk a0 w0 a1 w1).mono fun e W' ⟨he, bel⟩ => ?_
  subst he
  exact ⟨_, rfl, _, _, _, [], _, [], hW', trodAll_mk1 (shut_bool Try.underlying4 _), (trodAll_cons_mk (shut_int Try.underlying22 w0) (trodAll_cons_mk (shut_int Try.underlying22 w1) trodAll_mk0)), rfl, bel.frame _, fun h => by cases h⟩

theorem over : Rows.hashBackRow.holds Try.pinned (OpenSpec.ofChange Rows.hashBackSpec) :=
  OpenClaim.holds_of_wide 4 Try.f4 rfl rfl rfl rfl rfl rfl rfl ⟨rfl, rfl, rfl, rfl, rfl⟩ rfl rfl rfl rfl rfl (by kernel_rfl) Try.func4 (by kernel_rfl)
    (of_decide_eq_true (by kernel_rfl)) (by unfold Func.isWrapper; first | (rw [if_pos (by decide +kernel)]; kernel_rfl) | (rw [if_neg (by decide +kernel)]; exact ⟨rfl, rfl⟩))
    (fun os started H enc _ => lifted os started H enc)
end Go.Proofs.Yticmplnpkkkojaa.hashBack

namespace Go.Proofs.Yticmplnpkkkojaa
/-- THE STATEMENT. -/
theorem hashBack_holds : Rows.HashBackSaid := hashBack.over
#print axioms hashBack_holds
end Go.Proofs.Yticmplnpkkkojaa
