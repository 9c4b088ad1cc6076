/- ResolveOwn of the landed code. -/
import Derived.Test.YtcjopphefmogiaaRows
import Derived.BigQuiet
import Derived.Deep.QuietTactic
import Derived.WalkKit
import Derived.ProofKit
import Derived.OpenShut
import Derived.ShutString
import Derived.Test.YtcjopphefmogiaaOpenSn
import Derived.Test.YtcjopphefmogiaaRsZ
import Derived.Test.YtcjopphefmogiaaRsL
namespace Go.Proofs.Ytcjopphefmogiaa.resolveOwn
open Go.ChangeShapes Go.WideShapes Go.ChangeAt Go.RowKit
open Go.ChangeMaps (open_string shut_string)
set_option linter.unusedVariables false
set_option maxRecDepth 20000

theorem walk {w : World} (r0 : Value) (x0 : Rv.S) (hs0 : BS w r0 x0.l) (ho0 : okSnapshot x0) (z0 : x0.l.length ≤ 8796093022208) (r1 : Value) (x1 : Rv.S) (hs1 : BS w r1 x1.l) (ho1 : okSnapshot x1) (z1 : x1.l.length ≤ 8796093022208) :
    Calls Try.prog 8 #[vS r0 x0.v, vS r1 x1.v] w fun e w' => e = .returned (.bool true) ∧ Below w.heap.size w w' :=
  own_walk calive capp r0 r1 x0 x1 w hs0 hs1 z0 z1

set_option maxRecDepth 100000 in
theorem lifted (os : Os) (started : os.Started) (H : Type) (enc : TypeId × Value → H) :
    ReturnsInHanded {} Try.checked os 8 .any (Rows.resolveOwnSpec.pre6 enc Try.prog Try.f8 Rows.resolveOwnRow.domain false) (Rows.resolveOwnSpec.post enc Try.prog Try.f8 false true false false) := by
  refine returnsInHanded_of_change_sized (C := Try.checked) own started (by kernel_rfl) Try.func8
    (ChangeSpec.witness6 (enc := enc) (C := Try.checked) false ⟨#[], #[.agg #[.int .i64 0, .slice none 0 0], .agg #[.int .i64 0, .slice none 0 0]], []⟩ 8 (by kernel_rfl) (by kernel_rfl) (by kernel_rfl) (by kernel_rfl)) ?_
  intro W base args ds gs before hval0 hW hcnd hsz0 _
  have hval : ∀ (j : Nat) t v, Try.f8.params[j]? = some t → args[j]? = some v → Value.okWide Try.prog W .any base t v := hval0
  have hsz : (DataW.weightsEach Try.prog (Try.f8.params.toList ++ Rows.resolveOwnSpec.plain.varTypes Try.prog) (ds ++ gs)).all (· ≤ reachBytes) = true := hsz0
  have hW' := hW
  obtain ⟨p, q, hA0, hV, rfl, hfz, hnd⟩ := hW
  have hA : DataW.TrodAll enc Try.prog W 0 (fun _ => true) true Try.f8.params.toList args.toList ds p := hA0
  rw [Try.params8] at hA hval hsz
  obtain ⟨v0, vs0, d0, ds0, p0, q0, hargs, rfl, rfl, h0, r0⟩ := trodAll_cons hA
  obtain ⟨v1, vs1, d1, ds1, p1, q1, rfl, rfl, rfl, h1, r1⟩ := trodAll_cons r0
  obtain ⟨rfl, rfl, rfl⟩ := trodAll_nil r1
  obtain rfl : args = #[v0, v1] := by cases args; simp_all
  obtain ⟨rfl, rfl⟩ := trodVars_none hV
  have k0 := h0
  have lt0 : ∀ x ∈ p0, x.block < W.heap.size := by obtain ⟨m, hm⟩ := k0; exact DataW.trod_lt m _ _ _ hm
  obtain ⟨rr0, x0, hv0, hs0, ho0, parts0, hp0, e0⟩ := open_snap (hval 0 24 v0 rfl rfl) h0
  subst hv0
  subst hp0
  have z0 : x0.l.length ≤ 8796093022208 := by
    rcases e0 with e | ⟨elems, spare, hq, hl⟩
    · rw [e]; simp
    · rw [hl]; exact sized_snap hsz (j := 0) rfl rfl hq
  have k1 := h1
  have lt1 : ∀ x ∈ p1, x.block < W.heap.size := by obtain ⟨m, hm⟩ := k1; exact DataW.trod_lt m _ _ _ hm
  obtain ⟨rr1, x1, hv1, hs1, ho1, parts1, hp1, e1⟩ := open_snap (hval 1 24 v1 rfl rfl) h1
  subst hv1
  subst hp1
  have z1 : x1.l.length ≤ 8796093022208 := by
    rcases e1 with e | ⟨elems, spare, hq, hl⟩
    · rw [e]; simp
    · rw [hl]; exact sized_snap hsz (j := 1) rfl rfl hq
  clear hA0 hval0
  refine (walk rr0 x0 hs0 ho0 z0 rr1 x1 hs1 ho1 z1).mono fun e W' ⟨he, bel⟩ => ?_
  subst he
  exact ⟨_, rfl, _, _, _, [], _, [], hW', trodAll_mk1 (shut_bool Try.underlying4 _), (trodAll_cons_mk (Below.trod laidOut (by kernel_rfl) (of_decide_eq_true (by kernel_rfl)) k0 bel lt0) (trodAll_cons_mk (Below.trod laidOut (by kernel_rfl) (of_decide_eq_true (by kernel_rfl)) k1 bel lt1) trodAll_mk0)), rfl, bel.frame _, fun h => by cases h⟩

theorem over : Rows.resolveOwnRow.holds Try.pinned (OpenSpec.ofChange Rows.resolveOwnSpec) :=
  OpenClaim.holds_of_wide 8 Try.f8 rfl rfl rfl rfl rfl rfl rfl ⟨rfl, rfl, rfl, rfl, rfl⟩ rfl rfl rfl rfl rfl (by kernel_rfl) Try.func8 (by kernel_rfl)
    (of_decide_eq_true (by kernel_rfl)) (by unfold Func.isWrapper; first | (rw [if_pos (by decide +kernel)]; kernel_rfl) | (rw [if_neg (by decide +kernel)]; exact ⟨rfl, rfl⟩))
    (fun os started H enc _ => lifted os started H enc)
end Go.Proofs.Ytcjopphefmogiaa.resolveOwn

namespace Go.Proofs.Ytcjopphefmogiaa
/-- THE STATEMENT. -/
theorem resolveOwn_holds : Rows.ResolveOwnSaid := resolveOwn.over
#print axioms resolveOwn_holds
end Go.Proofs.Ytcjopphefmogiaa
