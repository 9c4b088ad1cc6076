/- ResolveTells of the landed code, sizes bounded. -/
import Derived.Test.YtcjopphefmogiaaRows
import Derived.BigQuiet
import Derived.Deep.QuietTactic
import Derived.WalkKit
import Derived.ProofKit
import Derived.OpenShut
import Derived.ShutString
import Derived.Test.YtcjopphefmogiaaOpenSn
import Derived.Test.YtcjopphefmogiaaRsZ
import Derived.Test.YtcjopphefmogiaaRsM
namespace Go.Proofs.Ytcjopphefmogiaa.resolveTells
open Go.ChangeShapes Go.WideShapes Go.ChangeAt Go.RowKit
open Go.ChangeMaps (open_string shut_string)
set_option linter.unusedVariables false
set_option maxRecDepth 20000

theorem walk {w : World} (r0 : Value) (x0 : Rv.S) (hs0 : BS w r0 x0.l) (ho0 : okSnapshot x0) (r1 : Value) (x1 : Rv.S) (hs1 : BS w r1 x1.l) (ho1 : okSnapshot x1) (r2 : Value) (x2 : Rv.S) (hs2 : BS w r2 x2.l) (ho2 : okSnapshot x2)
    (v3 : Value) (l3 : List Int) (hs3 : Seg .i64 w v3 l3) (ho3 : ∀ z ∈ l3, -9223372036854775808 ≤ z ∧ z ≤ 9223372036854775807) (hlen : x0.l.length + x1.l.length + x2.l.length + l3.length ≤ 1048576) :
    Calls Try.prog 3 #[vS r0 x0.v, vS r1 x1.v, vS r2 x2.v, v3] w fun e w' => e = .returned (.bool true) ∧ Below w.heap.size w w' :=
  tells_walk 1048576 (by omega) calive cchk capp cids cdif cpik csum r0 r1 r2 v3 x0 x1 x2 l3 w hs0 hs1 hs2 hs3 (by omega) (by omega) (fun i hi => wf_range (ho3 i hi))

set_option maxRecDepth 100000 in
theorem contract (H : Type) (enc : TypeId × Value → H) (W : World) (base : Nat) (args : Array Value) (ds gs : List (DataW H)) (before : List MemPlace)
    (hval : ∀ (j : Nat) t v, Try.f3.params[j]? = some t → args[j]? = some v → Value.okWide Try.prog W .any base t v)
    (hW : DataW.Whole enc Try.prog Try.f3.params.toList Rows.resolveTellsSpec.vars false W args.toList ds gs before) (hk : Rows.uptoSmall H (ds ++ gs) = true) :
    Calls Try.prog 3 args W fun e W' => ∃ v, e = .returned v ∧ Rows.resolveTellsSpec.post enc Try.prog Try.f3 false true false false W args v W' := by
  have hW' := hW
  obtain ⟨p, q, hA0, hV, rfl, hfz, hnd⟩ := hW
  have hA : DataW.TrodAll enc Try.prog W 0 (fun _ => true) true Try.f3.params.toList args.toList ds p := hA0
  rw [Try.params3] at hA hval
  obtain ⟨v0, vs0, d0, ds0, p0, q0, hargs, rfl, rfl, h0, r0⟩ := trodAll_cons hA
  obtain ⟨v1, vs1, d1, ds1, p1, q1, rfl, rfl, rfl, h1, r1⟩ := trodAll_cons r0
  obtain ⟨v2, vs2, d2, ds2, p2, q2, rfl, rfl, rfl, h2, r2⟩ := trodAll_cons r1
  obtain ⟨v3, vs3, d3, ds3, p3, q3, rfl, rfl, rfl, h3, r3⟩ := trodAll_cons r2
  obtain ⟨rfl, rfl, rfl⟩ := trodAll_nil r3
  obtain rfl : args = #[v0, v1, v2, v3] := by cases args; simp_all
  obtain ⟨rfl, rfl⟩ := trodVars_none hV
  have k0 := h0
  have lt0 : ∀ x ∈ p0, x.block < W.heap.size := by obtain ⟨m, hm⟩ := k0; exact DataW.trod_lt m _ _ _ hm
  obtain ⟨rr0, x0, hv0, hs0, ho0, parts0, hp0, e0⟩ := open_snap (hval 0 24 v0 rfl rfl) h0
  subst hv0
  subst hp0
  have k1 := h1
  have lt1 : ∀ x ∈ p1, x.block < W.heap.size := by obtain ⟨m, hm⟩ := k1; exact DataW.trod_lt m _ _ _ hm
  obtain ⟨rr1, x1, hv1, hs1, ho1, parts1, hp1, e1⟩ := open_snap (hval 1 24 v1 rfl rfl) h1
  subst hv1
  subst hp1
  have k2 := h2
  have lt2 : ∀ x ∈ p2, x.block < W.heap.size := by obtain ⟨m, hm⟩ := k2; exact DataW.trod_lt m _ _ _ hm
  obtain ⟨rr2, x2, hv2, hs2, ho2, parts2, hp2, e2⟩ := open_snap (hval 2 24 v2 rfl rfl) h2
  subst hv2
  subst hp2
  have k3 := h3
  have lt3 : ∀ x ∈ p3, x.block < W.heap.size := by obtain ⟨m, hm⟩ := k3; exact DataW.trod_lt m _ _ _ hm
  obtain ⟨l3, hs3, ho3, e3⟩ := open_numbers (hval 3 25 v3 rfl rfl) h3
  have hlen : x0.l.length + x1.l.length + x2.l.length + l3.length ≤ 1048576 := by
    have h := bulk_bound hk
    simp only [List.append_nil, Rows.uptoBulkAll] at h
    have b0 := snap_bulk e0
    have b1 := snap_bulk e1
    have b2 := snap_bulk e2
    have b3 := octets_bulk e3
    omega
  clear hA0
  refine (walk rr0 x0 hs0 ho0 rr1 x1 hs1 ho1 rr2 x2 hs2 ho2 v3 l3 hs3 ho3 hlen).mono fun e W' ⟨he, bel⟩ => ?_
  subst he
  exact ⟨_, rfl, _, _, _, [], _, [], hW', trodAll_mk1 (shut_bool Try.underlying4 _), (trodAll_cons_mk (Below.trod laidOut (by kernel_rfl) (of_decide_eq_true (by kernel_rfl)) k0 bel lt0) (trodAll_cons_mk (Below.trod laidOut (by kernel_rfl) (of_decide_eq_true (by kernel_rfl)) k1 bel lt1) (trodAll_cons_mk (Below.trod laidOut (by kernel_rfl) (of_decide_eq_true (by kernel_rfl)) k2 bel lt2) (trodAll_cons_mk (Below.trod laidOut (by kernel_rfl) (of_decide_eq_true (by kernel_rfl)) k3 bel lt3) trodAll_mk0)))), rfl, bel.frame _, fun h => by cases h⟩

set_option maxRecDepth 100000 in
theorem lifted (os : Os) (started : os.Started) (H : Type) (enc : TypeId × Value → H) (F : Stop.Interp) :
    ReturnsInHanded {} Try.checked os 3 .any ((Rows.OpenSpec.upto Rows.resolveTellsSpec).pre6 enc Try.prog Try.f3 Rows.resolveTellsUptoRow.domain false) (((Rows.OpenSpec.upto Rows.resolveTellsSpec).at F).post enc Try.prog Try.f3 false true false false) := by
  refine returnsInHanded_of_cond (C := Try.checked) (s := Rows.OpenSpec.upto Rows.resolveTellsSpec) (k := Rows.uptoSmall) rfl own started (by kernel_rfl) Try.func3
    (OpenSpec.witness (enc := enc) (C := Try.checked) (s := Rows.OpenSpec.upto Rows.resolveTellsSpec) (k := Rows.uptoSmall) rfl false ⟨#[], #[.agg #[.int .i64 0, .slice none 0 0], .agg #[.int .i64 0, .slice none 0 0], .agg #[.int .i64 0, .slice none 0 0], .slice none 0 0], []⟩ 8 (by kernel_rfl) (by kernel_rfl) (by kernel_rfl)
      (x := ([.agg [.lit (.int .i64 0), .nil], .agg [.lit (.int .i64 0), .nil], .agg [.lit (.int .i64 0), .nil], .nil], [], [])) (by kernel_rfl) rfl (by kernel_rfl)) ?_
  intro W base args ds gs before hval hW _ hk _
  exact contract H enc W base args ds gs before hval hW hk

theorem over : Rows.ResolveTellsUptoSaid :=
  OpenClaim.holds_of_cond 3 Try.f3 rfl rfl rfl rfl rfl rfl rfl ⟨rfl, rfl, rfl, rfl, rfl⟩ rfl rfl rfl rfl rfl (by kernel_rfl) Try.func3 (by kernel_rfl)
    (of_decide_eq_true (by kernel_rfl)) (by unfold Func.isWrapper; first | (rw [if_pos (by decide +kernel)]; kernel_rfl) | (rw [if_neg (by decide +kernel)]; exact ⟨rfl, rfl⟩))
    (fun os started H enc _ F => lifted os started H enc F)
end Go.Proofs.Ytcjopphefmogiaa.resolveTells

namespace Go.Proofs.Ytcjopphefmogiaa
/-- THE STATEMENT. -/
theorem resolveTellsUpto_holds : Rows.ResolveTellsUptoSaid := resolveTells.over
#print axioms resolveTellsUpto_holds
end Go.Proofs.Ytcjopphefmogiaa
