/- For all ints points and at, all backends and all uint64 hashes: without one backend only what was its own goes elsewhere (the law RingLeaves answers true), and the arguments stay: without a bound. -/
import Derived.Test.YtekmcooghkchpaaRows
import Derived.BigQuiet
import Derived.Deep.QuietTactic
import Derived.WalkKit
import Derived.ProofKit
import Derived.OpenShut
import Derived.ShutString
import Derived.Test.YtekmcooghkchpaaRLb
import Derived.Test.YtekmcooghkchpaaOpenP
namespace Go.Proofs.Ytekmcooghkchpaa.ringLeaves
open Go.ChangeShapes Go.WideShapes Go.ChangeAt Go.RowKit
open Go.ChangeMaps (open_string shut_string)
open Go.Sort Go.Shelf
set_option linter.unusedVariables false
set_option maxRecDepth 20000

theorem walk (pn : Int) (w0 : (Lit.int .i64 pn).wf = true) (v : Value) (l : List Rp.Pt) {w : World} (hv : PSeg .i64 w v l) (ho : ∀ t ∈ l, (Lit.int .i64 t.2).wf = true) (at' : Int) (w2 : (Lit.int .i64 at').wf = true) (h : Int) (w3 : (Lit.int .u64 h).wf = true) :
    Calls Try.prog 5 #[.int .i64 pn, v, .int .i64 at', .int .u64 h] w fun e w' => e = .returned (.bool true) ∧ Below w.heap.size w w' := by
  obtain ⟨K, hK⟩ : ∃ K : Nat, K = (Int.tmod (Int.tmod at' (l.length : Int) + (l.length : Int)) (l.length : Int)).toNat := ⟨_, rfl⟩
  have wfr : ∀ (n : Int) (m : List Rp.Pt), Rp.buildE n m = 0 → ∀ p ∈ Rp.ring n m, (Lit.int .i64 p.2).wf = true := by
    intro n m hb p hp
    obtain ⟨b, hbm, e⟩ := Rp.ring_mem hb hp
    have := (Rp.check_ok (Rp.build_ok hb).1).2.1 b hbm
    rw [e]
    have h1 : IntKind.i64.min = -9223372036854775808 := by decide
    have h2 : IntKind.i64.max = 9223372036854775807 := by decide
    show (decide (IntKind.i64.min ≤ b.1) && decide (b.1 ≤ IntKind.i64.max)) = true
    rw [h1, h2, Bool.and_eq_true, decide_eq_true_iff, decide_eq_true_iff]
    omega
  have kk : Rp.buildE pn l = 0 → 2 ≤ l.length → Int.tmod (IntKind.i64.wrap (Int.tmod at' (l.length : Int) + (l.length : Int))) (l.length : Int) = (K : Int) ∧ K < l.length := by
    intro hE h2
    have k1 := (Rp.check_ok (Rp.build_ok hE).1).1
    have t1 : -(l.length : Int) < Int.tmod at' (l.length : Int) := by
      have := Int.lt_tmod_of_pos at' (b := (l.length : Int)) (by omega)
      omega
    have t2 : Int.tmod at' (l.length : Int) < (l.length : Int) := Int.tmod_lt_of_pos _ (by omega)
    have e1 : IntKind.i64.wrap (Int.tmod at' (l.length : Int) + (l.length : Int)) = Int.tmod at' (l.length : Int) + (l.length : Int) := by rw [IntKind.wrap_i64]; omega
    rw [e1]
    have t3 : 0 ≤ Int.tmod (Int.tmod at' (l.length : Int) + (l.length : Int)) (l.length : Int) := Int.tmod_nonneg _ (by omega)
    have t4 : Int.tmod (Int.tmod at' (l.length : Int) + (l.length : Int)) (l.length : Int) < (l.length : Int) := Int.tmod_lt_of_pos _ (by omega)
    rw [hK]
    omega
  refine callsIn_wide.1 (leaves_in pn at' h v l (Rp.ring pn l) (Rp.ring pn (Rp.less l K)) (Rp.buildE pn l) (Rp.owner (Rp.ring pn l) h) (Rp.owner (Rp.ring pn (Rp.less l K)) h) (l.getD K (0, 0)).1 (Rp.walkL (Rp.ring pn l) h) K w hv (fun hb => if_neg hb) (fun hE => (Rp.check_ok (Rp.build_ok hE).1).1)
    (fun hE h2 => ⟨(kk hE h2).1, (kk hE h2).2, rfl⟩) (fun hE h2 => ⟨Rp.walk_length hE (by omega) h, ?_⟩) (fun w' b => ?_) (fun hE h2 v2 w' hv2 => ?_) (fun hE h2 v' w' hv' => ?_) (fun hE h2 v' w' hv' => ?_) (fun hE h2 v' w' hv' => ?_))
  · have := Rp.leaves hE K (kk hE h2).2 h2 h
    split
    · rename_i hc
      rw [if_pos hc] at this
      exact this
    · rename_i hc
      rw [if_neg hc] at this
      exact this.symm
  · refine (build_any pn v l w' (hv.below b)).mono ?_
    rintro e w2 ⟨v', rfl, h1, _, h2⟩
    exact ⟨v', rfl, h1, h2⟩
  · refine (build_any pn v2 (Rp.less l K) w' hv2).mono ?_
    rintro e w2 ⟨v', rfl, h1, _, h2'⟩
    rw [Rp.less_ok hE K (kk hE h2).2]
    exact ⟨v', rfl, h1, h2'⟩
  · have c := lookup_any v' _ h w' hv'
    have hp := Rp.ring_peopled hE (by omega : 0 < l.length)
    rw [hp, show Rp.lookI (Rp.ring pn l) h = Rp.owner (Rp.ring pn l) h from if_pos hp] at c
    exact c
  · have c := lookup_any v' _ h w' hv'
    have hll : 0 < (Rp.less l K).length := by unfold Rp.less; rw [List.length_append, List.length_take, List.length_drop]; have := (kk hE h2).2; omega
    have hp := Rp.ring_peopled (Rp.less_ok hE K (kk hE h2).2) hll
    rw [hp, show Rp.lookI (Rp.ring pn (Rp.less l K)) h = Rp.owner (Rp.ring pn (Rp.less l K)) h from if_pos hp] at c
    exact c
  · refine (walk_any v' _ h w' hv' (wfr pn l hE)).mono ?_
    rintro e w2 ⟨v2, rfl, h1, _, h3⟩
    rw [Rp.ring_peopled hE (by omega : 0 < l.length)]
    exact ⟨v2, rfl, h1, h3⟩

set_option maxRecDepth 100000 in
theorem lifted (os : Os) (started : os.Started) (H : Type) (enc : TypeId × Value → H) :
    ReturnsInHanded {} Try.checked os 5 .any (Rows.ringLeavesSpec.pre6 enc Try.prog Try.f5 Rows.ringLeavesRow.domain false) (Rows.ringLeavesSpec.post enc Try.prog Try.f5 false true false false) := by
  refine returnsInHanded_of_change (C := Try.checked) own started (by kernel_rfl) Try.func5
    (ChangeSpec.witness6 (enc := enc) (C := Try.checked) false ⟨#[], #[.int .i64 0, .slice none 0 0, .int .i64 0, .int .u64 0], []⟩ 8 (by kernel_rfl) (by kernel_rfl) (by kernel_rfl) (by kernel_rfl)) ?_
  intro W base args ds gs before hval0 hW hcnd _
  have hval : ∀ (j : Nat) t v, Try.f5.params[j]? = some t → args[j]? = some v → Value.okWide Try.prog W .any base t v := hval0
  have hW' := hW
  obtain ⟨p, q, hA0, hV, rfl, hfz, hnd⟩ := hW
  have hA : DataW.TrodAll enc Try.prog W 0 (fun _ => true) true Try.f5.params.toList args.toList ds p := hA0
  rw [Try.params5] at hA hval
  obtain ⟨v0, vs0, d0, ds0, p0, q0, hargs, rfl, rfl, h0, r0⟩ := trodAll_cons hA
  obtain ⟨v1, vs1, d1, ds1, p1, q1, rfl, rfl, rfl, h1, r1⟩ := trodAll_cons r0
  obtain ⟨v2, vs2, d2, ds2, p2, q2, rfl, rfl, rfl, h2, r2⟩ := trodAll_cons r1
  obtain ⟨v3, vs3, d3, ds3, p3, q3, rfl, rfl, rfl, h3, r3⟩ := trodAll_cons r2
  obtain ⟨rfl, rfl, rfl⟩ := trodAll_nil r3
  obtain rfl : args = #[v0, v1, v2, v3] := by cases args; simp_all
  obtain ⟨rfl, rfl⟩ := trodVars_none hV
  obtain ⟨a0, rfl, rfl, rfl, w0⟩ := open_int Try.underlying3 (hval 0 3 v0 rfl rfl) h0
  have k1 := h1
  have lt1 : ∀ x ∈ p1, x.block < W.heap.size := by obtain ⟨m, hm⟩ := k1; exact DataW.trod_lt m _ _ _ hm
  obtain ⟨l1, hs1, ho1, _⟩ := open_backs (hval 1 22 v1 rfl rfl) h1
  obtain ⟨a2, rfl, rfl, rfl, w2⟩ := open_int Try.underlying3 (hval 2 3 v2 rfl rfl) h2
  obtain ⟨a3, rfl, rfl, rfl, w3⟩ := open_int Try.underlying24 (hval 3 24 v3 rfl rfl) h3
  clear hA0 hval0
  refine (walk a0 w0 v1 l1 hs1 ho1 a2 w2 a3 w3).mono fun e W' ⟨he, bel⟩ => ?_
  subst he
  exact ⟨_, rfl, _, _, _, [], _, [], hW', trodAll_mk1 (shut_bool Try.underlying4 _), (trodAll_cons_mk (shut_int Try.underlying3 w0) (trodAll_cons_mk (Below.trod laidOut (by kernel_rfl) (of_decide_eq_true (by kernel_rfl)) k1 bel lt1) (trodAll_cons_mk (shut_int Try.underlying3 w2) (trodAll_cons_mk (shut_int Try.underlying24 w3) trodAll_mk0)))), rfl, bel.frame _, fun h => by cases h⟩

theorem over : Rows.ringLeavesRow.holds Try.pinned (OpenSpec.ofChange Rows.ringLeavesSpec) :=
  OpenClaim.holds_of_wide 5 Try.f5 rfl rfl rfl rfl rfl rfl rfl ⟨rfl, rfl, rfl, rfl, rfl⟩ rfl rfl rfl rfl rfl (by kernel_rfl) Try.func5 (by kernel_rfl)
    (of_decide_eq_true (by kernel_rfl)) (by unfold Func.isWrapper; first | (rw [if_pos (by decide +kernel)]; kernel_rfl) | (rw [if_neg (by decide +kernel)]; exact ⟨rfl, rfl⟩))
    (fun os started H enc _ => lifted os started H enc)
end Go.Proofs.Ytekmcooghkchpaa.ringLeaves

namespace Go.Proofs.Ytekmcooghkchpaa
/-- THE STATEMENT. -/
theorem ringLeaves_holds : Rows.RingLeavesSaid := ringLeaves.over
#print axioms ringLeaves_holds
end Go.Proofs.Ytekmcooghkchpaa
