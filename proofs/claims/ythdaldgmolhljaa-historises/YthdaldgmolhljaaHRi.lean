/- For every histogram and any two shares: of the greater one the quantile is no smaller (the law HistoRises answers true), and no other memory is touched. -/
import Derived.Test.YthdaldgmolhljaaRows
import Derived.BigQuiet
import Derived.Deep.QuietTactic
import Derived.WalkKit
import Derived.ProofKit
import Derived.OpenShut
import Derived.ShutString
import Derived.Test.YthdaldgmolhljaaHsG
import Derived.Test.YthdaldgmolhljaaOpenH
namespace Go.Proofs.Ythdaldgmolhljaa.histoRises
open Go.ChangeShapes Go.WideShapes Go.ChangeAt Go.RowKit
open Go.ChangeMaps (open_string shut_string)
set_option linter.unusedVariables false
set_option maxRecDepth 20000

theorem qu_up {h : Hi.H} {a b : Int} (ha : Hi.quE h a = 0) (hb : Hi.quE h b = 0) (hab : a ≤ b) : Hi.quR h a ≤ Hi.quR h b := by
  obtain ⟨k1, a1, a2, a3, a4, a5, a6, a7⟩ := Hi.quE_zero ha
  obtain ⟨_, b1, b2, b3, b4, b5, b6, b7⟩ := Hi.quE_zero hb
  have h2 := (Hi.chk_zero k1).2.1
  rw [show Hi.quR h a = _ from if_pos ha, show Hi.quR h b = _ from if_pos hb]
  exact Hi.top_up (Hi.at_up (fun j => (h2 j).1) a6 b6 (Hi.want_up hab (by omega))) (by omega)
set_option maxHeartbeats 4000000 in
theorem walk (rr : Value) (h : Hi.H) {w : World} (hs : Seg .i64 w rr h.c) (ho : ∀ z, z ∈ h.c → (Lit.int .i64 z).wf = true) (hw : (Lit.int .i64 h.t).wf = true) (a : Int) (wa : (Lit.int .i64 a).wf = true) (b : Int) (wb : (Lit.int .i64 b).wf = true) :
    Calls Try.prog 7 #[vH rr h.t, .int .i64 a, .int .i64 b] w fun e w' => e = .returned (.bool true) ∧ Below w.heap.size w w' := by
  have HB := hidD ((Below.refl w.heap.size w).alloc (Nat.le_refl _) (.cells (hL rr h.t).toArray 24))
  have X0 := hidD (Bo.new w (hL rr h.t) 24)
  have ca := alive_any (w.alloc (.cells (hL rr h.t).toArray 24))
  have c1 := quantile_any rr h a (w.alloc (.cells (hL rr h.t).toArray 24)) (hs.below HB.out)
  have C2 := hidD (fun (W : World) (hb : Below w.heap.size w W) => quantile_any rr h b W (hs.below hb))
  have HS : Hid (w.heap.size + 1 ≤ (w.alloc (.cells (hL rr h.t).toArray 24)).heap.size) := hidD (by rw [World.size_alloc]; omega)
  obtain ⟨W0, hW0⟩ : ∃ W0, W0 = w.alloc (.cells (hL rr h.t).toArray 24) := ⟨_, rfl⟩
  rw [← hW0] at HB X0 ca c1 HS
  have HU : Hid (Hi.quE h a = 0 → Hi.quE h b = 0 → a ≤ b → Hi.quR h a ≤ Hi.quR h b) := hidD qu_up
  clear ho hw wa wb hs
  generalize Hi.quE h a = ea at *
  generalize Hi.quE h b = eb at *
  generalize Hi.quR h a = qa at *
  generalize Hi.quR h b = qb at *
  obtain ⟨d, t⟩ := h
  dsimp only at *
  simp only [hL] at hW0
  obtain ⟨N, hN⟩ : ∃ N, N = w.heap.size := ⟨_, rfl⟩
  rw [← hN] at X0 HB HS C2 ⊢
  go_enter Try.func7, Try.ntmps7
  go_wp2_with fail
  rw [← hN, ← hW0]
  clear hW0 hN
  with_reducible refine ca.mono ?_
  rintro e w2 ⟨rfl, rfl⟩
  have p0 := X0.out.cell 0 rfl
  have p1 := X0.out.cell 1 rfl
  go_wp2_with fail
  with_reducible refine c1.mono ?_
  rintro e w1 ⟨rfl, h1⟩
  clear p0 p1
  have p0 := (X0.out.below h1).cell 0 rfl
  have p1 := (X0.out.below h1).cell 1 rfl
  replace HB := hidD (below_on HB.out (by have := HS.out; omega) h1)
  replace HS : Hid (N ≤ w1.heap.size) := hidD (by have := HS.out; have := h1.size; omega)
  have c2 := C2.out w1 HB.out
  clear c1 C2 ca h1 X0
  go_wp2_with fail
  with_reducible refine c2.mono ?_
  rintro e w3 ⟨rfl, h3⟩
  replace HB := hidD (below_on HB.out HS.out h3)
  clear c2 h3
  by_cases k1 : ea = 0
  case neg =>
    have d1 : (ea != 0) = true := by simp [k1]
    go_wp2_with (first | (go_at_call 20; refine (num_any _ _).mono ?_; rintro e ww ⟨rfl, rfl⟩))
    go_ret
    exact ⟨by first | rfl | simp, HB.out⟩
  subst k1
  by_cases k2 : eb = 0
  case neg =>
    have d1 : (eb != 0) = true := by simp [k2]
    go_wp2_with (first | (go_at_call 20; refine (num_any _ _).mono ?_; rintro e ww ⟨rfl, rfl⟩))
    go_ret
    exact ⟨by first | rfl | simp, HB.out⟩
  subst k2
  by_cases k3 : b < a
  case pos =>
    clear HU
    go_wp2_with (first | (go_at_call 20; refine (num_any _ _).mono ?_; rintro e ww ⟨rfl, rfl⟩))
    go_ret
    exact ⟨by first | rfl | simp | (simp; omega), HB.out⟩
  have hq := HU.out rfl rfl (by omega)
  clear HU
  go_wp2_with (first | (go_at_call 20; refine (num_any _ _).mono ?_; rintro e ww ⟨rfl, rfl⟩))
  go_ret
  exact ⟨by first | rfl | simp | (simp; omega), HB.out⟩

set_option maxRecDepth 100000 in
theorem lifted (os : Os) (started : os.Started) (H : Type) (enc : TypeId × Value → H) :
    ReturnsInHanded {} Try.checked os 7 .any (Rows.histoRisesSpec.pre6 enc Try.prog Try.f7 Rows.histoRisesRow.domain false) (Rows.histoRisesSpec.post enc Try.prog Try.f7 false true false false) := by
  refine returnsInHanded_of_change (C := Try.checked) own started (by kernel_rfl) Try.func7
    (ChangeSpec.witness6 (enc := enc) (C := Try.checked) false ⟨#[], #[.agg #[.slice none 0 0, .int .i64 0], .int .i64 0, .int .i64 0], []⟩ 8 (by kernel_rfl) (by kernel_rfl) (by kernel_rfl) (by kernel_rfl)) ?_
  intro W base args ds gs before hval0 hW hcnd _
  have hval : ∀ (j : Nat) t v, Try.f7.params[j]? = some t → args[j]? = some v → Value.okWide Try.prog W .any base t v := hval0
  have hW' := hW
  obtain ⟨p, q, hA0, hV, rfl, hfz, hnd⟩ := hW
  have hA : DataW.TrodAll enc Try.prog W 0 (fun _ => true) true Try.f7.params.toList args.toList ds p := hA0
  rw [Try.params7] at hA hval
  obtain ⟨v0, vs0, d0, ds0, p0, q0, hargs, rfl, rfl, h0, r0⟩ := trodAll_cons hA
  obtain ⟨v1, vs1, d1, ds1, p1, q1, rfl, rfl, rfl, h1, r1⟩ := trodAll_cons r0
  obtain ⟨v2, vs2, d2, ds2, p2, q2, rfl, rfl, rfl, h2, r2⟩ := trodAll_cons r1
  obtain ⟨rfl, rfl, rfl⟩ := trodAll_nil r2
  obtain rfl : args = #[v0, v1, v2] := by cases args; simp_all
  obtain ⟨rfl, rfl⟩ := trodVars_none hV
  have k0 := h0
  have lt0 : ∀ x ∈ p0, x.block < W.heap.size := by obtain ⟨m, hm⟩ := k0; exact DataW.trod_lt m _ _ _ hm
  obtain ⟨rr0, x0, hv0, hs0, ho0, hw0, parts0, hp0, e0⟩ := open_histo (hval 0 24 v0 rfl rfl) h0
  subst hv0
  obtain ⟨a1, rfl, rfl, rfl, w1⟩ := open_int Try.underlying3 (hval 1 3 v1 rfl rfl) h1
  obtain ⟨a2, rfl, rfl, rfl, w2⟩ := open_int Try.underlying3 (hval 2 3 v2 rfl rfl) h2
  clear hA0 hval0
  refine (walk rr0 x0 hs0 ho0 hw0 a1 w1 a2 w2).mono fun e W' ⟨he, bel⟩ => ?_
  subst he
  exact ⟨_, rfl, _, _, _, [], _, [], hW', trodAll_mk1 (shut_bool Try.underlying4 _), (trodAll_cons_mk (Below.trod laidOut (by kernel_rfl) (of_decide_eq_true (by kernel_rfl)) k0 bel lt0) (trodAll_cons_mk (shut_int Try.underlying3 w1) (trodAll_cons_mk (shut_int Try.underlying3 w2) trodAll_mk0))), rfl, bel.frame _, fun h => by cases h⟩

theorem over : Rows.histoRisesRow.holds Try.pinned (OpenSpec.ofChange Rows.histoRisesSpec) :=
  OpenClaim.holds_of_wide 7 Try.f7 rfl rfl rfl rfl rfl rfl rfl ⟨rfl, rfl, rfl, rfl, rfl⟩ rfl rfl rfl rfl rfl (by kernel_rfl) Try.func7 (by kernel_rfl)
    (of_decide_eq_true (by kernel_rfl)) (by unfold Func.isWrapper; first | (rw [if_pos (by decide +kernel)]; kernel_rfl) | (rw [if_neg (by decide +kernel)]; exact ⟨rfl, rfl⟩))
    (fun os started H enc _ => lifted os started H enc)
end Go.Proofs.Ythdaldgmolhljaa.histoRises

namespace Go.Proofs.Ythdaldgmolhljaa
/-- THE STATEMENT. -/
theorem histoRises_holds : Rows.HistoRisesSaid := histoRises.over
#print axioms histoRises_holds
end Go.Proofs.Ythdaldgmolhljaa
