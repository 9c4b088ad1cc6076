/- For all loads: none is less busy than what Least tells, and none ahead of it as little; where the loads may not be it tells 0 (the law ChoiceLeast answers true): without a bound. -/
import Derived.Test.YtcpcnajifdicmaaRows
import Derived.BigQuiet
import Derived.Deep.QuietTactic
import Derived.WalkKit
import Derived.ProofKit
import Derived.OpenShut
import Derived.ShutString
import Derived.Test.YtcpcnajifdicmaaC3
import Derived.Test.YtcpcnajifdicmaaOpenL
namespace Go.Proofs.Ytcpcnajifdicmaa.choiceLeast
open Go.ChangeShapes Go.WideShapes Go.ChangeAt Go.RowKit
open Go.ChangeMaps (open_string shut_string)
open Go.Sort Go.Shelf
set_option linter.unusedVariables false
set_option maxRecDepth 20000

set_option maxHeartbeats 4000000 in
theorem walk (v : Value) (l : List Rp.Pt) {w : World} (hs : PSeg .i64 w v l) (ho : ∀ t ∈ l, (Lit.int .i64 t.2).wf = true) :
    Calls Try.prog 5 #[v] w fun e w' => e = .returned (.bool true) ∧ Below w.heap.size w w' := by
  have ca := lalive_any w
  have c1 := fun W (h : Below w.heap.size w W) => lleast_any v l W (hs.below h)
  have HS := hidD hs
  obtain ⟨a, cap, rfl, q1, q2, _, _⟩ := hs
  unfold maxLen at q2
  have HF : Hid (Lo.peopledE l = 0 → (∀ j, j < l.length → Lo.bu l (Lo.least l) ≤ (l.getD j (0, 0)).2 ∧ ((l.getD j (0, 0)).2 = Lo.bu l (Lo.least l) → Lo.id' l (Lo.least l) ≤ (l.getD j (0, 0)).1)) ∧ 0 ≤ Lo.bu l (Lo.least l) ∧ Lo.busy l (Lo.id' l (Lo.least l)) = Lo.bu l (Lo.least l)) := hidD (fun h => by
    obtain ⟨hc, h0⟩ := Lo.people_ok h
    have hr := (Lo.check_ok hc).2.2
    have hl := Lo.least_lt h0
    refine ⟨fun j hj => ?_, (Lo.at_ok hc hl).2.2.1, Lo.busy_at hr hl⟩
    have := Lo.best_is l (l.length - 1) j (by omega)
    refine ⟨this.1, fun e => ?_⟩
    have h2 : Lo.least l ≤ j := this.2 e
    rcases Nat.lt_or_ge (Lo.least l) j with h3 | h3
    · exact Int.le_of_lt (Lo.rise_all hr h3 hj)
    · have : Lo.least l = j := by omega
      rw [this]; exact Int.le_refl _)
  go_enter Try.func5, Try.ntmps5
  go_wp2_with fail
  with_reducible refine ca.mono ?_
  rintro e w1 ⟨rfl, b1⟩
  have c2 := c1 w1 b1
  clear c1 ca
  by_cases hE : Lo.peopledE l = 0
  · rw [if_pos hE, hE] at c2
    obtain ⟨F1, F2, F3⟩ := HF.out hE
    have HF1 := hidD F1
    clear HF hE F1
    generalize Lo.id' l (Lo.least l) = X at *
    generalize Lo.bu l (Lo.least l) = Y at *
    go_wp2_with fail
    with_reducible refine c2.mono ?_
    rintro e w2 ⟨rfl, b2⟩
    have B2 := Below.step b1 b2
    have c3 := lbusy_any _ l X w2 (HS.out.below B2)
    rw [F3] at c3
    clear b1 b2 c2 F3
    obtain ⟨N, hN⟩ : ∃ N, N = l.length := ⟨_, rfl⟩
    rw [← hN] at q1 c3 ⊢
    have HN := hidD hN
    clear hN
    go_wp2_with (first | (go_at_call 18; refine (num_any _ _).mono ?_; rintro e w4 ⟨rfl, rfl⟩) | (go_at_call 23; with_reducible refine c3.mono ?_; rintro e w4 ⟨rfl, rfl⟩))
    go_loopw [6] (fun i wr => ∃ k : Nat, k ≤ N ∧ i = .int .i64 k ∧ w2 = wr) (fun i _ => N - (intOf i).toNat)
    case atStart => exact ⟨0, Nat.zero_le _, rfl, rfl⟩
    case round =>
      obtain ⟨k, hk, rfl, rfl⟩ := hrel
      by_cases hlt : k < N
      · obtain ⟨a', cap', e1, _, _, h3, h4⟩ := HS.out.below B2
        rw [← HN.out] at e1
        cases e1
        obtain ⟨g, off, rfl, hg, hcell⟩ := pseg_at (l := l) (by have := HN.out; omega) h3 h4
        obtain ⟨Q1, Q2⟩ := hcell k (by have := HN.out; omega)
        obtain ⟨G1, G2⟩ := HF1.out k (by have := HN.out; omega)
        clear hcell h3 h4
        generalize (l.getD k (0, 0)) = y at *
        obtain ⟨y1, y2⟩ := y
        dsimp only at Q1 Q2 G1 G2
        have i1 : (k : Int) < (N : Int) := by omega
        have d1 : decide (y2 < Y) = false := decide_eq_false (by omega)
        by_cases hy : y2 = Y
        · have d3 : decide (y1 < X) = false := decide_eq_false (by have := G2 hy; omega)
          have d2 : (y2 == Y) = true := by simp [hy]
          clear G2
          subst hy
          go_wp2
          exact ⟨⟨k + 1, by omega, by go_num, (by first | rfl | trivial)⟩, by simp [intOf]; omega⟩
        · have d2 : (y2 == Y) = false := by simp [hy]
          clear G2
          go_wp2
          exact ⟨⟨k + 1, by omega, by go_num, (by first | rfl | trivial)⟩, by simp [intOf]; omega⟩
      · clear HF1
        have d1 : decide (0 ≤ Y) = true := decide_eq_true F2
        go_wp2
        go_ret
        exact ⟨by first | rfl | simp [d1], B2⟩
  · rw [if_neg hE] at c2
    clear HF
    generalize Lo.peopledE l = E at *
    have hb0 : (E == 0) = false := by simp [hE]
    go_wp2_with fail
    with_reducible refine c2.mono ?_
    rintro e w2 ⟨rfl, b2⟩
    go_wp2_with (go_at_call 18; refine (num_any _ _).mono ?_; rintro e w4 ⟨rfl, rfl⟩)
    go_ret
    exact ⟨rfl, Below.step b1 b2⟩

set_option maxRecDepth 100000 in
theorem lifted (os : Os) (started : os.Started) (H : Type) (enc : TypeId × Value → H) :
    ReturnsInHanded {} Try.checked os 5 .any (Rows.choiceLeastSpec.pre6 enc Try.prog Try.f5 Rows.choiceLeastRow.domain false) (Rows.choiceLeastSpec.post enc Try.prog Try.f5 false true false false) := by
  refine returnsInHanded_of_change (C := Try.checked) own started (by kernel_rfl) Try.func5
    (ChangeSpec.witness6 (enc := enc) (C := Try.checked) false ⟨#[], #[.slice none 0 0], []⟩ 8 (by kernel_rfl) (by kernel_rfl) (by kernel_rfl) (by kernel_rfl)) ?_
  intro W base args ds gs before hval0 hW hcnd _
  have hval : ∀ (j : Nat) t v, Try.f5.params[j]? = some t → args[j]? = some v → Value.okWide Try.prog W .any base t v := hval0
  have hW' := hW
  obtain ⟨p, q, hA0, hV, rfl, hfz, hnd⟩ := hW
  have hA : DataW.TrodAll enc Try.prog W 0 (fun _ => true) true Try.f5.params.toList args.toList ds p := hA0
  rw [Try.params5] at hA hval
  obtain ⟨v0, vs0, d0, ds0, p0, q0, hargs, rfl, rfl, h0, r0⟩ := trodAll_cons hA
  obtain ⟨rfl, rfl, rfl⟩ := trodAll_nil r0
  obtain rfl : args = #[v0] := by cases args; simp_all
  obtain ⟨rfl, rfl⟩ := trodVars_none hV
  have k0 := h0
  have lt0 : ∀ x ∈ p0, x.block < W.heap.size := by obtain ⟨m, hm⟩ := k0; exact DataW.trod_lt m _ _ _ hm
  obtain ⟨l0, hs0, ho0, e0⟩ := open_loads (hval 0 23 v0 rfl rfl) h0
  clear hA0 hval0
  refine (walk v0 l0 hs0 ho0).mono fun e W' ⟨he, bel⟩ => ?_
  subst he
  exact ⟨_, rfl, _, _, _, [], _, [], hW', trodAll_mk1 (shut_bool Try.underlying4 _), (trodAll_cons_mk (Below.trod laidOut (by kernel_rfl) (of_decide_eq_true (by kernel_rfl)) k0 bel lt0) trodAll_mk0), rfl, bel.frame _, fun h => by cases h⟩

theorem over : Rows.choiceLeastRow.holds Try.pinned (OpenSpec.ofChange Rows.choiceLeastSpec) :=
  OpenClaim.holds_of_wide 5 Try.f5 rfl rfl rfl rfl rfl rfl rfl ⟨rfl, rfl, rfl, rfl, rfl⟩ rfl rfl rfl rfl rfl (by kernel_rfl) Try.func5 (by kernel_rfl)
    (of_decide_eq_true (by kernel_rfl)) (by unfold Func.isWrapper; first | (rw [if_pos (by decide +kernel)]; kernel_rfl) | (rw [if_neg (by decide +kernel)]; exact ⟨rfl, rfl⟩))
    (fun os started H enc _ => lifted os started H enc)
end Go.Proofs.Ytcpcnajifdicmaa.choiceLeast

namespace Go.Proofs.Ytcpcnajifdicmaa
/-- THE STATEMENT. -/
theorem choiceLeast_holds : Rows.ChoiceLeastSaid := choiceLeast.over
#print axioms choiceLeast_holds
end Go.Proofs.Ytcpcnajifdicmaa
