/- The statement OutlierRoom. -/
import Derived.Test.YtfjcilkllgaimaaRows
import Derived.BigQuiet
import Derived.Deep.QuietTactic
import Derived.WalkKit
import Derived.ProofKit
import Derived.OpenShut
import Derived.ShutString
import Derived.Test.YtfjcilkllgaimaaEJ
import Derived.Test.YtfjcilkllgaimaaOpen
namespace Go.Proofs.Ytfjcilkllgaimaa.outlierRoom
open Go.ChangeShapes Go.WideShapes Go.ChangeAt Go.RowKit
open Go.ChangeMaps (open_string shut_string)
set_option linter.unusedVariables false
set_option maxRecDepth 20000

set_option maxHeartbeats 2000000 in
theorem walk (s : Ou.Se) (n : Int) (wn : (Lit.int .i64 n).wf = true) {w : World} :
    Calls Try.prog 7 #[vS s, .int .i64 n] w fun e w' => e = .returned (.bool true) ∧ Below w.heap.size w w' := by
  have cr := hidD (fun k W => oroom_any s n k W)
  have cp := hidD (fun k W => opan_any s n k W)
  have HG := hidD (@Ou.room_good s n)
  have HN := hidD (@Ou.room_bad s n)
  have X1 := hidD (Bo.new w (sL s) 25)
  have HB := hidD ((Below.refl w.heap.size w).alloc (Nat.le_refl _) (.cells (sL s).toArray 25))
  have HS : Hid (w.heap.size + 1 ≤ (w.alloc (.cells (sL s).toArray 25)).heap.size) := hidD (by simp)
  obtain ⟨W0, hW0⟩ : ∃ W0, W0 = w.alloc (.cells (sL s).toArray 25) := ⟨_, rfl⟩
  obtain ⟨N, hN⟩ : ∃ N, N = w.heap.size := ⟨_, rfl⟩
  rw [← hW0] at X1 HB HS
  rw [← hN] at X1 HB HS ⊢
  simp only [sL] at hW0
  go_enter Try.func7, Try.ntmps7
  go_wp2_with fail
  rw [← hN, ← hW0]
  clear hN hW0
  with_reducible refine (oalive_any W0).mono ?_
  rintro e v0 ⟨rfl, h⟩
  replace X1 := hidD (X1.out.below h)
  replace HB := hidD (below_on HB.out (by have := HS.out; omega) h)
  replace HS := hidD (Nat.le_trans HS.out h.size)
  clear h
  by_cases hm : Ou.mayN s n 0 = true
  · obtain ⟨⟨k0, k1⟩, e1, e2, e3, e4, e5, e6⟩ := HG.out hm
    have cr0 := hidD (cr.out 0)
    have cr1 := hidD (cr.out (Ou.roomR s n 0))
    have cp0 := hidD (cp.out 0)
    have cp1 := hidD (cp.out n)
    rw [e1] at cr0
    rw [e2, e3] at cr1
    rw [e1, e4] at cp0
    rw [e5, e6] at cp1
    clear e1 e2 e3 e4 e5 e6 HG HN cr cp hm
    generalize Ou.roomR s n 0 = k at *
    obtain ⟨SW, SM, SL, SB, SX, SP, SC⟩ := s
    dsimp only at *
    have q0 := X1.out.cell 0 rfl
    have q1 := X1.out.cell 1 rfl
    have q2 := X1.out.cell 2 rfl
    have q3 := X1.out.cell 3 rfl
    have q4 := X1.out.cell 4 rfl
    have q5 := X1.out.cell 5 rfl
    have q6 := X1.out.cell 6 rfl
    have c := cr0.out v0
    go_wp2_with fail
    with_reducible refine c.mono ?_
    rintro e v1 ⟨rfl, h⟩
    clear c
    clear q0 q1 q2 q3 q4 q5 q6
    replace X1 := hidD (X1.out.below h)
    replace HB := hidD (below_on HB.out (by have := HS.out; omega) h)
    replace HS := hidD (Nat.le_trans HS.out h.size)
    clear h
    have q0 := X1.out.cell 0 rfl
    have q1 := X1.out.cell 1 rfl
    have q2 := X1.out.cell 2 rfl
    have q3 := X1.out.cell 3 rfl
    have q4 := X1.out.cell 4 rfl
    have q5 := X1.out.cell 5 rfl
    have q6 := X1.out.cell 6 rfl
    have c := cr1.out v1
    go_wp2_with (go_at_call 17; refine (num_any _ _).mono ?_; rintro e w4 ⟨rfl, rfl⟩)
    with_reducible refine c.mono ?_
    rintro e v2 ⟨rfl, h⟩
    clear c
    clear q0 q1 q2 q3 q4 q5 q6
    replace X1 := hidD (X1.out.below h)
    replace HB := hidD (below_on HB.out (by have := HS.out; omega) h)
    replace HS := hidD (Nat.le_trans HS.out h.size)
    clear h
    have q0 := X1.out.cell 0 rfl
    have q1 := X1.out.cell 1 rfl
    have q2 := X1.out.cell 2 rfl
    have q3 := X1.out.cell 3 rfl
    have q4 := X1.out.cell 4 rfl
    have q5 := X1.out.cell 5 rfl
    have q6 := X1.out.cell 6 rfl
    have c := cp0.out v2
    go_wp2_with fail
    with_reducible refine c.mono ?_
    rintro e v3 ⟨rfl, h⟩
    clear c
    clear q0 q1 q2 q3 q4 q5 q6
    replace X1 := hidD (X1.out.below h)
    replace HB := hidD (below_on HB.out (by have := HS.out; omega) h)
    replace HS := hidD (Nat.le_trans HS.out h.size)
    clear h
    have q0 := X1.out.cell 0 rfl
    have q1 := X1.out.cell 1 rfl
    have q2 := X1.out.cell 2 rfl
    have q3 := X1.out.cell 3 rfl
    have q4 := X1.out.cell 4 rfl
    have q5 := X1.out.cell 5 rfl
    have q6 := X1.out.cell 6 rfl
    have c := cp1.out v3
    go_wp2_with fail
    with_reducible refine c.mono ?_
    rintro e v4 ⟨rfl, h⟩
    clear c
    clear q0 q1 q2 q3 q4 q5 q6
    replace X1 := hidD (X1.out.below h)
    replace HB := hidD (below_on HB.out (by have := HS.out; omega) h)
    replace HS := hidD (Nat.le_trans HS.out h.size)
    clear h
    have q0 := X1.out.cell 0 rfl
    have q1 := X1.out.cell 1 rfl
    have q2 := X1.out.cell 2 rfl
    have q3 := X1.out.cell 3 rfl
    have q4 := X1.out.cell 4 rfl
    have q5 := X1.out.cell 5 rfl
    have q6 := X1.out.cell 6 rfl
    have HBB := hidD HB.out
    clear HB HS X1 cr0 cr1 cp0 cp1
    by_cases hc : 0 < SC
    · skip
      by_cases hn : 0 < n
      · skip
        have hc2 := decide_eq_true hc
        have hn2 := decide_eq_true hn
        go_wp2_with (go_at_call 17; refine (num_any _ _).mono ?_; rintro e w4 ⟨rfl, rfl⟩)
        go_ret
        exact ⟨by first | rfl | simp [*], HBB.out⟩
      · skip
        have hc2 := decide_eq_true hc
        have hn2 := decide_eq_false hn
        go_wp2_with (go_at_call 17; refine (num_any _ _).mono ?_; rintro e w4 ⟨rfl, rfl⟩)
        go_ret
        exact ⟨by first | rfl | simp [*], HBB.out⟩
    · skip
      have hc2 := decide_eq_false hc
      go_wp2_with (go_at_call 17; refine (num_any _ _).mono ?_; rintro e w4 ⟨rfl, rfl⟩)
      go_ret
      exact ⟨by first | rfl | simp [*], HBB.out⟩
  · obtain ⟨e1, e2⟩ := HN.out hm
    have cr0 := hidD (cr.out 0)
    rw [e1, e2] at cr0
    clear e1 e2 HG HN cr cp hm
    have q0 := X1.out.cell 0 rfl
    have q1 := X1.out.cell 1 rfl
    have q2 := X1.out.cell 2 rfl
    have q3 := X1.out.cell 3 rfl
    have q4 := X1.out.cell 4 rfl
    have q5 := X1.out.cell 5 rfl
    have q6 := X1.out.cell 6 rfl
    have c := cr0.out v0
    go_wp2_with fail
    with_reducible refine c.mono ?_
    rintro e v1 ⟨rfl, h⟩
    clear c
    clear q0 q1 q2 q3 q4 q5 q6
    replace X1 := hidD (X1.out.below h)
    replace HB := hidD (below_on HB.out (by have := HS.out; omega) h)
    replace HS := hidD (Nat.le_trans HS.out h.size)
    clear h
    go_wp2_with (go_at_call 17; refine (num_any _ _).mono ?_; rintro e w4 ⟨rfl, rfl⟩)
    go_ret
    exact ⟨by first | rfl | simp [*], HB.out⟩

set_option maxRecDepth 100000 in
theorem lifted (os : Os) (started : os.Started) (H : Type) (enc : TypeId × Value → H) :
    ReturnsInHanded {} Try.checked os 7 .any (Rows.outlierRoomSpec.pre6 enc Try.prog Try.f7 Rows.outlierRoomRow.domain false) (Rows.outlierRoomSpec.post enc Try.prog Try.f7 false true false false) := by
  refine returnsInHanded_of_change (C := Try.checked) own started (by kernel_rfl) Try.func7
    (ChangeSpec.witness6 (enc := enc) (C := Try.checked) false ⟨#[], #[.agg #[.int .i64 0, .int .i64 0, .int .i64 0, .int .i64 0, .int .i64 0, .int .i64 0, .int .i64 0], .int .i64 0], []⟩ 8 (by kernel_rfl) (by kernel_rfl) (by kernel_rfl) (by kernel_rfl)) ?_
  intro W base args ds gs before hval0 hW hcnd _
  have hval : ∀ (j : Nat) t v, Try.f7.params[j]? = some t → args[j]? = some v → Value.okWide Try.prog W .any base t v := hval0
  have hW' := hW
  obtain ⟨p, q, hA0, hV, rfl, hfz, hnd⟩ := hW
  have hA : DataW.TrodAll enc Try.prog W 0 (fun _ => true) true Try.f7.params.toList args.toList ds p := hA0
  rw [Try.params7] at hA hval
  obtain ⟨v0, vs0, d0, ds0, p0, q0, hargs, rfl, rfl, h0, r0⟩ := trodAll_cons hA
  obtain ⟨v1, vs1, d1, ds1, p1, q1, rfl, rfl, rfl, h1, r1⟩ := trodAll_cons r0
  obtain ⟨rfl, rfl, rfl⟩ := trodAll_nil r1
  obtain rfl : args = #[v0, v1] := by cases args; simp_all
  obtain ⟨rfl, rfl⟩ := trodVars_none hV
  have k0 := h0
  have lt0 : ∀ x ∈ p0, x.block < W.heap.size := by obtain ⟨m, hm⟩ := k0; exact DataW.trod_lt m _ _ _ hm
  obtain ⟨x0, hv0⟩ := open_oset (hval 0 25 v0 rfl rfl) h0
  subst hv0
  obtain ⟨a1, rfl, rfl, rfl, w1⟩ := open_int Try.underlying3 (hval 1 3 v1 rfl rfl) h1
  clear hA0 hval0
  refine (walk x0 a1 w1).mono fun e W' ⟨he, bel⟩ => ?_
  subst he
  exact ⟨_, rfl, _, _, _, [], _, [], hW', trodAll_mk1 (shut_bool Try.underlying4 _), (trodAll_cons_mk (Below.trod laidOut (by kernel_rfl) (of_decide_eq_true (by kernel_rfl)) k0 bel lt0) (trodAll_cons_mk (shut_int Try.underlying3 w1) trodAll_mk0)), rfl, bel.frame _, fun h => by cases h⟩

theorem over : Rows.outlierRoomRow.holds Try.pinned (OpenSpec.ofChange Rows.outlierRoomSpec) :=
  OpenClaim.holds_of_wide 7 Try.f7 rfl rfl rfl rfl rfl rfl rfl ⟨rfl, rfl, rfl, rfl, rfl⟩ rfl rfl rfl rfl rfl (by kernel_rfl) Try.func7 (by kernel_rfl)
    (of_decide_eq_true (by kernel_rfl)) (by unfold Func.isWrapper; first | (rw [if_pos (by decide +kernel)]; kernel_rfl) | (rw [if_neg (by decide +kernel)]; exact ⟨rfl, rfl⟩))
    (fun os started H enc _ => lifted os started H enc)
end Go.Proofs.Ytfjcilkllgaimaa.outlierRoom

namespace Go.Proofs.Ytfjcilkllgaimaa
/-- THE STATEMENT. -/
theorem outlierRoom_holds : Rows.OutlierRoomSaid := outlierRoom.over
#print axioms outlierRoom_holds
end Go.Proofs.Ytfjcilkllgaimaa
