/- For all ints points and all backends: points of a built ring are as many as the weights say, and the ring is whole (the law RingOrder answers true), and the arguments stay: without a bound. -/
import Derived.Test.YtekmcooghkchpaaRows
import Derived.BigQuiet
import Derived.Deep.QuietTactic
import Derived.WalkKit
import Derived.ProofKit
import Derived.OpenShut
import Derived.ShutString
import Derived.Test.YtekmcooghkchpaaROp
import Derived.Test.YtekmcooghkchpaaOpenP
namespace Go.Proofs.Ytekmcooghkchpaa.ringOrder
open Go.ChangeShapes Go.WideShapes Go.ChangeAt Go.RowKit
open Go.ChangeMaps (open_string shut_string)
open Go.Sort Go.Shelf
set_option linter.unusedVariables false
set_option maxRecDepth 20000

set_option maxHeartbeats 2000000 in
theorem walk_v (pn : Int) (v : Value) (l r : List Rp.Pt) (E : Int) (w : World) (hv : PSeg .i64 w v l) (hbad : E ≠ 0 → r = [])
    (hgood : E = 0 → r.length = Rp.size pn l ∧ r.length ≤ 1024 ∧ l.length ≤ 32 ∧ (∀ k, k < l.length → IntKind.i64.wrap (pn * (l.getD k (0, 0)).2) = (Rp.each pn (l.getD k (0, 0)) : Nat)) ∧ (∀ k, k < l.length → r.countP (fun p => decide (p.2 = (l.getD k (0, 0)).1)) = Rp.each pn (l.getD k (0, 0))))
    (CB : ∀ w' : World, Below w.heap.size w w' → Calls Try.prog 10 #[.int .i64 pn, v] w' fun e w'' => ∃ v', e = .returned (.tuple #[v', .int .i64 E]) ∧ PSeg .u64 w'' v' r ∧ Below w'.heap.size w' w'')
    (CW : E = 0 → ∀ (v' : Value) (w' : World), PSeg .u64 w' v' r → Calls Try.prog 23 #[v'] w' fun e w'' => e = .returned (.int .i64 0) ∧ Below w'.heap.size w' w'') :
    Calls Try.prog 4 #[.int .i64 pn, v] w fun e w' => e = .returned (.bool true) ∧ Below w.heap.size w w' := by
  obtain ⟨a, cap, rfl, h1, h2, h3, h4⟩ := id hv
  have HV := hidD hv
  obtain ⟨N, hN⟩ : ∃ N, N = l.length := ⟨_, rfl⟩
  have HN := hidD hN
  have HB := hidD hbad
  have HG := hidD hgood
  rw [← hN] at h1 CB ⊢
  unfold maxLen at h2
  clear hN hv h3 h4 hbad hgood
  have c0 := alive_any w
  go_enter Try.func4, Try.ntmps4
  go_wp2_with fail
  with_reducible refine c0.mono ?_
  rintro e w1 ⟨rfl, b1⟩
  have c1 := CB w1 b1
  clear CB c0
  go_wp2_with fail
  with_reducible refine c1.mono ?_
  rintro e w2 ⟨v', rfl, p2, b2⟩
  clear c1
  have B2 := hidD (Below.step b1 b2)
  clear b1 b2
  by_cases hE : E = 0
  · subst hE
    obtain ⟨g1, g2, g3, g4, g5⟩ := HG.out rfl
    have G4 := hidD g4
    have G5 := hidD g5
    have cw := CW rfl v'
    obtain ⟨ra, rcap, rfl, r1, r2, -, -⟩ := id p2
    have HP := hidD p2
    obtain ⟨M, hM⟩ : ∃ M, M = r.length := ⟨_, rfl⟩
    have HM := hidD hM
    have HSZ : Hid (M = Rp.size pn l) := hidD (by rw [hM]; exact g1)
    have HST := hidD (Rp.size_take pn l)
    have HSL := hidD (Rp.size_le pn l)
    rw [← hM] at r1 g2 cw ⊢
    rw [← HN.out] at g3
    unfold maxLen at r2
    clear hM p2 g1 g4 g5 HG HB CW
    go_wp2_with (go_at_call 19; refine (num_any _ _).mono ?_; rintro e w4 ⟨rfl, rfl⟩)
    go_loopw [7, 8] (fun s i wr => ∃ k : Nat, k ≤ N ∧ i = .int .i64 k ∧ s = .int .i64 (Rp.size pn (l.take k) : Nat) ∧ Below w2.heap.size w2 wr) (fun _ i _ => N - (intOf i).toNat)
    case atStart => exact ⟨0, Nat.zero_le _, rfl, by simp [Rp.size], Below.refl _ _⟩
    case round =>
      obtain ⟨k, hk, rfl, rfl, hbl⟩ := hrel
      obtain ⟨wo, rfl⟩ : ∃ wo, wo = wr := ⟨_, rfl⟩
      by_cases hlt : k < N
      · obtain ⟨a', cap', e1, _, _, h3, h4⟩ := (HV.out.below B2.out).below hbl
        rw [← HN.out] at e1
        cases e1
        obtain ⟨g, off, rfl, hg, hcell⟩ := pseg_at (l := l) (by have := HN.out; omega) h3 h4
        obtain ⟨Q1, Q2⟩ := hcell k (by have := HN.out; omega)
        have y1 := G4.out k (by have := HN.out; omega)
        have y2 := G5.out k (by have := HN.out; omega)
        have y3 := HST.out k (by have := HN.out; omega)
        have y4 := HSL.out (k + 1)
        have y5 := HSZ.out
        obtain ⟨f, hf⟩ : ∃ f, f = fun p : Rp.Pt => decide (p.2 = (l.getD k (0, 0)).1) := ⟨_, rfl⟩
        rw [← hf] at y2
        have HF : Hid (∀ p : Rp.Pt, f p = decide (p.2 = (l.getD k (0, 0)).1)) := hidD (fun p => by rw [hf])
        have HY2 := hidD y2
        have y7 : IntKind.i64.wrap ((Rp.size pn (l.take k) : Int) + (Rp.each pn (l.getD k (0, 0)) : Int)) = (Rp.size pn (l.take (k + 1)) : Nat) := by rw [IntKind.wrap_i64, y3]; omega
        have y8 : Rp.each pn (l.getD k (0, 0)) ≤ 1024 := by omega
        obtain ⟨S', hS'⟩ : ∃ S', S' = Rp.size pn (l.take (k + 1)) := ⟨_, rfl⟩
        rw [← hS'] at y7
        have HS' := hidD hS'
        clear hS' hcell h3 h4 y2 y3 y4 y5 hf
        generalize Rp.size pn (l.take k) = S at *
        generalize Rp.each pn (l.getD k (0, 0)) = EE at *
        generalize l.getD k (0, 0) = x at *
        have i1 : (k : Int) < (N : Int) := by omega
        go_wp2_with fail
        go_loopw [9, 10] (fun s j wr2 => ∃ q : Nat, q ≤ M ∧ j = .int .i64 q ∧ s = .int .i64 ((r.take q).countP f : Nat) ∧ Below wo.heap.size wo wr2) (fun _ j _ => M - (intOf j).toNat)
        case atStart => exact ⟨0, Nat.zero_le _, rfl, by simp, Below.refl _ _⟩
        case round =>
          obtain ⟨q, hq, rfl, rfl, hbi⟩ := hrel
          by_cases hlq : q < M
          · obtain ⟨ra', rcap', e1, _, _, h3, h4⟩ := (HP.out.below hbl).below hbi
            rw [← HM.out] at e1
            cases e1
            obtain ⟨rg, roff, rfl, hrg, hrcell⟩ := pseg_at (l := r) (by have := HM.out; omega) h3 h4
            have R2 := (hrcell q (by have := HM.out; omega)).2
            have hct := hidD (count_take f r q (by have := HM.out; omega))
            have hfq := hidD (HF.out (r.getD q (0, 0)))
            have Q1' : wr.cell? ⟨g, off + k * 2, none⟩ = some (.int .i64 x.1) := (hbi.cell (p := ⟨g, off + k * 2, none⟩) hg).trans Q1
            have hcle : (r.take q).countP f ≤ q := Nat.le_trans List.countP_le_length (by simp; omega)
            have j1 : (q : Int) < (M : Int) := by omega
            clear hrcell h3 h4
            by_cases hz : (r.getD q (0, 0)).2 = x.1
            · have hct2 : Hid ((r.take (q + 1)).countP f = (r.take q).countP f + 1) := hidD (by rw [hct.out, hfq.out, decide_eq_true hz]; rfl)
              have hb' : ((r.getD q (0, 0)).2 == x.1) = true := by simpa using hz
              clear hct hfq hz
              generalize (r.getD q (0, 0)).2 = y at *
              generalize (r.take q).countP f = C at *
              go_wp2_with fail
              go_quiet (fail)
              go_wp2
              exact ⟨⟨q + 1, by omega, by go_num, by rw [hct2.out]; go_num, belowD_drewN hbi _⟩, by simp [intOf]; omega⟩
            · have hct2 : Hid ((r.take (q + 1)).countP f = (r.take q).countP f) := hidD (by rw [hct.out, hfq.out, decide_eq_false hz]; rfl)
              have hb' : ((r.getD q (0, 0)).2 == x.1) = false := by simpa using hz
              clear hct hfq hz
              generalize (r.getD q (0, 0)).2 = y at *
              generalize (r.take q).countP f = C at *
              go_wp2_with fail
              go_quiet (fail)
              go_wp2
              exact ⟨⟨q + 1, by omega, by go_num, by rw [hct2.out], belowD_drewN hbi _⟩, by simp [intOf]; omega⟩
          · have hke : r.take q = r := List.take_of_length_le (by have := HM.out; omega)
            rw [hke, HY2.out]
            have Q2' : wr.cell? ⟨g, off + k * 2 + 1, none⟩ = some (.int .i64 x.2) := (hbi.cell (p := ⟨g, off + k * 2 + 1, none⟩) hg).trans Q2
            have b3 := Below.step hbl hbi
            clear hke hbi hbl
            have hb' : ((EE : Int) != (EE : Int)) = false := by simp
            go_wp2
            exact ⟨⟨k + 1, by omega, by go_num, by rw [← HS'.out], b3⟩, by simp [intOf]; omega⟩
      · have hke : l.take k = l := List.take_of_length_le (by have := HN.out; omega)
        rw [hke, ← HSZ.out]
        have cw2 := cw wo (by have := HP.out.below hbl; rw [← HM.out] at this; exact this)
        clear hke cw
        go_wp2_with (first | (go_at_call 19; refine (num_any _ _).mono ?_; rintro e w4 ⟨rfl, rfl⟩) | (go_at_call 23; with_reducible refine cw2.mono ?_; rintro e w5 ⟨rfl, b5⟩))
        go_ret
        exact ⟨rfl, Below.step (Below.step B2.out hbl) b5⟩
  · have hr := HB.out hE
    subst hr
    have hb' : (E != 0) = true := by simpa using hE
    obtain ⟨ra, rcap, rfl, -⟩ := p2
    clear HG HB CW
    go_wp2_with (go_at_call 19; refine (num_any _ _).mono ?_; rintro e w4 ⟨rfl, rfl⟩)
    go_ret
    exact ⟨rfl, B2.out⟩

theorem walk (pn : Int) (w0 : (Lit.int .i64 pn).wf = true) (v : Value) (l : List Rp.Pt) {w : World} (hv : PSeg .i64 w v l) (ho : ∀ t ∈ l, (Lit.int .i64 t.2).wf = true) :
    Calls Try.prog 4 #[.int .i64 pn, v] w fun e w' => e = .returned (.bool true) ∧ Below w.heap.size w w' := by
  refine walk_v pn v l (Rp.ring pn l) (Rp.buildE pn l) w hv (fun h => if_neg h) (fun h => ?_) (fun w' b => ?_) (fun h v' w' hv' => ?_)
  · obtain ⟨h1, h2, h3, h4⟩ := Rp.build_ok h
    obtain ⟨k1, k2, k3⟩ := Rp.check_ok h1
    refine ⟨Rp.ring_length h, by rw [Rp.ring_length h]; exact h4, k1, fun k hk => ?_, fun k hk => ?_⟩
    · have hm := k2 (l.getD k (0, 0)) (by rw [pgetD_at hk]; exact List.getElem_mem _)
      rw [Int.mul_comm]
      have e0 : 0 ≤ (l.getD k (0, 0)).2 * pn := Int.mul_nonneg (by omega) (by omega)
      have e1 : (l.getD k (0, 0)).2 * pn ≤ 16 * 64 := Int.mul_le_mul (by omega) h3 (by omega) (by omega)
      unfold Rp.each
      rw [Int.toNat_of_nonneg e0, IntKind.wrap_i64]
      omega
    · exact Rp.count_ring h (by rw [pgetD_at hk]; exact List.getElem_mem _)
  · refine (build_any pn v l w' (hv.below b)).mono ?_
    rintro e w2 ⟨v', rfl, h1, _, h2⟩
    exact ⟨v', rfl, h1, h2⟩
  · have c := whole_any v' _ w' hv'
    rw [Rp.ring_whole h] at c
    exact c

set_option maxRecDepth 100000 in
theorem lifted (os : Os) (started : os.Started) (H : Type) (enc : TypeId × Value → H) :
    ReturnsInHanded {} Try.checked os 4 .any (Rows.ringOrderSpec.pre6 enc Try.prog Try.f4 Rows.ringOrderRow.domain false) (Rows.ringOrderSpec.post enc Try.prog Try.f4 false true false false) := by
  refine returnsInHanded_of_change (C := Try.checked) own started (by kernel_rfl) Try.func4
    (ChangeSpec.witness6 (enc := enc) (C := Try.checked) false ⟨#[], #[.int .i64 0, .slice none 0 0], []⟩ 8 (by kernel_rfl) (by kernel_rfl) (by kernel_rfl) (by kernel_rfl)) ?_
  intro W base args ds gs before hval0 hW hcnd _
  have hval : ∀ (j : Nat) t v, Try.f4.params[j]? = some t → args[j]? = some v → Value.okWide Try.prog W .any base t v := hval0
  have hW' := hW
  obtain ⟨p, q, hA0, hV, rfl, hfz, hnd⟩ := hW
  have hA : DataW.TrodAll enc Try.prog W 0 (fun _ => true) true Try.f4.params.toList args.toList ds p := hA0
  rw [Try.params4] at hA hval
  obtain ⟨v0, vs0, d0, ds0, p0, q0, hargs, rfl, rfl, h0, r0⟩ := trodAll_cons hA
  obtain ⟨v1, vs1, d1, ds1, p1, q1, rfl, rfl, rfl, h1, r1⟩ := trodAll_cons r0
  obtain ⟨rfl, rfl, rfl⟩ := trodAll_nil r1
  obtain rfl : args = #[v0, v1] := by cases args; simp_all
  obtain ⟨rfl, rfl⟩ := trodVars_none hV
  obtain ⟨a0, rfl, rfl, rfl, w0⟩ := open_int Try.underlying3 (hval 0 3 v0 rfl rfl) h0
  have k1 := h1
  have lt1 : ∀ x ∈ p1, x.block < W.heap.size := by obtain ⟨m, hm⟩ := k1; exact DataW.trod_lt m _ _ _ hm
  obtain ⟨l1, hs1, ho1, _⟩ := open_backs (hval 1 22 v1 rfl rfl) h1
  clear hA0 hval0
  refine (walk a0 w0 v1 l1 hs1 ho1).mono fun e W' ⟨he, bel⟩ => ?_
  subst he
  exact ⟨_, rfl, _, _, _, [], _, [], hW', trodAll_mk1 (shut_bool Try.underlying4 _), (trodAll_cons_mk (shut_int Try.underlying3 w0) (trodAll_cons_mk (Below.trod laidOut (by kernel_rfl) (of_decide_eq_true (by kernel_rfl)) k1 bel lt1) trodAll_mk0)), rfl, bel.frame _, fun h => by cases h⟩

theorem over : Rows.ringOrderRow.holds Try.pinned (OpenSpec.ofChange Rows.ringOrderSpec) :=
  OpenClaim.holds_of_wide 4 Try.f4 rfl rfl rfl rfl rfl rfl rfl ⟨rfl, rfl, rfl, rfl, rfl⟩ rfl rfl rfl rfl rfl (by kernel_rfl) Try.func4 (by kernel_rfl)
    (of_decide_eq_true (by kernel_rfl)) (by unfold Func.isWrapper; first | (rw [if_pos (by decide +kernel)]; kernel_rfl) | (rw [if_neg (by decide +kernel)]; exact ⟨rfl, rfl⟩))
    (fun os started H enc _ => lifted os started H enc)
end Go.Proofs.Ytekmcooghkchpaa.ringOrder

namespace Go.Proofs.Ytekmcooghkchpaa
/-- THE STATEMENT. -/
theorem ringOrder_holds : Rows.RingOrderSaid := ringOrder.over
#print axioms ringOrder_holds
end Go.Proofs.Ytekmcooghkchpaa
