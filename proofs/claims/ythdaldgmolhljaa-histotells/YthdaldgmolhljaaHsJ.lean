/- histo: are two one? -/
import Derived.Test.YthdaldgmolhljaaHsI
namespace Go.Proofs.Ythdaldgmolhljaa
open Go.RowKit
set_option linter.unusedVariables false
set_option maxRecDepth 20000

def Hi.same (a b : Hi.H) : Bool := decide (a.t = b.t) && decide (a.c = b.c)
theorem Hi.same_self (a : Hi.H) : Hi.same a a = true := by simp [Hi.same]
set_option maxHeartbeats 4000000 in
theorem rsame_any (ra rb : Value) (x y : Hi.H) (w : World) (ha : Seg .i64 w ra x.c) (hb : Seg .i64 w rb y.c) :
    Calls Try.prog 21 #[vH ra x.t, vH rb y.t] w fun e w' => e = .returned (.bool (Hi.same x y)) ∧ Below w.heap.size w w' := by
  obtain ⟨c1, t1⟩ := x
  obtain ⟨c2, t2⟩ := y
  dsimp only at ha hb ⊢
  have hsame : Hi.same ⟨c1, t1⟩ ⟨c2, t2⟩ = (decide (t1 = t2) && decide (c1 = c2)) := rfl
  rw [hsame]
  clear hsame
  obtain ⟨a1, p1, rfl, b1, d1, _, _⟩ := id ha
  obtain ⟨a2, p2, rfl, b2, d2, _, _⟩ := id hb
  unfold maxLen at d1 d2
  obtain ⟨W0, hW0, X0, X1, HB, HS⟩ := two_boxes w (hL (.slice a1 c1.length p1) t1) (hL (.slice a2 c2.length p2) t2) 24 24
  have HA := hidD (ha.below HB)
  have HC := hidD (hb.below HB)
  obtain ⟨L1, hL1⟩ : ∃ L1, L1 = c1.length := ⟨_, rfl⟩
  obtain ⟨L2, hL2⟩ : ∃ L2, L2 = c2.length := ⟨_, rfl⟩
  rw [← hL1] at b1 HA hW0 X0 ⊢
  rw [← hL2] at b2 HC hW0 X1 ⊢
  replace hL1 := hidD hL1
  replace hL2 := hidD hL2
  obtain ⟨N, hN⟩ : ∃ N, N = w.heap.size := ⟨_, rfl⟩
  rw [← hN] at X0 X1 HB HS ⊢
  simp only [hL] at hW0
  have q0 := X0.cell 0 rfl
  have q1 := X0.cell 1 rfl
  have r0 := X1.cell 0 rfl
  have r1 := X1.cell 1 rfl
  replace HB := hidD HB
  replace X0 := hidD X0
  replace X1 := hidD X1
  have HSZ : Hid (N ≤ W0.heap.size) := hidD (by omega)
  clear ha hb HS
  by_cases ht : t1 = t2
  case neg =>
    rw [decide_eq_false ht, Bool.false_and]
    have d : (t1 != t2) = true := by simp [ht]
    go_enter Try.func21, Try.ntmps21
    go_wp2_with fail
    rw [← hN, ← hW0]
    go_ret
    exact ⟨rfl, HB.out⟩
  subst ht
  rw [decide_eq_true rfl, Bool.true_and]
  by_cases hl : L1 = L2
  case neg =>
    have hne : ¬ c1 = c2 := fun e => hl (by rw [hL1.out, hL2.out, e])
    rw [decide_eq_false hne]
    have d : ((L1 : Int) != (L2 : Int)) = true := by simp; omega
    go_enter Try.func21, Try.ntmps21
    go_wp2_with fail
    rw [← hN, ← hW0]
    go_ret
    exact ⟨rfl, HB.out⟩
  subst hl
  obtain ⟨D, hD⟩ : ∃ D, D = decide (c1 = c2) := ⟨_, rfl⟩
  rw [← hD]
  replace hD := hidD hD
  go_enter Try.func21, Try.ntmps21
  go_wp2_with fail
  rw [← hN, ← hW0]
  clear hN hW0
  clear q0 q1 r0 r1
  go_loopw [5] (fun i wr => ∃ k : Nat, k ≤ L1 ∧ i = .int .i64 k ∧ Hid (c1.take k = c2.take k) ∧ Hid (Below W0.heap.size W0 wr)) (fun i _ => L1 - (intOf i).toNat)
  case atStart => exact ⟨0, Nat.zero_le _, rfl, by simp [Hid], hidD (Below.refl _ _)⟩
  case round =>
    obtain ⟨k, hk, rfl, hc, hbel⟩ := hrel
    have q0 := (X0.out.below hbel.out).cell 0 rfl
    have r0 := (X1.out.below hbel.out).cell 0 rfl
    by_cases hlt : k < L1
    · obtain ⟨g1, o1, rfl, hg1, Q1⟩ := Seg.atE (HA.out.below hbel.out) k (by have := hL1.out; omega)
      obtain ⟨g2, o2, rfl, hg2, Q2⟩ := Seg.atE (HC.out.below hbel.out) k (by have := hL2.out; omega)
      have k1 : k < c1.length := by have := hL1.out; omega
      have k2 : k < c2.length := by have := hL2.out; omega
      have HT := hidD (List.take_succ_eq_append_getElem k1)
      have HT2 := hidD (List.take_succ_eq_append_getElem k2)
      have HE1 := hidD (dgetD_at k1)
      have HE2 := hidD (dgetD_at k2)
      have hi : (k : Int) < (L1 : Int) := by omega
      by_cases hq : c1.getD k 0 = c2.getD k 0
      · have hc2 : Hid (c1.take (k + 1) = c2.take (k + 1)) := by
          show _ = _
          rw [HT.out, HT2.out, hc.out, ← HE1.out, ← HE2.out, hq]
        rw [hq] at Q1
        clear HT HT2 HE1 HE2 hq k1 k2 hc
        generalize c2.getD k 0 = x at *
        go_wp2_with fail
        go_quiet (fail)
        go_wp2_with fail
        exact ⟨⟨k + 1, by omega, by go_num, hc2, hidD (below_drewN hbel.out _)⟩, by simp [intOf]; omega⟩
      · have hne : c1 ≠ c2 := fun h => hq (by rw [h])
        have hdd := hD.out
        rw [decide_eq_false hne] at hdd
        subst hdd
        have d1 : (c1.getD k 0 != c2.getD k 0) = true := bne_iff_ne.2 hq
        have hbe := hidD (below_on HB.out HSZ.out hbel.out)
        clear HT HT2 HE1 HE2 k1 k2 hne hbel hc hq
        generalize c2.getD k 0 = x at *
        generalize c1.getD k 0 = y at *
        go_wp2_with fail
        go_quiet (fail)
        go_wp2_with fail
        go_ret
        exact ⟨rfl, below_drewN hbe.out _⟩
    · have hke1 : c1.take k = c1 := List.take_of_length_le (by have := hL1.out; omega)
      have hke2 : c2.take k = c2 := List.take_of_length_le (by have := hL2.out; omega)
      have hcc := hc.out
      rw [hke1, hke2] at hcc
      have hdd := hD.out
      rw [decide_eq_true hcc] at hdd
      subst hdd
      have hbe := hidD (below_on HB.out HSZ.out hbel.out)
      clear hke1 hke2 hcc hc hbel
      go_wp2_with fail
      go_ret
      exact ⟨rfl, hbe.out⟩
end Go.Proofs.Ythdaldgmolhljaa
