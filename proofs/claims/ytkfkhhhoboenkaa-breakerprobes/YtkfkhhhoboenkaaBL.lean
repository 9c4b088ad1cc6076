/- breaker: the reference's Tick, Allows, Begin. -/
import Derived.Test.YtkfkhhhoboenkaaBH
import Derived.Test.YtkfkhhhoboenkaaBK
namespace Go.Proofs.Ytkfkhhhoboenkaa
open Go.RowKit
set_option maxRecDepth 20000
set_option linter.unusedVariables false

set_option maxHeartbeats 1000000 in
theorem rtick_any (b : Br.St) (s : Br.Se) (t : Int) (w : World) : Calls Try.prog 10 #[vB b, vS s, .int .i64 t] w fun e w' => e = .returned (.tuple #[vB (Br.tickR b s t), .int .i64 (Br.chk b s t)]) ∧ Below w.heap.size w w' := by
  have c1 := fun W => rcheck_any b s t W
  obtain ⟨W0, hW0, B0, B1, B2, HB, HS⟩ := three_boxes w (bL b) (sL s) (bL Br.zero) 23 25 23
  have HC0 : Hid (Br.chk b s t = 0 → Br.tickR b s t = if b.m = 1 ∧ b.u ≤ t then { b with m := 2, w := 0 } else b) := hidD (fun h => if_pos h)
  have HC1 : Hid (¬ Br.chk b s t = 0 → Br.tickR b s t = Br.zero) := hidD (fun h => if_neg h)
  generalize Br.tickR b s t = z at *
  generalize Br.chk b s t = k at *
  simp only [bL, sL, Br.zero] at hW0
  obtain ⟨M, F, U, P, W⟩ := b
  dsimp only at *
  obtain ⟨N, hN⟩ : ∃ N, N = w.heap.size := ⟨_, rfl⟩
  rw [← hN] at B0 B1 B2 HB HS ⊢
  have HN := hidD hN
  go_enter Try.func10, Try.ntmps10
  go_wp2_with fail
  rw [← hN, ← hW0]
  clear hN hW0
  with_reducible refine (c1 _).mono ?_
  rintro e w1 ⟨rfl, h1⟩
  have X0 := B0.below h1
  have X1 := B1.below h1
  have hb1 : Below N w w1 := below_on HB (by omega) h1
  have X2 := B2.below h1
  have p0 := X0.cell 0 rfl
  have p1 := X0.cell 1 rfl
  have p2 := X0.cell 2 rfl
  have p3 := X0.cell 3 rfl
  have p4 := X0.cell 4 rfl
  have q0 := X1.cell 0 rfl
  have q1 := X1.cell 1 rfl
  have q2 := X1.cell 2 rfl
  have r0 := X2.cell 0 rfl
  have r1 := X2.cell 1 rfl
  have r2 := X2.cell 2 rfl
  have r3 := X2.cell 3 rfl
  have r4 := X2.cell 4 rfl
  have f0 := X2.frozen 0
  have f1 := X2.frozen 1
  have f2 := X2.frozen 2
  have f3 := X2.frozen 3
  have f4 := X2.frozen 4
  have hz := h1.size
  by_cases hk : k = 0
  · subst hk
    have hZ := HC0.out rfl
    by_cases hg : M = 1 ∧ U ≤ t
    · rw [if_pos hg] at hZ
      subst hZ
      obtain ⟨rfl, hu⟩ := hg
      have g0 := X0.frozen 0
      have g4 := X0.frozen 4
      have Y0 := X0.set 0 (.int .i64 2)
      have u4 := Y0.cell 4 rfl
      have v4 := Y0.frozen 4
      have Y1 := Y0.set 4 (.int .i64 0)
      have c5 := (Cg.set w1 0 (.int .i64 2) (b := N)).trans (Cg.set _ 4 (.int .i64 0))
      have X4 := c5.bo (by omega) X2
      have hb3 := c5.below (B := N) (Nat.le_refl _) (by omega) hb1
      have S := hidD (put5_bo ⟨2, F, U, P, 0⟩ X4)
      have SB := hidD ((put5_cg _ (N + 1 + 1) ⟨2, F, U, P, 0⟩).below (B := N) (by omega) (by simp; omega) hb3)
      have t0 := Y1.cell 0 rfl
      have t1 := Y1.cell 1 rfl
      have t2 := Y1.cell 2 rfl
      have t3 := Y1.cell 3 rfl
      have t4 := Y1.cell 4 rfl
      have r0 := X4.cell 0 rfl
      have r1 := X4.cell 1 rfl
      have r2 := X4.cell 2 rfl
      have r3 := X4.cell 3 rfl
      have r4 := X4.cell 4 rfl
      have f0 := X4.frozen 0
      have f1 := X4.frozen 1
      have f2 := X4.frozen 2
      have f3 := X4.frozen 3
      have f4 := X4.frozen 4
      clear X4 Y0 Y1 c5 hb3 X0 X1 X2 hb1 B0 B1 B2 HB HC0 HC1 h1 c1 HS hz
      go_wp2_with fail
      refine bodyPost_ret (ret_cell1 rfl rfl S.out) rfl ?_
      exact ⟨rfl, SB.out⟩
    · rw [if_neg hg] at hZ
      subst hZ
      have S := hidD (put5_bo ⟨M, F, U, P, W⟩ X2)
      have SB := hidD ((put5_cg w1 (N + 1 + 1) ⟨M, F, U, P, W⟩).below (B := N) (by omega) (by omega) hb1)
      clear X0 X1 X2 hb1 B0 B1 B2 HB HC0 HC1 h1 c1 HS hz
      by_cases hm : M = 1
      · subst hm
        have hu : ¬ U ≤ t := fun e => hg ⟨rfl, e⟩
        clear hg
        go_wp2_with fail
        refine bodyPost_ret (ret_cell1 rfl rfl S.out) rfl ?_
        exact ⟨rfl, SB.out⟩
      · have hm1 : (M == 1) = false := by simp [hm]
        clear hg
        go_wp2_with fail
        refine bodyPost_ret (ret_cell1 rfl rfl S.out) rfl ?_
        exact ⟨rfl, SB.out⟩
  · have hZ := HC1.out hk
    subst hZ
    have hk1 : (k != 0) = true := by simp [hk]
    have S := hidD (put5_bo Br.zero X2)
    have SB := hidD ((put5_cg w1 (N + 1 + 1) Br.zero).below (B := N) (by omega) (by omega) hb1)
    clear X0 X1 X2 hb1 B0 B1 B2 HB HC0 HC1 hk h1 hz HS c1
    go_wp2_with fail
    refine bodyPost_ret (ret_cell1 rfl rfl S.out) rfl ?_
    exact ⟨rfl, SB.out⟩

set_option maxHeartbeats 1000000 in
theorem rallows_any (b : Br.St) (s : Br.Se) (t : Int) (w : World) : Calls Try.prog 12 #[vB b, vS s, .int .i64 t] w fun e w' => e = .returned (.tuple #[.bool (Br.allowsR b s t), .int .i64 (Br.chk b s t)]) ∧ Below w.heap.size w w' := by
  have c1 := fun W => rcheck_any b s t W
  obtain ⟨W0, hW0, B0, B1, HB, HS⟩ := two_boxes w (bL b) (sL s) 23 25
  have HC0 : Hid (Br.chk b s t = 0 → Br.allowsR b s t = (decide (b.m = 0) || decide (b.m = 2) && decide (b.p < s.p))) := hidD (fun h => if_pos h)
  have HC1 : Hid (¬ Br.chk b s t = 0 → Br.allowsR b s t = false) := hidD (fun h => if_neg h)
  generalize Br.allowsR b s t = z at *
  generalize Br.chk b s t = k at *
  simp only [bL, sL] at hW0
  obtain ⟨M, F, U, P, W⟩ := b
  obtain ⟨SF, SO, SP⟩ := s
  dsimp only at *
  obtain ⟨N, hN⟩ : ∃ N, N = w.heap.size := ⟨_, rfl⟩
  rw [← hN] at B0 B1 HB HS ⊢
  have HN := hidD hN
  go_enter Try.func12, Try.ntmps12
  go_wp2_with fail
  rw [← hN, ← hW0]
  clear hN hW0
  with_reducible refine (c1 _).mono ?_
  rintro e w1 ⟨rfl, h1⟩
  have X0 := B0.below h1
  have X1 := B1.below h1
  have hb1 : Below N w w1 := below_on HB (by omega) h1
  have p0 := X0.cell 0 rfl
  have p1 := X0.cell 1 rfl
  have p2 := X0.cell 2 rfl
  have p3 := X0.cell 3 rfl
  have p4 := X0.cell 4 rfl
  have q0 := X1.cell 0 rfl
  have q1 := X1.cell 1 rfl
  have q2 := X1.cell 2 rfl
  have hz := h1.size
  have SB := hidD hb1
  clear X0 X1 hb1 B0 B1 HB h1 c1 HS hz
  by_cases hk : k = 0
  · subst hk
    have hZ := HC0.out rfl
    clear HC0 HC1
    by_cases hm : M = 0
    · subst hm
      have hZ2 : z = true := by rw [hZ]; rfl
      subst hZ2
      clear hZ
      go_wp2_with fail
      go_ret2
      exact ⟨rfl, SB.out⟩
    · have hm0 : (M == 0) = false := by simp [hm]
      rw [decide_eq_false hm, Bool.false_or] at hZ
      by_cases h2 : M = 2
      · subst h2
        have hZ2 : z = decide (P < SP) := by rw [hZ]; rfl
        subst hZ2
        clear hZ hm
        by_cases hp : P < SP
        · go_wp2_with fail
          go_ret2
          exact ⟨by simp [hp], SB.out⟩
        · go_wp2_with fail
          go_ret2
          exact ⟨by first | rfl | (rw [decide_eq_false (by omega)]; rfl), SB.out⟩
      · have h20 : (M == 2) = false := by simp [h2]
        rw [decide_eq_false h2, Bool.false_and] at hZ
        subst hZ
        go_wp2_with fail
        go_ret2
        exact ⟨rfl, SB.out⟩
  · have hZ := HC1.out hk
    subst hZ
    have hk1 : (k == 0) = false := by simp [hk]
    clear HC0 HC1 hk
    go_wp2_with fail
    go_ret2
    exact ⟨rfl, SB.out⟩
end Go.Proofs.Ytkfkhhhoboenkaa
