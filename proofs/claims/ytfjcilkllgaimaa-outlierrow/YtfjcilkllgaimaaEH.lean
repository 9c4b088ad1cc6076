/- outlier: the reference's Tick, Ripe, Eject. -/
import Derived.Test.YtfjcilkllgaimaaEF
namespace Go.Proofs.Ytfjcilkllgaimaa
open Go.RowKit
set_option maxRecDepth 20000
set_option linter.unusedVariables false

set_option maxHeartbeats 1200000 in
theorem rtick_any (o : Ou.St) (s : Ou.Se) (t : Int) (w : World) : Calls Try.prog 16 #[vO o, vS s, .int .i64 t] w fun e w' => e = .returned (.tuple #[vO (Ou.tickR o s t), .int .i64 (Ou.chk o s t)]) ∧ Below w.heap.size w w' := by
  have c1 := fun W => rcheck_any o s t W
  obtain ⟨W0, hW0, B0, B1, B2, HB, HS⟩ := three_boxes w (oL o) (sL s) (oL Ou.zero) 23 25 23
  have HC0 : Hid (Ou.chk o s t = 0 → Ou.tickR o s t = Ou.wake o t) := hidD (fun h => if_pos h)
  have HC1 : Hid (¬ Ou.chk o s t = 0 → Ou.tickR o s t = Ou.zero) := hidD (fun h => if_neg h)
  unfold Ou.wake at HC0
  generalize Ou.tickR o s t = z at *
  generalize Ou.chk o s t = k at *
  simp only [oL, sL, Ou.zero] at hW0
  obtain ⟨R, G, BD, NN, S0, U, Q⟩ := o
  dsimp only at *
  obtain ⟨N, hN⟩ : ∃ N, N = w.heap.size := ⟨_, rfl⟩
  rw [← hN] at B0 B1 B2 HB HS ⊢
  have HN := hidD hN
  go_enter Try.func16, Try.ntmps16
  go_wp2_with fail
  rw [← hN, ← hW0]
  clear hN hW0
  with_reducible refine (c1 _).mono ?_
  rintro e w1 ⟨rfl, h1⟩
  have X0 := B0.below h1
  have X1 := B1.below h1
  have hb1 : Below N w w1 := below_on HB (by omega) h1
  have X2 := B2.below h1
  have p0 := X0.cell 0 rfl
  have p1 := X0.cell 1 rfl
  have p2 := X0.cell 2 rfl
  have p3 := X0.cell 3 rfl
  have p4 := X0.cell 4 rfl
  have p5 := X0.cell 5 rfl
  have p6 := X0.cell 6 rfl
  have q0 := X1.cell 0 rfl
  have q1 := X1.cell 1 rfl
  have q2 := X1.cell 2 rfl
  have q3 := X1.cell 3 rfl
  have q4 := X1.cell 4 rfl
  have q5 := X1.cell 5 rfl
  have q6 := X1.cell 6 rfl
  have r0 := X2.cell 0 rfl
  have r1 := X2.cell 1 rfl
  have r2 := X2.cell 2 rfl
  have r3 := X2.cell 3 rfl
  have r4 := X2.cell 4 rfl
  have r5 := X2.cell 5 rfl
  have r6 := X2.cell 6 rfl
  have f0 := X2.frozen 0
  have f1 := X2.frozen 1
  have f2 := X2.frozen 2
  have f3 := X2.frozen 3
  have f4 := X2.frozen 4
  have f5 := X2.frozen 5
  have f6 := X2.frozen 6
  have hz := h1.size
  by_cases hk : k = 0
  · subst hk
    have hZ := HC0.out rfl
    cases Q
    · replace hZ : z = ⟨R, G, BD, NN, S0, U, false⟩ := by rw [hZ]; split <;> rfl
      subst hZ
      have S := hidD (put7_bo ⟨R, G, BD, NN, S0, U, false⟩ X2)
      have SB := hidD ((put7_cg w1 (N + 1 + 1) ⟨R, G, BD, NN, S0, U, false⟩).below (B := N) (by omega) (by omega) hb1)
      clear X0 X1 X2 hb1 B0 B1 B2 HB HC0 HC1 h1 hz HS c1
      go_wp2_with fail
      refine bodyPost_ret (ret_cell1 rfl rfl S.out) rfl ?_
      exact ⟨rfl, SB.out⟩
    · by_cases hu : U ≤ t
      · rw [if_pos hu] at hZ
        subst hZ
        have g6 := X0.frozen 6
        have Y1 := X0.set 6 (.bool false)
        have c5 := Cg.set w1 6 (.bool false) (b := N)
        have X4 := c5.bo (by omega) X2
        have hb3 := c5.below (B := N) (Nat.le_refl _) (by omega) hb1
        have V0 := hidD Y1
        have V2 := hidD X4
        have V3 := hidD hb3
        have V4 : Hid (N + 3 ≤ (w1.setCell ⟨N, 6, none⟩ (.bool false)).heap.size) := hidD (by rw [World.size_setCell]; omega)
        clear X4 Y1 c5 hb3 X0 X1 X2 hb1 B0 B1 B2 HB HC0 HC1 h1 c1 HS hz r0 r1 r2 r3 r4 r5 r6 f0 f1 f2 f3 f4 f5 f6
        go_upto_region 6 with fail
        generalize (w1.setCell ⟨N, 6, none⟩ (.bool false)) = WB at *
        clear p0 p1 p2 p3 p4 p5 p6 q0 q1 q2 q3 q4 q5 q6 g6
        have S := hidD (put7_bo ⟨R, G, BD, NN, S0, U, false⟩ V2.out)
        have SB := hidD ((put7_cg WB (N + 1 + 1) ⟨R, G, BD, NN, S0, U, false⟩).below (B := N) (by omega) (by have := V4.out; omega) V3.out)
        have t0 := V0.out.cell 0 rfl
        have t1 := V0.out.cell 1 rfl
        have t2 := V0.out.cell 2 rfl
        have t3 := V0.out.cell 3 rfl
        have t4 := V0.out.cell 4 rfl
        have t5 := V0.out.cell 5 rfl
        have t6 := V0.out.cell 6 rfl
        have r0 := V2.out.cell 0 rfl
        have r1 := V2.out.cell 1 rfl
        have r2 := V2.out.cell 2 rfl
        have r3 := V2.out.cell 3 rfl
        have r4 := V2.out.cell 4 rfl
        have r5 := V2.out.cell 5 rfl
        have r6 := V2.out.cell 6 rfl
        have f0 := V2.out.frozen 0
        have f1 := V2.out.frozen 1
        have f2 := V2.out.frozen 2
        have f3 := V2.out.frozen 3
        have f4 := V2.out.frozen 4
        have f5 := V2.out.frozen 5
        have f6 := V2.out.frozen 6
        clear V0 V2 V3 V4
        go_wp2_with fail
        refine bodyPost_ret (ret_cell1 rfl rfl S.out) rfl ?_
        exact ⟨rfl, SB.out⟩
      · rw [if_neg hu] at hZ
        subst hZ
        have hu2 := decide_eq_false hu
        have S := hidD (put7_bo ⟨R, G, BD, NN, S0, U, true⟩ X2)
        have SB := hidD ((put7_cg w1 (N + 1 + 1) ⟨R, G, BD, NN, S0, U, true⟩).below (B := N) (by omega) (by omega) hb1)
        clear X0 X1 X2 hb1 B0 B1 B2 HB HC0 HC1 h1 hz HS c1
        go_wp2_with fail
        refine bodyPost_ret (ret_cell1 rfl rfl S.out) rfl ?_
        exact ⟨rfl, SB.out⟩
  · have hZ := HC1.out hk
    subst hZ
    have hk1 : (k != 0) = true := by simp [hk]
    have S := hidD (put7_bo Ou.zero X2)
    have SB := hidD ((put7_cg w1 (N + 1 + 1) Ou.zero).below (B := N) (by omega) (by omega) hb1)
    clear X0 X1 X2 hb1 B0 B1 B2 HB HC0 HC1 hk h1 hz HS c1
    go_wp2_with fail
    refine bodyPost_ret (ret_cell1 rfl rfl S.out) rfl ?_
    exact ⟨rfl, SB.out⟩

set_option maxHeartbeats 2000000 in
theorem rripe_any (o : Ou.St) (s : Ou.Se) (t : Int) (w : World) : Calls Try.prog 12 #[vO o, vS s, .int .i64 t] w fun e w' => e = .returned (.tuple #[.bool (Ou.ripeR o s t), .int .i64 (Ou.chk o s t)]) ∧ Below w.heap.size w w' := by
  have c1 := fun W => rcheck_any o s t W
  have HW := hidD (fun hk => (Ou.wraps (o := o) (s := s) (t := t) hk).2.1)
  obtain ⟨W0, hW0, B0, B1, HB, HS⟩ := two_boxes w (oL o) (sL s) 23 25
  have HC0 : Hid (Ou.chk o s t = 0 → Ou.ripeR o s t = Ou.ripe o s) := hidD (fun h => if_pos h)
  have HC1 : Hid (¬ Ou.chk o s t = 0 → Ou.ripeR o s t = false) := hidD (fun h => if_neg h)
  unfold Ou.ripe Ou.row Ou.share at HC0
  generalize Ou.ripeR o s t = z at *
  generalize Ou.chk o s t = k at *
  simp only [oL, sL] at hW0
  obtain ⟨R, G, BD, NN, S0, U, Q⟩ := o
  obtain ⟨SW, SM, SL, SB, SX, SP, SC⟩ := s
  dsimp only at *
  obtain ⟨N, hN⟩ : ∃ N, N = w.heap.size := ⟨_, rfl⟩
  rw [← hN] at B0 B1 HB HS ⊢
  have HN := hidD hN
  go_enter Try.func12, Try.ntmps12
  go_wp2_with fail
  rw [← hN, ← hW0]
  clear hN hW0
  with_reducible refine (c1 _).mono ?_
  rintro e w1 ⟨rfl, h1⟩
  have X0 := B0.below h1
  have X1 := B1.below h1
  have hb1 : Below N w w1 := below_on HB (by omega) h1
  have p0 := X0.cell 0 rfl
  have p1 := X0.cell 1 rfl
  have p2 := X0.cell 2 rfl
  have p3 := X0.cell 3 rfl
  have p4 := X0.cell 4 rfl
  have p5 := X0.cell 5 rfl
  have p6 := X0.cell 6 rfl
  have q0 := X1.cell 0 rfl
  have q1 := X1.cell 1 rfl
  have q2 := X1.cell 2 rfl
  have q3 := X1.cell 3 rfl
  have q4 := X1.cell 4 rfl
  have q5 := X1.cell 5 rfl
  have q6 := X1.cell 6 rfl
  have hz := h1.size
  have SB := hidD hb1
  clear X0 X1 hb1 B0 B1 HB h1 hz HS c1
  by_cases hk : k = 0
  · subst hk
    have hZ := HC0.out rfl
    obtain ⟨h1, h2, h3⟩ := HW.out rfl
    clear HC0 HC1 HW
    cases Q
    · skip
      by_cases ha : SW ≤ R
      · skip
        rw [decide_eq_true ha] at hZ
        by_cases hl : SL ≤ G + BD
        · skip
          rw [decide_eq_true hl] at hZ
          subst hZ
          go_wp2_with fail
          go_ret2
          exact ⟨by first | rfl | simp [*], SB.out⟩
        · skip
          have hl2 := decide_eq_false hl
          rw [hl2] at hZ
          subst hZ
          go_wp2_with fail
          go_ret2
          exact ⟨by first | rfl | simp [*], SB.out⟩
      · skip
        have ha2 := decide_eq_false ha
        rw [ha2] at hZ
        by_cases hl : SL ≤ G + BD
        · skip
          rw [decide_eq_true hl] at hZ
          subst hZ
          go_wp2_with fail
          go_ret2
          exact ⟨by first | rfl | simp [*], SB.out⟩
        · skip
          have hl2 := decide_eq_false hl
          rw [hl2] at hZ
          subst hZ
          go_wp2_with fail
          go_ret2
          exact ⟨by first | rfl | simp [*], SB.out⟩
    · skip
      subst hZ
      go_wp2_with fail
      go_ret2
      exact ⟨by first | rfl | simp [*], SB.out⟩
  · have hZ := HC1.out hk
    subst hZ
    have hk1 : (k != 0) = true := by simp [hk]
    clear HC0 HC1 hk HW
    go_wp2_with fail
    go_ret2
    exact ⟨rfl, SB.out⟩

set_option maxHeartbeats 2000000 in
theorem reject_any (o : Ou.St) (s : Ou.Se) (t : Int) (w : World) : Calls Try.prog 14 #[vO o, vS s, .int .i64 t] w fun e w' => e = .returned (.tuple #[vO (Ou.ejR o s t), .int .i64 (Ou.ejE o s t)]) ∧ Below w.heap.size w w' := by
  have c1 := fun W => rcheck_any o s t W
  have HW := hidD (fun hk => Ou.wraps (o := o) (s := s) (t := t) hk)
  obtain ⟨W0, hW0, B0, B1, B2, HB, HS⟩ := three_boxes w (oL o) (sL s) (oL Ou.zero) 23 25 23
  have HC0 : Hid (Ou.chk o s t = 0 → o.o = false → Ou.ejR o s t = ⟨0, 0, 0, Ou.up o.n 1000, t, t + Ou.long (Ou.up o.n 1000) s, true⟩ ∧ Ou.ejE o s t = 0) := hidD (fun h h2 => ⟨if_pos ⟨h, h2⟩, by unfold Ou.ejE; rw [if_pos h, h2]; rfl⟩)
  have HC2 : Hid (Ou.chk o s t = 0 → o.o = true → Ou.ejR o s t = Ou.zero ∧ Ou.ejE o s t = 9) := hidD (fun h h2 => ⟨if_neg (by rw [h2]; simp), by unfold Ou.ejE; rw [if_pos h, h2]; rfl⟩)
  have HC1 : Hid (¬ Ou.chk o s t = 0 → Ou.ejR o s t = Ou.zero ∧ Ou.ejE o s t = Ou.chk o s t) := hidD (fun h => ⟨if_neg (fun e => h e.1), if_neg h⟩)
  generalize Ou.ejR o s t = z at *
  generalize Ou.ejE o s t = ze at *
  generalize Ou.chk o s t = k at *
  simp only [oL, sL, Ou.zero] at hW0
  have HU : Hid (∀ m, Ou.up o.n 1000 = m → m = if o.n + 1 ≤ 1000 then o.n + 1 else 1000) := hidD (fun m h => h.symm)
  have HL : Hid (∀ n lg, Ou.long n s = lg → lg = if s.b * n ≤ s.x then s.b * n else s.x) := hidD (fun n lg h => h.symm)
  obtain ⟨R, G, BD, NN, S0, U, Q⟩ := o
  obtain ⟨SW, SM, SL, SB0, SX, SP, SC⟩ := s
  dsimp only at *
  obtain ⟨N, hN⟩ : ∃ N, N = w.heap.size := ⟨_, rfl⟩
  rw [← hN] at B0 B1 B2 HB HS ⊢
  have HN := hidD hN
  go_enter Try.func14, Try.ntmps14
  go_wp2_with fail
  rw [← hN, ← hW0]
  clear hN hW0
  with_reducible refine (c1 _).mono ?_
  rintro e w1 ⟨rfl, h1⟩
  have X0 := B0.below h1
  have X1 := B1.below h1
  have hb1 : Below N w w1 := below_on HB (by omega) h1
  have X2 := B2.below h1
  have p0 := X0.cell 0 rfl
  have p1 := X0.cell 1 rfl
  have p2 := X0.cell 2 rfl
  have p3 := X0.cell 3 rfl
  have p4 := X0.cell 4 rfl
  have p5 := X0.cell 5 rfl
  have p6 := X0.cell 6 rfl
  have q0 := X1.cell 0 rfl
  have q1 := X1.cell 1 rfl
  have q2 := X1.cell 2 rfl
  have q3 := X1.cell 3 rfl
  have q4 := X1.cell 4 rfl
  have q5 := X1.cell 5 rfl
  have q6 := X1.cell 6 rfl
  have r0 := X2.cell 0 rfl
  have r1 := X2.cell 1 rfl
  have r2 := X2.cell 2 rfl
  have r3 := X2.cell 3 rfl
  have r4 := X2.cell 4 rfl
  have r5 := X2.cell 5 rfl
  have r6 := X2.cell 6 rfl
  have f0 := X2.frozen 0
  have f1 := X2.frozen 1
  have f2 := X2.frozen 2
  have f3 := X2.frozen 3
  have f4 := X2.frozen 4
  have f5 := X2.frozen 5
  have f6 := X2.frozen 6
  have hz := h1.size
  by_cases hk : k = 0
  · subst hk
    obtain ⟨⟨_, _, _, v1⟩, _, v2, v3⟩ := HW.out rfl
    cases Q
    · obtain ⟨e1, e2⟩ := HC0.out rfl rfl
      have hu := HU.out _ rfl
      have hl := HL.out (Ou.up NN 1000) _ rfl
      generalize Ou.up NN 1000 = n1 at *
      generalize Ou.long n1 ⟨SW, SM, SL, SB0, SX, SP, SC⟩ = lg at *
      subst e1 e2
      have S := hidD (put7_bo ⟨0, 0, 0, n1, t, t + lg, true⟩ X2)
      have SB := hidD ((put7_cg w1 (N + 1 + 1) ⟨0, 0, 0, n1, t, t + lg, true⟩).below (B := N) (by omega) (by omega) hb1)
      have hmin1 : (if NN + 1 < 1000 then NN + 1 else 1000) = n1 := by rw [hu]; split <;> split <;> omega
      have hmin6 : (if 1000 < NN + 1 then 1000 else NN + 1) = n1 := by rw [hu]; split <;> split <;> omega
      have hmin4 : (if 1000 ≤ NN + 1 then 1000 else NN + 1) = n1 := by rw [hu]; split <;> split <;> omega
      have hmin3 : (if 1000 ≤ NN then 1000 else NN + 1) = n1 := by rw [hu]; split <;> split <;> omega
      have hmin2 : (if SX ≤ SB0 * n1 then SX else SB0 * n1) = lg := by rw [hl]; split <;> split <;> omega
      have hmin7 : (if SX < SB0 * n1 then SX else SB0 * n1) = lg := by rw [hl]; split <;> split <;> omega
      have hmin5 : (if SB0 * n1 < SX then SB0 * n1 else SX) = lg := by rw [hl]; split <;> split <;> omega
      clear X0 X1 X2 hb1 B0 B1 B2 HB HC0 HC1 HC2 h1 hz HS c1 HW HU HL hu hl
      go_wp2_with fail
      refine bodyPost_ret (ret_cell1 rfl rfl S.out) rfl ?_
      exact ⟨rfl, SB.out⟩
    · obtain ⟨e1, e2⟩ := HC2.out rfl rfl
      subst e1 e2
      have S := hidD (put7_bo Ou.zero X2)
      have SB := hidD ((put7_cg w1 (N + 1 + 1) Ou.zero).below (B := N) (by omega) (by omega) hb1)
      clear X0 X1 X2 hb1 B0 B1 B2 HB HC0 HC1 HC2 h1 hz HS c1 HW HU HL
      go_wp2_with fail
      refine bodyPost_ret (ret_cell1 rfl rfl S.out) rfl ?_
      exact ⟨rfl, SB.out⟩
  · obtain ⟨e1, e2⟩ := HC1.out hk
    subst e1 e2
    have hk1 : (ze != 0) = true := by simp [hk]
    have S := hidD (put7_bo Ou.zero X2)
    have SB := hidD ((put7_cg w1 (N + 1 + 1) Ou.zero).below (B := N) (by omega) (by omega) hb1)
    clear X0 X1 X2 hb1 B0 B1 B2 HB HC0 HC1 HC2 hk h1 hz HS c1 HW HU HL
    go_wp2_with fail
    refine bodyPost_ret (ret_cell1 rfl rfl S.out) rfl ?_
    exact ⟨rfl, SB.out⟩
end Go.Proofs.Ytfjcilkllgaimaa
