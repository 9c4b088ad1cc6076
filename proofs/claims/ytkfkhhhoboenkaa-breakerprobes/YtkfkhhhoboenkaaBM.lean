/- breaker: the reference's Begin. -/
import Derived.Test.YtkfkhhhoboenkaaBL
namespace Go.Proofs.Ytkfkhhhoboenkaa
open Go.RowKit
set_option maxRecDepth 20000
set_option linter.unusedVariables false

set_option maxHeartbeats 1000000 in
theorem rbegin_any (b : Br.St) (s : Br.Se) (t : Int) (w : World) : Calls Try.prog 14 #[vB b, vS s, .int .i64 t] w fun e w' => e = .returned (.tuple #[vB (Br.begR b s t), .bool (Br.begP b s t), .int .i64 (Br.begE b s t)]) ∧ Below w.heap.size w w' := by
  have c1 := fun W => rallows_any b s t W
  have HW := hidD (fun h => (Br.wraps (b := b) (s := s) (t := t) h).2.2.2.1)
  obtain ⟨W0, hW0, B0, B1, B2, HB, HS⟩ := three_boxes w (bL b) (sL s) (bL Br.zero) 23 25 23
  have HA0 : Hid (Br.chk b s t = 0 → Br.allowsR b s t = Br.allows b s) := hidD (fun h => if_pos h)
  have HC0 : Hid (Br.chk b s t = 0 → Br.allows b s = true → Br.begR b s t = (if b.m = 2 then { b with p := b.p + 1 } else b) ∧ Br.begP b s t = decide (b.m = 2) ∧ Br.begE b s t = 0) := hidD (fun h h2 => ⟨if_pos ⟨h, h2⟩, if_pos ⟨h, h2⟩, (if_pos h).trans (if_pos h2)⟩)
  have HC2 : Hid (Br.chk b s t = 0 → Br.allows b s = false → Br.begR b s t = Br.zero ∧ Br.begP b s t = false ∧ Br.begE b s t = 9) := hidD (fun h h2 => by unfold Br.begR Br.begP Br.begE; rw [h2, if_neg (fun e => by cases e.2), if_neg (fun e => by cases e.2), if_pos h, if_neg (by decide)]; exact ⟨rfl, rfl, rfl⟩)
  have HC1 : Hid (¬ Br.chk b s t = 0 → Br.begR b s t = Br.zero ∧ Br.begP b s t = false ∧ Br.begE b s t = Br.chk b s t) := hidD (fun h => by unfold Br.begR Br.begP Br.begE; rw [if_neg (fun e => h e.1), if_neg (fun e => h e.1), if_neg h]; exact ⟨rfl, rfl, rfl⟩)
  generalize Br.begR b s t = z at *
  generalize Br.begP b s t = zp at *
  generalize Br.begE b s t = ze at *
  generalize Br.allowsR b s t = ar at *
  generalize Br.allows b s = al at *
  generalize Br.chk b s t = k at *
  simp only [bL, sL, Br.zero] at hW0
  obtain ⟨M, F, U, P, W⟩ := b
  dsimp only at *
  obtain ⟨N, hN⟩ : ∃ N, N = w.heap.size := ⟨_, rfl⟩
  rw [← hN] at B0 B1 B2 HB HS ⊢
  have HN := hidD hN
  go_enter Try.func14, Try.ntmps14
  go_wp2_with fail
  rw [← hN, ← hW0]
  clear hN hW0
  with_reducible refine (c1 _).mono ?_
  rintro e w1 ⟨rfl, h1⟩
  have X0 := B0.below h1
  have X1 := B1.below h1
  have hb1 : Below N w w1 := below_on HB (by omega) h1
  have X2 := B2.below h1
  have p0 := X0.cell 0 rfl
  have p1 := X0.cell 1 rfl
  have p2 := X0.cell 2 rfl
  have p3 := X0.cell 3 rfl
  have p4 := X0.cell 4 rfl
  have q0 := X1.cell 0 rfl
  have q1 := X1.cell 1 rfl
  have q2 := X1.cell 2 rfl
  have r0 := X2.cell 0 rfl
  have r1 := X2.cell 1 rfl
  have r2 := X2.cell 2 rfl
  have r3 := X2.cell 3 rfl
  have r4 := X2.cell 4 rfl
  have f0 := X2.frozen 0
  have f1 := X2.frozen 1
  have f2 := X2.frozen 2
  have f3 := X2.frozen 3
  have f4 := X2.frozen 4
  have hz := h1.size
  by_cases hk : k = 0
  · subst hk
    have hw := HW.out rfl
    have hA := HA0.out rfl
    subst hA
    clear HW HA0 HC1
    cases ar
    · obtain ⟨e1, e2, e3⟩ := HC2.out rfl rfl
      subst e1 e2 e3
      have S := hidD (put5_bo Br.zero X2)
      have SB := hidD ((put5_cg w1 (N + 1 + 1) Br.zero).below (B := N) (by omega) (by omega) hb1)
      clear X0 X1 X2 hb1 B0 B1 B2 HB HC0 HC2 h1 hz HS c1
      go_wp2_with fail
      refine bodyPost_ret (ret_cell2 rfl rfl S.out) rfl ?_
      exact ⟨rfl, SB.out⟩
    · obtain ⟨e1, e2, e3⟩ := HC0.out rfl rfl
      subst e2 e3
      by_cases hm : M = 2
      · subst hm
        rw [if_pos rfl] at e1
        subst e1
        have g3 := X0.frozen 3
        have Y1 := X0.set 3 (.int .i64 (P + 1))
        have c5 := Cg.set w1 3 (.int .i64 (P + 1)) (b := N)
        have X4 := c5.bo (by omega) X2
        have hb3 := c5.below (B := N) (Nat.le_refl _) (by omega) hb1
        have S := hidD (put5_bo ⟨2, F, U, P + 1, W⟩ X4)
        have SB := hidD ((put5_cg _ (N + 1 + 1) ⟨2, F, U, P + 1, W⟩).below (B := N) (by omega) (by simp; omega) hb3)
        have t0 := Y1.cell 0 rfl
        have t1 := Y1.cell 1 rfl
        have t2 := Y1.cell 2 rfl
        have t3 := Y1.cell 3 rfl
        have t4 := Y1.cell 4 rfl
        have r0 := X4.cell 0 rfl
        have r1 := X4.cell 1 rfl
        have r2 := X4.cell 2 rfl
        have r3 := X4.cell 3 rfl
        have r4 := X4.cell 4 rfl
        have f0 := X4.frozen 0
        have f1 := X4.frozen 1
        have f2 := X4.frozen 2
        have f3 := X4.frozen 3
        have f4 := X4.frozen 4
        clear X4 Y1 c5 hb3 X0 X1 X2 hb1 B0 B1 B2 HB HC0 HC2 h1 c1 HS hz
        go_wp2_with fail
        refine bodyPost_ret (ret_cell2 rfl rfl S.out) rfl ?_
        exact ⟨rfl, SB.out⟩
      · rw [if_neg hm] at e1
        subst e1
        have hm2 : (M == 2) = false := by simp [hm]
        have S := hidD (put5_bo ⟨M, F, U, P, W⟩ X2)
        have SB := hidD ((put5_cg w1 (N + 1 + 1) ⟨M, F, U, P, W⟩).below (B := N) (by omega) (by omega) hb1)
        have hd := hidD (decide_eq_false hm)
        clear X0 X1 X2 hb1 B0 B1 B2 HB HC0 HC2 h1 hz HS c1
        go_wp2_with fail
        refine bodyPost_ret (ret_cell2 rfl rfl S.out) rfl ?_
        exact ⟨by first | rfl | (rw [hd.out]; rfl), SB.out⟩
  · obtain ⟨e1, e2, e3⟩ := HC1.out hk
    subst e1 e2 e3
    have hk1 : (ze != 0) = true := by simp [hk]
    have S := hidD (put5_bo Br.zero X2)
    have SB := hidD ((put5_cg w1 (N + 1 + 1) Br.zero).below (B := N) (by omega) (by omega) hb1)
    clear X0 X1 X2 hb1 B0 B1 B2 HB HC0 HC1 HC2 hk h1 hz HS c1 HW HA0
    go_wp2_with fail
    refine bodyPost_ret (ret_cell2 rfl rfl S.out) rfl ?_
    exact ⟨rfl, SB.out⟩
end Go.Proofs.Ytkfkhhhoboenkaa
