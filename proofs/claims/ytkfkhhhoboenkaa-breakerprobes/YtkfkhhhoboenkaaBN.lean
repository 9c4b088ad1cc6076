/- breaker: the reference's End. -/
import Derived.Test.YtkfkhhhoboenkaaBL
import Derived.Deep.RegionHeld
import Derived.Deep.DeepCutAuto
namespace Go.Proofs.Ytkfkhhhoboenkaa
open Go.RowKit
set_option maxRecDepth 20000
set_option linter.unusedVariables false

set_option maxHeartbeats 4000000 in
theorem rend_any (b : Br.St) (s : Br.Se) (t : Int) (pr g : Bool) (w : World) : Calls Try.prog 16 #[vB b, vS s, .int .i64 t, .bool pr, .bool g] w fun e w' => e = .returned (.tuple #[vB (Br.endR b s t pr g), .int .i64 (Br.chk b s t)]) ∧ Below w.heap.size w w' := by
  have c1 := fun W => rcheck_any b s t W
  have HW := hidD (fun h => Br.wraps (b := b) (s := s) (t := t) h)
  have HP := hidD (fun h => (Br.may_iff.1 (Br.chk_zero (b := b) (s := s) (t := t) h).2.2.2).2.2.2.2.2.2.1)
  obtain ⟨W0, hW0, B0, B1, B2, HB, HS⟩ := three_boxes w (bL b) (sL s) (bL Br.zero) 23 25 23
  have HC0 : Hid (Br.chk b s t = 0 → Br.endR b s t pr g = Br.fin b s t pr g) := hidD (fun h => if_pos h)
  have HC1 : Hid (¬ Br.chk b s t = 0 → Br.endR b s t pr g = Br.zero) := hidD (fun h => if_neg h)
  generalize Br.endR b s t pr g = z at *
  generalize Br.chk b s t = k at *
  simp only [bL, sL, Br.zero] at hW0
  obtain ⟨M, F, U, P, W⟩ := b
  obtain ⟨SF, SO, SP⟩ := s
  dsimp only at *
  obtain ⟨N, hN⟩ : ∃ N, N = w.heap.size := ⟨_, rfl⟩
  rw [← hN] at B0 B1 B2 HB HS ⊢
  have HN := hidD hN
  go_enter Try.func16, Try.ntmps16
  go_wp2_with fail
  rw [← hN, ← hW0]
  clear hN hW0
  with_reducible refine (c1 _).mono ?_
  rintro e w1 ⟨rfl, h1⟩
  have X0 := B0.below h1
  have X1 := B1.below h1
  have hb1 : Below N w w1 := below_on HB (by omega) h1
  have X2 := B2.below h1
  have p0 := X0.cell 0 rfl
  have p1 := X0.cell 1 rfl
  have p2 := X0.cell 2 rfl
  have p3 := X0.cell 3 rfl
  have p4 := X0.cell 4 rfl
  have q0 := X1.cell 0 rfl
  have q1 := X1.cell 1 rfl
  have q2 := X1.cell 2 rfl
  have r0 := X2.cell 0 rfl
  have r1 := X2.cell 1 rfl
  have r2 := X2.cell 2 rfl
  have r3 := X2.cell 3 rfl
  have r4 := X2.cell 4 rfl
  have f0 := X2.frozen 0
  have f1 := X2.frozen 1
  have f2 := X2.frozen 2
  have f3 := X2.frozen 3
  have f4 := X2.frozen 4
  have hz := h1.size
  by_cases hk : k = 0
  case neg =>
    have hZ := HC1.out hk
    subst hZ
    have hk1 : (k != 0) = true := by simp [hk]
    have S := hidD (put5_bo Br.zero X2)
    have SB := hidD ((put5_cg w1 (N + 1 + 1) Br.zero).below (B := N) (by omega) (by omega) hb1)
    clear X0 X1 X2 hb1 B0 B1 B2 HB HC0 HC1 hk h1 hz HS c1 HW HP
    go_wp2_with fail
    refine bodyPost_ret (ret_cell1 rfl rfl S.out) rfl ?_
    exact ⟨rfl, SB.out⟩
  subst hk
  obtain ⟨ht, hf, hw, _, hp⟩ := HW.out rfl
  have hP0 := HP.out rfl
  have hZ := HC0.out rfl
  clear HW HP HC0 HC1 c1 B0 B1 B2 HB h1
  have UX1 := hidD X1
  have UX2 := hidD X2
  have UX0 := hidD X0
  have UB := hidD hb1
  have US := hidD hz
  have US0 := hidD HS
  clear X0 X1 X2 hb1 hz HS q0 q1 q2 r0 r1 r2 r3 r4 f0 f1 f2 f3 f4
  have f3 := UX0.out.frozen 3
  go_upto_if 21 with fail
  go_cut [] (fun wx => ∃ P', Hid (Br.dn ⟨M, F, U, P, W⟩ pr = ⟨M, F, U, P', W⟩) ∧ Hid (Bo wx N (bL ⟨M, F, U, P', W⟩) 23) ∧ Hid (Bo wx (N + 1) (sL ⟨SF, SO, SP⟩) 25) ∧ Hid (Bo wx (N + 1 + 1) (bL Br.zero) 23) ∧ Hid (Below N w wx) ∧ Hid (N + 3 ≤ wx.heap.size))
  case first =>
    have hs0 := hidD (show N + 3 ≤ w1.heap.size from by rw [← US0.out]; exact US.out)
    cases pr
    · go_wp2_with fail
      go_meet
      exact ⟨P, hidD rfl, UX0, UX1, UX2, UB, hs0⟩
    · by_cases hp0 : 0 < P
      · have hmx : (if 1 < P then P - 1 else 0) = P - 1 := by split <;> omega
        have C0 := Cg.set w1 3 (.int .i64 (P - 1)) (b := N)
        have V0 := hidD (UX0.out.set 3 (.int .i64 (P - 1)))
        have V1 := hidD (C0.bo (by omega) UX1.out)
        have V2 := hidD (C0.bo (by omega) UX2.out)
        have V3 := hidD (C0.below (B := N) (Nat.le_refl _) (by have := hs0.out; omega) UB.out)
        have V4 := hidD (Nat.le_trans hs0.out C0.size)
        have VD : Hid (Br.dn ⟨M, F, U, P, W⟩ true = ⟨M, F, U, P - 1, W⟩) := hidD (if_pos ⟨rfl, hp0⟩)
        clear C0 UX0 UX1 UX2 UB hs0 US US0
        go_wp2_with fail
        go_meet
        exact ⟨P - 1, VD, V0, V1, V2, V3, V4⟩
      · have hP1 : P = 0 := by omega
        subst hP1
        have C0 := Cg.set w1 3 (.int .i64 0) (b := N)
        have V0 := hidD (UX0.out.set 3 (.int .i64 0))
        have V1 := hidD (C0.bo (by omega) UX1.out)
        have V2 := hidD (C0.bo (by omega) UX2.out)
        have V3 := hidD (C0.below (B := N) (Nat.le_refl _) (by have := hs0.out; omega) UB.out)
        have V4 := hidD (Nat.le_trans hs0.out C0.size)
        have VD : Hid (Br.dn ⟨M, F, U, 0, W⟩ true = ⟨M, F, U, 0, W⟩) := hidD rfl
        clear C0 UX0 UX1 UX2 UB hs0 US US0
        go_wp2_with fail
        go_meet
        exact ⟨0, VD, V0, V1, V2, V3, V4⟩
  case rest =>
    obtain ⟨P', hD', X0', X1', X2', hb', hs'⟩ := hcut
    have hD := hD'.out
    have X0 := X0'.out
    have X1 := X1'.out
    have X2 := X2'.out
    have hb1 := hb'.out
    have hs := hs'.out
    clear hD' X0' X1' X2' hb' hs' UX0 UX1 UX2 UB US US0 p0 p1 p2 p3 p4 f3
    generalize wc = WA at *
    have p0 := X0.cell 0 rfl
    have p1 := X0.cell 1 rfl
    have p4 := X0.cell 4 rfl
    dsimp only [bL, sL] at X0 X1 p0 p1 p4
    by_cases hm : M = 0
    · subst hm
      rw [Br.fin_zero hD rfl] at hZ
      clear hD
      cases g
      · by_cases hc : SF ≤ F + 1
        · replace hZ : z = ⟨1, 0, t + SO, P', W⟩ := by rw [hZ]; unfold Br.count; rw [if_neg (by decide), if_pos hc]; rfl
          subst hZ
          have g0 := X0.frozen 1
          have Y0 := X0.set 1 (.int .i64 (F + 1))
          have C0 := Cg.set WA 1 (.int .i64 (F + 1)) (b := N)
          have o0 := X0.cell 1 rfl
          have Z0 := C0.bo (by omega) X1
          have y00 := Y0.cell 0 rfl
          have y01 := Y0.cell 1 rfl
          have z00 := Z0.cell 0 rfl
          have U0 := hidD Y0
          have U1 := hidD Z0
          have U2 := hidD (C0.bo (by omega) X2)
          have U3 := hidD (C0.below (B := N) (Nat.le_refl _) (by omega) hb1)
          have U4 := hidD (Nat.le_trans hs C0.size)
          clear Y0 C0 Z0
          clear X0 X1 X2 hb1 hs
          go_upto_region 11 with fail
          generalize (WA.setCell ⟨N, 1, none⟩ (.int .i64 (F + 1))) = WA at *
          clear p0 p1 p4
          have X0 := U0.out
          have X1 := U1.out
          have X2 := U2.out
          have hb1 := U3.out
          have hs := U4.out
          clear U0 U1 U2 U3 U4
          have g0 := X0.frozen 0
          have Y0 := X0.set 0 (.int .i64 (1))
          have C0 := Cg.set WA 0 (.int .i64 (1)) (b := N)
          have o0 := X0.cell 0 rfl
          have g1 := Y0.frozen 2
          have Y1 := Y0.set 2 (.int .i64 (t + SO))
          have C1 := C0.trans (Cg.set _ 2 (.int .i64 (t + SO)))
          have o1 := Y0.cell 2 rfl
          have g2 := Y1.frozen 1
          have Y2 := Y1.set 1 (.int .i64 (0))
          have C2 := C1.trans (Cg.set _ 1 (.int .i64 (0)))
          have o2 := Y1.cell 1 rfl
          have q1 := X1.cell 1 rfl
          have V0 := hidD Y2
          have V2 := hidD (C2.bo (by omega) X2)
          have V3 := hidD (C2.below (B := N) (Nat.le_refl _) (by omega) hb1)
          have V4 := hidD (Nat.le_trans hs C2.size)
          clear X0 X1 X2 hb1 hs Y0 C0 Y1 C1 Y2 C2
          go_region_held (fun w' => w'.cell? ⟨N + 1, 1, none⟩ = some (.int .i64 SO)) (go_keep) (fail)
          go_upto_region 18 with fail
          have X0 := V0.out
          have X2 := V2.out
          have hb1 := V3.out
          have hs := V4.out
          clear V0 V2 V3 V4
          generalize (((WA.setCell ⟨N, 0, none⟩ (.int .i64 (1))).setCell ⟨N, 2, none⟩ (.int .i64 (t + SO))).setCell ⟨N, 1, none⟩ (.int .i64 (0))) = WB at *
          have p0 := X0.cell 0 rfl
          have p1 := X0.cell 1 rfl
          have p2 := X0.cell 2 rfl
          have p3 := X0.cell 3 rfl
          have p4 := X0.cell 4 rfl
          have r0 := X2.cell 0 rfl
          have r1 := X2.cell 1 rfl
          have r2 := X2.cell 2 rfl
          have r3 := X2.cell 3 rfl
          have r4 := X2.cell 4 rfl
          have f0 := X2.frozen 0
          have f1 := X2.frozen 1
          have f2 := X2.frozen 2
          have f3 := X2.frozen 3
          have f4 := X2.frozen 4
          have S := hidD (put5_bo ⟨1, 0, t + SO, P', W⟩ X2)
          have SB := hidD ((put5_cg WB (N + 1 + 1) ⟨1, 0, t + SO, P', W⟩).below (B := N) (by omega) (by omega) hb1)
          clear X0 X2 hb1 hs
          go_wp2_with fail
          refine bodyPost_ret (ret_cell1 rfl rfl S.out.drew) rfl ?_
          exact ⟨rfl, belowD_drew SB.out⟩
        · replace hZ : z = ⟨0, F + 1, U, P', W⟩ := by rw [hZ]; unfold Br.count; rw [if_neg (by decide), if_neg hc]
          subst hZ
          have g0 := X0.frozen 1
          have Y0 := X0.set 1 (.int .i64 (F + 1))
          have C0 := Cg.set WA 1 (.int .i64 (F + 1)) (b := N)
          have o0 := X0.cell 1 rfl
          have Z0 := C0.bo (by omega) X1
          have y00 := Y0.cell 0 rfl
          have y01 := Y0.cell 1 rfl
          have z00 := Z0.cell 0 rfl
          have V0 := hidD Y0
          have V2 := hidD (C0.bo (by omega) X2)
          have V3 := hidD (C0.below (B := N) (Nat.le_refl _) (by omega) hb1)
          have V4 := hidD (Nat.le_trans hs C0.size)
          clear X0 X1 X2 hb1 hs Y0 C0 Z0
          go_upto_region 18 with fail
          clear p0 p1 p4
          have X0 := V0.out
          have X2 := V2.out
          have hb1 := V3.out
          have hs := V4.out
          clear V0 V2 V3 V4
          generalize (WA.setCell ⟨N, 1, none⟩ (.int .i64 (F + 1))) = WB at *
          have p0 := X0.cell 0 rfl
          have p1 := X0.cell 1 rfl
          have p2 := X0.cell 2 rfl
          have p3 := X0.cell 3 rfl
          have p4 := X0.cell 4 rfl
          have r0 := X2.cell 0 rfl
          have r1 := X2.cell 1 rfl
          have r2 := X2.cell 2 rfl
          have r3 := X2.cell 3 rfl
          have r4 := X2.cell 4 rfl
          have f0 := X2.frozen 0
          have f1 := X2.frozen 1
          have f2 := X2.frozen 2
          have f3 := X2.frozen 3
          have f4 := X2.frozen 4
          have S := hidD (put5_bo ⟨0, F + 1, U, P', W⟩ X2)
          have SB := hidD ((put5_cg WB (N + 1 + 1) ⟨0, F + 1, U, P', W⟩).below (B := N) (by omega) (by omega) hb1)
          clear X0 X2 hb1 hs
          go_wp2_with fail
          refine bodyPost_ret (ret_cell1 rfl rfl S.out) rfl ?_
          exact ⟨rfl, SB.out⟩
      · replace hZ : z = ⟨0, 0, U, P', W⟩ := by rw [hZ]; rfl
        subst hZ
        have g0 := X0.frozen 1
        have Y0 := X0.set 1 (.int .i64 (0))
        have C0 := Cg.set WA 1 (.int .i64 (0)) (b := N)
        have o0 := X0.cell 1 rfl
        have V0 := hidD Y0
        have V2 := hidD (C0.bo (by omega) X2)
        have V3 := hidD (C0.below (B := N) (Nat.le_refl _) (by omega) hb1)
        have V4 := hidD (Nat.le_trans hs C0.size)
        clear X0 X1 X2 hb1 hs Y0 C0
        go_upto_region 18 with fail
        clear p0 p1 p4
        have X0 := V0.out
        have X2 := V2.out
        have hb1 := V3.out
        have hs := V4.out
        clear V0 V2 V3 V4
        generalize (WA.setCell ⟨N, 1, none⟩ (.int .i64 (0))) = WB at *
        have p0 := X0.cell 0 rfl
        have p1 := X0.cell 1 rfl
        have p2 := X0.cell 2 rfl
        have p3 := X0.cell 3 rfl
        have p4 := X0.cell 4 rfl
        have r0 := X2.cell 0 rfl
        have r1 := X2.cell 1 rfl
        have r2 := X2.cell 2 rfl
        have r3 := X2.cell 3 rfl
        have r4 := X2.cell 4 rfl
        have f0 := X2.frozen 0
        have f1 := X2.frozen 1
        have f2 := X2.frozen 2
        have f3 := X2.frozen 3
        have f4 := X2.frozen 4
        have S := hidD (put5_bo ⟨0, 0, U, P', W⟩ X2)
        have SB := hidD ((put5_cg WB (N + 1 + 1) ⟨0, 0, U, P', W⟩).below (B := N) (by omega) (by omega) hb1)
        clear X0 X2 hb1 hs
        go_wp2_with fail
        refine bodyPost_ret (ret_cell1 rfl rfl S.out) rfl ?_
        exact ⟨rfl, SB.out⟩
    have hm0 : (M == 0) = false := by simp [hm]
    by_cases h2 : M = 2
    · subst h2
      cases pr
      · rw [Br.fin_other hD hm (fun e => by cases e.2)] at hZ
        clear hD hm
        subst hZ
        have V0 := hidD X0
        have V2 := hidD X2
        have V3 := hidD hb1
        have V4 := hidD hs
        clear X0 X1 X2 hb1 hs 
        go_upto_region 18 with fail
        clear p0 p1 p4
        have X0 := V0.out
        have X2 := V2.out
        have hb1 := V3.out
        have hs := V4.out
        clear V0 V2 V3 V4
        generalize WA = WB at *
        have p0 := X0.cell 0 rfl
        have p1 := X0.cell 1 rfl
        have p2 := X0.cell 2 rfl
        have p3 := X0.cell 3 rfl
        have p4 := X0.cell 4 rfl
        have r0 := X2.cell 0 rfl
        have r1 := X2.cell 1 rfl
        have r2 := X2.cell 2 rfl
        have r3 := X2.cell 3 rfl
        have r4 := X2.cell 4 rfl
        have f0 := X2.frozen 0
        have f1 := X2.frozen 1
        have f2 := X2.frozen 2
        have f3 := X2.frozen 3
        have f4 := X2.frozen 4
        have S := hidD (put5_bo ⟨2, F, U, P', W⟩ X2)
        have SB := hidD ((put5_cg WB (N + 1 + 1) ⟨2, F, U, P', W⟩).below (B := N) (by omega) (by omega) hb1)
        clear X0 X2 hb1 hs
        go_wp2_with fail
        refine bodyPost_ret (ret_cell1 rfl rfl S.out) rfl ?_
        exact ⟨rfl, SB.out⟩
      · rw [Br.fin_two hD rfl] at hZ
        clear hD hm
        cases g
        · replace hZ : z = ⟨1, F, t + SO, P', 0⟩ := by rw [hZ]; rfl
          subst hZ
          have U0 := hidD X0
          have U1 := hidD X1
          have U2 := hidD X2
          have U3 := hidD hb1
          have U4 := hidD hs
          clear X0 X1 X2 hb1 hs
          go_upto_region 17 with fail
          clear p0 p1 p4
          have X0 := U0.out
          have X1 := U1.out
          have X2 := U2.out
          have hb1 := U3.out
          have hs := U4.out
          clear U0 U1 U2 U3 U4
          have g0 := X0.frozen 0
          have Y0 := X0.set 0 (.int .i64 (1))
          have C0 := Cg.set WA 0 (.int .i64 (1)) (b := N)
          have o0 := X0.cell 0 rfl
          have g1 := Y0.frozen 2
          have Y1 := Y0.set 2 (.int .i64 (t + SO))
          have C1 := C0.trans (Cg.set _ 2 (.int .i64 (t + SO)))
          have o1 := Y0.cell 2 rfl
          have g2 := Y1.frozen 4
          have Y2 := Y1.set 4 (.int .i64 (0))
          have C2 := C1.trans (Cg.set _ 4 (.int .i64 (0)))
          have o2 := Y1.cell 4 rfl
          have q1 := X1.cell 1 rfl
          have V0 := hidD Y2
          have V2 := hidD (C2.bo (by omega) X2)
          have V3 := hidD (C2.below (B := N) (Nat.le_refl _) (by omega) hb1)
          have V4 := hidD (Nat.le_trans hs C2.size)
          clear X0 X1 X2 hb1 hs Y0 C0 Y1 C1 Y2 C2
          go_region_held (fun w' => w'.cell? ⟨N + 1, 1, none⟩ = some (.int .i64 SO)) (go_keep) (fail)
          go_upto_region 18 with fail
          have X0 := V0.out
          have X2 := V2.out
          have hb1 := V3.out
          have hs := V4.out
          clear V0 V2 V3 V4
          generalize (((WA.setCell ⟨N, 0, none⟩ (.int .i64 (1))).setCell ⟨N, 2, none⟩ (.int .i64 (t + SO))).setCell ⟨N, 4, none⟩ (.int .i64 (0))) = WB at *
          have p0 := X0.cell 0 rfl
          have p1 := X0.cell 1 rfl
          have p2 := X0.cell 2 rfl
          have p3 := X0.cell 3 rfl
          have p4 := X0.cell 4 rfl
          have r0 := X2.cell 0 rfl
          have r1 := X2.cell 1 rfl
          have r2 := X2.cell 2 rfl
          have r3 := X2.cell 3 rfl
          have r4 := X2.cell 4 rfl
          have f0 := X2.frozen 0
          have f1 := X2.frozen 1
          have f2 := X2.frozen 2
          have f3 := X2.frozen 3
          have f4 := X2.frozen 4
          have S := hidD (put5_bo ⟨1, F, t + SO, P', 0⟩ X2)
          have SB := hidD ((put5_cg WB (N + 1 + 1) ⟨1, F, t + SO, P', 0⟩).below (B := N) (by omega) (by omega) hb1)
          clear X0 X2 hb1 hs
          go_wp2_with fail
          refine bodyPost_ret (ret_cell1 rfl rfl S.out.drew) rfl ?_
          exact ⟨rfl, belowD_drew SB.out⟩
        · by_cases hc : SP ≤ W + 1
          · replace hZ : z = ⟨0, 0, U, P', 0⟩ := by rw [hZ]; unfold Br.weigh; rw [if_pos rfl, if_pos hc]
            subst hZ
            have g0 := X0.frozen 4
            have Y0 := X0.set 4 (.int .i64 (W + 1))
            have C0 := Cg.set WA 4 (.int .i64 (W + 1)) (b := N)
            have o0 := X0.cell 4 rfl
            have Z0 := C0.bo (by omega) X1
            have y00 := Y0.cell 0 rfl
            have y04 := Y0.cell 4 rfl
            have z02 := Z0.cell 2 rfl
            have g1 := Y0.frozen 0
            have Y1 := Y0.set 0 (.int .i64 (0))
            have C1 := C0.trans (Cg.set _ 0 (.int .i64 (0)))
            have o1 := Y0.cell 0 rfl
            have g2 := Y1.frozen 1
            have Y2 := Y1.set 1 (.int .i64 (0))
            have C2 := C1.trans (Cg.set _ 1 (.int .i64 (0)))
            have o2 := Y1.cell 1 rfl
            have g3 := Y2.frozen 4
            have Y3 := Y2.set 4 (.int .i64 (0))
            have C3 := C2.trans (Cg.set _ 4 (.int .i64 (0)))
            have o3 := Y2.cell 4 rfl
            have V0 := hidD Y3
            have V2 := hidD (C3.bo (by omega) X2)
            have V3 := hidD (C3.below (B := N) (Nat.le_refl _) (by omega) hb1)
            have V4 := hidD (Nat.le_trans hs C3.size)
            clear X0 X1 X2 hb1 hs Y0 C0 Z0 Y1 C1 Y2 C2 Y3 C3
            go_upto_region 18 with fail
            clear p0 p1 p4
            have X0 := V0.out
            have X2 := V2.out
            have hb1 := V3.out
            have hs := V4.out
            clear V0 V2 V3 V4
            generalize ((((WA.setCell ⟨N, 4, none⟩ (.int .i64 (W + 1))).setCell ⟨N, 0, none⟩ (.int .i64 (0))).setCell ⟨N, 1, none⟩ (.int .i64 (0))).setCell ⟨N, 4, none⟩ (.int .i64 (0))) = WB at *
            have p0 := X0.cell 0 rfl
            have p1 := X0.cell 1 rfl
            have p2 := X0.cell 2 rfl
            have p3 := X0.cell 3 rfl
            have p4 := X0.cell 4 rfl
            have r0 := X2.cell 0 rfl
            have r1 := X2.cell 1 rfl
            have r2 := X2.cell 2 rfl
            have r3 := X2.cell 3 rfl
            have r4 := X2.cell 4 rfl
            have f0 := X2.frozen 0
            have f1 := X2.frozen 1
            have f2 := X2.frozen 2
            have f3 := X2.frozen 3
            have f4 := X2.frozen 4
            have S := hidD (put5_bo ⟨0, 0, U, P', 0⟩ X2)
            have SB := hidD ((put5_cg WB (N + 1 + 1) ⟨0, 0, U, P', 0⟩).below (B := N) (by omega) (by omega) hb1)
            clear X0 X2 hb1 hs
            go_wp2_with fail
            refine bodyPost_ret (ret_cell1 rfl rfl S.out) rfl ?_
            exact ⟨rfl, SB.out⟩
          · replace hZ : z = ⟨2, F, U, P', W + 1⟩ := by rw [hZ]; unfold Br.weigh; rw [if_pos rfl, if_neg hc]
            subst hZ
            have g0 := X0.frozen 4
            have Y0 := X0.set 4 (.int .i64 (W + 1))
            have C0 := Cg.set WA 4 (.int .i64 (W + 1)) (b := N)
            have o0 := X0.cell 4 rfl
            have Z0 := C0.bo (by omega) X1
            have y00 := Y0.cell 0 rfl
            have y04 := Y0.cell 4 rfl
            have z02 := Z0.cell 2 rfl
            have V0 := hidD Y0
            have V2 := hidD (C0.bo (by omega) X2)
            have V3 := hidD (C0.below (B := N) (Nat.le_refl _) (by omega) hb1)
            have V4 := hidD (Nat.le_trans hs C0.size)
            clear X0 X1 X2 hb1 hs Y0 C0 Z0
            go_upto_region 18 with fail
            clear p0 p1 p4
            have X0 := V0.out
            have X2 := V2.out
            have hb1 := V3.out
            have hs := V4.out
            clear V0 V2 V3 V4
            generalize (WA.setCell ⟨N, 4, none⟩ (.int .i64 (W + 1))) = WB at *
            have p0 := X0.cell 0 rfl
            have p1 := X0.cell 1 rfl
            have p2 := X0.cell 2 rfl
            have p3 := X0.cell 3 rfl
            have p4 := X0.cell 4 rfl
            have r0 := X2.cell 0 rfl
            have r1 := X2.cell 1 rfl
            have r2 := X2.cell 2 rfl
            have r3 := X2.cell 3 rfl
            have r4 := X2.cell 4 rfl
            have f0 := X2.frozen 0
            have f1 := X2.frozen 1
            have f2 := X2.frozen 2
            have f3 := X2.frozen 3
            have f4 := X2.frozen 4
            have S := hidD (put5_bo ⟨2, F, U, P', W + 1⟩ X2)
            have SB := hidD ((put5_cg WB (N + 1 + 1) ⟨2, F, U, P', W + 1⟩).below (B := N) (by omega) (by omega) hb1)
            clear X0 X2 hb1 hs
            go_wp2_with fail
            refine bodyPost_ret (ret_cell1 rfl rfl S.out) rfl ?_
            exact ⟨rfl, SB.out⟩
    have hm2 : (M == 2) = false := by simp [h2]
    rw [Br.fin_other hD hm (fun e => h2 e.1)] at hZ
    clear hD
    subst hZ
    have V0 := hidD X0
    have V2 := hidD X2
    have V3 := hidD hb1
    have V4 := hidD hs
    clear X0 X1 X2 hb1 hs 
    go_upto_region 18 with fail
    clear p0 p1 p4
    have X0 := V0.out
    have X2 := V2.out
    have hb1 := V3.out
    have hs := V4.out
    clear V0 V2 V3 V4
    generalize WA = WB at *
    have p0 := X0.cell 0 rfl
    have p1 := X0.cell 1 rfl
    have p2 := X0.cell 2 rfl
    have p3 := X0.cell 3 rfl
    have p4 := X0.cell 4 rfl
    have r0 := X2.cell 0 rfl
    have r1 := X2.cell 1 rfl
    have r2 := X2.cell 2 rfl
    have r3 := X2.cell 3 rfl
    have r4 := X2.cell 4 rfl
    have f0 := X2.frozen 0
    have f1 := X2.frozen 1
    have f2 := X2.frozen 2
    have f3 := X2.frozen 3
    have f4 := X2.frozen 4
    have S := hidD (put5_bo ⟨M, F, U, P', W⟩ X2)
    have SB := hidD ((put5_cg WB (N + 1 + 1) ⟨M, F, U, P', W⟩).below (B := N) (by omega) (by omega) hb1)
    clear X0 X2 hb1 hs
    go_wp2_with fail
    refine bodyPost_ret (ret_cell1 rfl rfl S.out) rfl ?_
    exact ⟨rfl, SB.out⟩
end Go.Proofs.Ytkfkhhhoboenkaa
