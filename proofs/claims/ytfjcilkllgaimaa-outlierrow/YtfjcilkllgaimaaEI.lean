/- outlier: the reference's Record; alive. -/
import Derived.Test.YtfjcilkllgaimaaEG
import Derived.Test.YtfjcilkllgaimaaEH
import Derived.Laws.StructEq
namespace Go.Proofs.Ytfjcilkllgaimaa
open Go.RowKit
set_option maxRecDepth 20000
set_option linter.unusedVariables false

set_option maxHeartbeats 1600000 in
theorem rrecord_any (o : Ou.St) (s : Ou.Se) (t : Int) (v : Value) (l : List Bool) (w : World) (hv : GSeg w v l) : Calls Try.prog 10 #[vO o, vS s, .int .i64 t, v] w fun e w' => e = .returned (.tuple #[vO (Ou.recR o s t l), .int .i64 (Ou.chk o s t)]) ∧ Below w.heap.size w w' := by
  have c1 := fun W => rcheck_any o s t W
  obtain ⟨W0, hW0, B0, B1, B2, HB, HS⟩ := three_boxes w (oL o) (sL s) (oL Ou.zero) 23 25 23
  have HC0 : Hid (Ou.chk o s t = 0 → Ou.recR o s t l = Ou.recs o l) := hidD (fun h => if_pos h)
  have HC1 : Hid (¬ Ou.chk o s t = 0 → Ou.recR o s t l = Ou.zero) := hidD (fun h => if_neg h)
  have HM : Hid (Ou.chk o s t = 0 → Ou.may o = true) := hidD (fun h => (Ou.chk_zero h).2.2.2)
  generalize Ou.recR o s t l = z at *
  generalize Ou.chk o s t = k at *
  simp only [oL, sL, Ou.zero] at hW0
  have HV := hidD hv
  obtain ⟨a, cap, hva, g1, g2, g3, g4⟩ := hv
  obtain ⟨n, hn⟩ : ∃ n, n = l.length := ⟨_, rfl⟩
  rw [← hn] at hva g1
  unfold maxLen at g2
  have HL := hidD hn
  clear hn g3 g4
  subst hva
  obtain ⟨N, hN⟩ : ∃ N, N = w.heap.size := ⟨_, rfl⟩
  rw [← hN] at B0 B1 B2 HB HS ⊢
  have HN := hidD hN
  go_enter Try.func10, Try.ntmps10
  go_wp2_with fail
  rw [← hN, ← hW0]
  clear hN hW0
  with_reducible refine (c1 _).mono ?_
  rintro e w1 ⟨rfl, h1⟩
  have X0 := B0.below h1
  have X1 := B1.below h1
  have hb1 : Below N w w1 := below_on HB (by omega) h1
  have X2 := B2.below h1
  have p0 := X0.cell 0 rfl
  have p1 := X0.cell 1 rfl
  have p2 := X0.cell 2 rfl
  have p3 := X0.cell 3 rfl
  have p4 := X0.cell 4 rfl
  have p5 := X0.cell 5 rfl
  have p6 := X0.cell 6 rfl
  have q0 := X1.cell 0 rfl
  have q1 := X1.cell 1 rfl
  have q2 := X1.cell 2 rfl
  have q3 := X1.cell 3 rfl
  have q4 := X1.cell 4 rfl
  have q5 := X1.cell 5 rfl
  have q6 := X1.cell 6 rfl
  have r0 := X2.cell 0 rfl
  have r1 := X2.cell 1 rfl
  have r2 := X2.cell 2 rfl
  have r3 := X2.cell 3 rfl
  have r4 := X2.cell 4 rfl
  have r5 := X2.cell 5 rfl
  have r6 := X2.cell 6 rfl
  have f0 := X2.frozen 0
  have f1 := X2.frozen 1
  have f2 := X2.frozen 2
  have f3 := X2.frozen 3
  have f4 := X2.frozen 4
  have f5 := X2.frozen 5
  have f6 := X2.frozen 6
  have hz := h1.size
  by_cases hk : k = 0
  · subst hk
    have hZ := HC0.out rfl
    have hm := HM.out rfl
    have X0' := hidD X0
    have X2' := hidD X2
    have hb2 := hidD hb1
    have hs2 : Hid (N + 3 ≤ w1.heap.size) := hidD (by omega)
    have hm' := hidD hm
    have hZ' := hidD hZ
    clear X0 X1 X2 B0 B1 B2 HB HC0 HC1 HM h1 c1 hb1 hz HS r0 r1 r2 r3 r4 r5 r6 f0 f1 f2 f3 f4 f5 f6 hm hZ p0 p1 p2 p3 p4 p5 p6 q0 q1 q2 q3 q4 q5 q6
    go_wp2_with fail
    go_loopw [11] (fun i wr => ∃ k : Nat, k ≤ n ∧ i = .int .i64 k ∧ Hid (Bo wr N (oL (Ou.recs o (l.take k))) 23) ∧ Hid (Bo wr (N + 1 + 1) (oL Ou.zero) 23) ∧ Hid (Below N w wr)) (fun i _ => n - (intOf i).toNat)
    case atStart => exact ⟨0, Nat.zero_le _, rfl, hidD (by rw [List.take_zero]; exact X0'.out), X2', hb2⟩
    case round =>
      clear X0' X2' hb2 hs2
      obtain ⟨k, hk, rfl, hb, hx, hc⟩ := hrel
      have hs3 := hidD hx.out.lt
      by_cases hlt : k < n
      · obtain ⟨g, off, cap', e1, hg, hcell⟩ := gseg_at (by have := HL.out; omega) (HV.out.below (HN.out ▸ hc.out))
        rw [← HL.out] at e1
        cases e1
        have hq2 := hcell k (by have := HL.out; omega)
        have hmk := Ou.recs_may (l.take k) hm'.out
        obtain ⟨w1, w2, w3⟩ := Ou.may_wraps hmk
        have hrt := hidD (Ou.recs_take o l k (by have := HL.out; omega))
        clear hcell hmk
        generalize l.getD k false = gd at *
        generalize Ou.recs o (l.take k) = x at *
        obtain ⟨R, G, BD, NN, S0, U, Q⟩ := x
        have hR : Ou.up R 1048576 = if R + 1 ≤ 1048576 then R + 1 else 1048576 := rfl
        have hG : Ou.up G 1048576 = if G + 1 ≤ 1048576 then G + 1 else 1048576 := rfl
        have hB : Ou.up BD 1048576 = if BD + 1 ≤ 1048576 then BD + 1 else 1048576 := rfl
        have hY : Hid (Ou.rec1 ⟨R, G, BD, NN, S0, U, Q⟩ gd = if gd = true then ⟨0, Ou.up G 1048576, BD, NN, S0, U, Q⟩ else ⟨Ou.up R 1048576, G, Ou.up BD 1048576, NN, S0, U, Q⟩) := hidD rfl
        dsimp only at w1 w2 w3
        generalize Ou.up R 1048576 = r1 at *
        generalize Ou.up G 1048576 = g1 at *
        generalize Ou.up BD 1048576 = b1 at *
        have x0 := hb.out.cell 0 rfl
        have x1 := hb.out.cell 1 rfl
        have x2 := hb.out.cell 2 rfl
        have x3 := hb.out.cell 3 rfl
        have x4 := hb.out.cell 4 rfl
        have x5 := hb.out.cell 5 rfl
        have x6 := hb.out.cell 6 rfl
        have y0 := hb.out.frozen 0
        have y1 := hb.out.frozen 1
        have y2 := hb.out.frozen 2
        have y3 := hb.out.frozen 3
        have y4 := hb.out.frozen 4
        have y5 := hb.out.frozen 5
        have y6 := hb.out.frozen 6
        cases gd
        · have hY2 := hY.out
          rw [if_neg (by decide)] at hY2
          have hmR0 : (if R + 1 < 1048576 then R + 1 else 1048576) = r1 := by rw [hR]; split <;> split <;> omega
          have hmR1 : (if 1048576 < R + 1 then 1048576 else R + 1) = r1 := by rw [hR]; split <;> split <;> omega
          have hmR2 : (if 1048576 ≤ R + 1 then 1048576 else R + 1) = r1 := by rw [hR]; split <;> split <;> omega
          have hmR3 : (if 1048576 ≤ R then 1048576 else R + 1) = r1 := by rw [hR]; split <;> split <;> omega
          have hmB0 : (if BD + 1 < 1048576 then BD + 1 else 1048576) = b1 := by rw [hB]; split <;> split <;> omega
          have hmB1 : (if 1048576 < BD + 1 then 1048576 else BD + 1) = b1 := by rw [hB]; split <;> split <;> omega
          have hmB2 : (if 1048576 ≤ BD + 1 then 1048576 else BD + 1) = b1 := by rw [hB]; split <;> split <;> omega
          have hmB3 : (if 1048576 ≤ BD then 1048576 else BD + 1) = b1 := by rw [hB]; split <;> split <;> omega
          have Z := hidD ((hb.out.set 0 (.int .i64 r1)).set 2 (.int .i64 b1))
          have C5 := ((Cg.set wr 0 (.int .i64 r1) (b := N)).trans (Cg.set _ 2 (.int .i64 b1)))
          have hx5 := hidD (C5.bo (by omega) hx.out)
          have hc5 := hidD (C5.below (B := N) (Nat.le_refl _) (by have := hs3.out; omega) hc.out)
          have hrt2 := hidD (hrt.out.trans hY2)
          clear hb hx hc C5 hY2 hY hrt hR hG hB x3 x4 x5 x6 y3 y4 y5 y6
          go_wp2_with fail
          exact ⟨⟨k + 1, by omega, by go_num, hidD (by rw [hrt2.out]; exact Z.out), hx5, hc5⟩, by simp [intOf]; omega⟩
        · have hY2 := hY.out
          rw [if_pos rfl] at hY2
          have hmG0 : (if G + 1 < 1048576 then G + 1 else 1048576) = g1 := by rw [hG]; split <;> split <;> omega
          have hmG1 : (if 1048576 < G + 1 then 1048576 else G + 1) = g1 := by rw [hG]; split <;> split <;> omega
          have hmG2 : (if 1048576 ≤ G + 1 then 1048576 else G + 1) = g1 := by rw [hG]; split <;> split <;> omega
          have hmG3 : (if 1048576 ≤ G then 1048576 else G + 1) = g1 := by rw [hG]; split <;> split <;> omega
          have Z := hidD ((hb.out.set 0 (.int .i64 0)).set 1 (.int .i64 g1))
          have C5 := ((Cg.set wr 0 (.int .i64 0) (b := N)).trans (Cg.set _ 1 (.int .i64 g1)))
          have hx5 := hidD (C5.bo (by omega) hx.out)
          have hc5 := hidD (C5.below (B := N) (Nat.le_refl _) (by have := hs3.out; omega) hc.out)
          have hrt2 := hidD (hrt.out.trans hY2)
          clear hb hx hc C5 hY2 hY hrt hR hG hB x3 x4 x5 x6 y3 y4 y5 y6
          go_wp2_with fail
          exact ⟨⟨k + 1, by omega, by go_num, hidD (by rw [hrt2.out]; exact Z.out), hx5, hc5⟩, by simp [intOf]; omega⟩
      · have hkn : k = n := by omega
        subst hkn
        have hbk := hb.out
        rw [HL.out, List.take_length, ← hZ'.out] at hbk
        have X4 := hx.out
        have hb3 := hc.out
        have S := hidD (put7_bo z X4)
        have SB := hidD ((put7_cg wr (N + 1 + 1) z).below (B := N) (by omega) (by have := hb3.size; have := HN.out; omega) hb3)
        have t0 := hbk.cell 0 rfl
        have t1 := hbk.cell 1 rfl
        have t2 := hbk.cell 2 rfl
        have t3 := hbk.cell 3 rfl
        have t4 := hbk.cell 4 rfl
        have t5 := hbk.cell 5 rfl
        have t6 := hbk.cell 6 rfl
        have r0 := X4.cell 0 rfl
        have r1 := X4.cell 1 rfl
        have r2 := X4.cell 2 rfl
        have r3 := X4.cell 3 rfl
        have r4 := X4.cell 4 rfl
        have r5 := X4.cell 5 rfl
        have r6 := X4.cell 6 rfl
        have f0 := X4.frozen 0
        have f1 := X4.frozen 1
        have f2 := X4.frozen 2
        have f3 := X4.frozen 3
        have f4 := X4.frozen 4
        have f5 := X4.frozen 5
        have f6 := X4.frozen 6
        clear X4 hb3 hbk hb hx hc
        go_wp2_with fail
        refine bodyPost_ret (ret_cell1 rfl rfl S.out) rfl ?_
        exact ⟨rfl, SB.out⟩
  · have hZ := HC1.out hk
    subst hZ
    have hk1 : (k != 0) = true := by simp [hk]
    have S := hidD (put7_bo Ou.zero X2)
    have SB := hidD ((put7_cg w1 (N + 1 + 1) Ou.zero).below (B := N) (by omega) (by omega) hb1)
    clear X0 X1 X2 hb1 B0 B1 B2 HB HC0 HC1 hk h1 hz HS c1
    go_wp2_with fail
    refine bodyPost_ret (ret_cell1 rfl rfl S.out) rfl ?_
    exact ⟨rfl, SB.out⟩

theorem ou_alive : Ou.roomR ⟨1, 500, 2, 3, 9, 50, 10⟩ 5 1 = 1 ∧ Ou.nE ⟨1, 500, 2, 3, 9, 50, 10⟩ 5 1 = 0 ∧ Ou.ejR Ou.zero ⟨1, 500, 2, 3, 9, 50, 10⟩ 4 = ⟨0, 0, 0, 1, 4, 7, true⟩ ∧ Ou.ejE Ou.zero ⟨1, 500, 2, 3, 9, 50, 10⟩ 4 = 0 := ⟨by decide, by decide, by rfl, by decide⟩

set_option maxHeartbeats 800000 in
theorem oalive_any (w : World) : Calls Try.prog 24 #[] w fun e w' => e = .returned (.bool true) ∧ Below w.heap.size w w' := by
  have c1 := fun W => oroom_any ⟨1, 500, 2, 3, 9, 50, 10⟩ 5 1 W
  have c2 := fun W => oeject_any Ou.zero ⟨1, 500, 2, 3, 9, 50, 10⟩ 4 W
  rw [ou_alive.1, ou_alive.2.1] at c1
  rw [ou_alive.2.2.1, ou_alive.2.2.2] at c2
  unfold Ou.zero at c2
  have HC2 := hidD c2
  have X := Bo.new w (sL ⟨1, 500, 2, 3, 9, 50, 10⟩) 25
  have HB := (Below.refl w.heap.size w).alloc (Nat.le_refl _) (.cells (sL ⟨1, 500, 2, 3, 9, 50, 10⟩).toArray 25)
  have HS := World.size_alloc w (.cells (sL ⟨1, 500, 2, 3, 9, 50, 10⟩).toArray 25)
  obtain ⟨W0, hW0⟩ : ∃ W0, W0 = w.alloc (.cells (sL ⟨1, 500, 2, 3, 9, 50, 10⟩).toArray 25) := ⟨_, rfl⟩
  obtain ⟨N, hN⟩ : ∃ N, N = w.heap.size := ⟨_, rfl⟩
  rw [← hW0] at X HB HS
  rw [← hN] at X HB HS ⊢
  simp only [sL] at hW0
  have HX := hidD X
  have HHB := hidD HB
  have HHS := hidD HS
  clear X HB HS c2
  go_enter Try.func24, Try.ntmps24
  go_upto_region 2 with fail
  rw [← hN, ← hW0]
  clear hN hW0
  have a0 := HX.out.cell 0 rfl
  have a1 := HX.out.cell 1 rfl
  have a2 := HX.out.cell 2 rfl
  have a3 := HX.out.cell 3 rfl
  have a4 := HX.out.cell 4 rfl
  have a5 := HX.out.cell 5 rfl
  have a6 := HX.out.cell 6 rfl
  have c := c1 W0
  go_wp2_with fail
  with_reducible refine c.mono ?_
  rintro e w1 ⟨rfl, h1⟩
  have X1 := HX.out.below h1
  have hb1 := hidD (below_on HHB.out (by have := HHS.out; omega) h1)
  have hs1 := hidD (Nat.le_trans (Nat.le_of_eq HHS.out.symm) h1.size)
  clear c c1 h1 HX HHB HHS
  have b0 := X1.cell 0 rfl
  have b1 := X1.cell 1 rfl
  have b2 := X1.cell 2 rfl
  have b3 := X1.cell 3 rfl
  have b4 := X1.cell 4 rfl
  have b5 := X1.cell 5 rfl
  have b6 := X1.cell 6 rfl
  have c := HC2.out w1
  go_wp2_with fail
  with_reducible refine c.mono ?_
  rintro e w5 ⟨rfl, h2⟩
  have hb5 := hidD (below_on hb1.out (by have := hs1.out; omega) h2)
  have hs5 := hidD (Nat.le_trans hs1.out h2.size)
  clear c h2 X1
  have hb6 := hidD (hb5.out.alloc (by have := hs5.out; omega) (.cells #[.int .i64 0, .int .i64 0, .int .i64 0, .int .i64 1, .int .i64 4, .int .i64 7, .bool true] 23))
  have Y := hidD (Bo.new w5 [.int .i64 0, .int .i64 0, .int .i64 0, .int .i64 1, .int .i64 4, .int .i64 7, .bool true] 23)
  go_upto_region 4 with fail
  generalize w5.heap.size = A at *
  generalize w5.alloc (.cells #[.int .i64 0, .int .i64 0, .int .i64 0, .int .i64 1, .int .i64 4, .int .i64 7, .bool true] 23) = w6 at *
  have d0 := Y.out.cell 0 rfl
  have d1 := Y.out.cell 1 rfl
  have d2 := Y.out.cell 2 rfl
  have d3 := Y.out.cell 3 rfl
  have d4 := Y.out.cell 4 rfl
  have d5 := Y.out.cell 5 rfl
  have d6 := Y.out.cell 6 rfl
  go_wp2_with (go_at_call 17; refine (num_any _ _).mono ?_; rintro e w4 ⟨rfl, rfl⟩)
  go_ret
  exact ⟨rfl, hb6.out⟩
end Go.Proofs.Ytfjcilkllgaimaa
