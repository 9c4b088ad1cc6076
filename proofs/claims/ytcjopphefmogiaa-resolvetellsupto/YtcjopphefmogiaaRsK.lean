/- resolve: ResolveOrder over contracts. -/
import Derived.Test.YtcjopphefmogiaaRsJ
namespace Go.Proofs.Ytcjopphefmogiaa
open Go.RowKit
set_option linter.unusedVariables false
set_option maxRecDepth 20000

theorem Rv.order_ok {s a b : Rv.S} (h : Rv.applyE s [a, b] = 0) : Rv.applyE s [b, a] = 0 ∧ Rv.applyE (Rv.applyS s [a, b]) [a, b] = 0 ∧ Rv.applyN (Rv.applyS s [a, b]) [a, b] = 0 ∧ Rv.applyS (Rv.applyS s [a, b]) [a, b] = Rv.applyS s [a, b] ∧ (a.v ≠ b.v → Rv.applyS s [b, a] = Rv.applyS s [a, b]) := by
  have h2 := (Rv.two_error s a b).1 h
  have e1 : Rv.applyS s [a, b] = (Rv.run s [a, b]).1 := if_pos h
  have h0 := Rv.first_zero.1 h
  have h3 : Rv.applyE (Rv.run s [a, b]).1 [a, b] = 0 := by
    refine Rv.first_zero.2 (fun x hx => ?_)
    rcases List.mem_cons.1 hx with rfl | hx
    · exact Rv.apply_chk h
    · exact h0 x (List.mem_cons_of_mem _ hx)
  rw [e1]
  refine ⟨h2, h3, ?_, ?_, fun hv => ?_⟩
  · rw [Rv.applyN, if_pos h3, Rv.two_again]
  · rw [Rv.applyS, if_pos h3, Rv.two_again]
  · rw [Rv.applyS, if_pos h2, Rv.two_order s a b hv]
theorem Rv.order_bad {s a b : Rv.S} (h : ¬ Rv.applyE s [a, b] = 0) : ¬ Rv.applyE s [b, a] = 0 ∧ (Rv.applyS s [a, b]).l.length = 0 ∧ (Rv.applyS s [b, a]).l.length = 0 := by
  have h2 : ¬ Rv.applyE s [b, a] = 0 := fun e => h ((Rv.two_error s a b).2 e)
  exact ⟨h2, by rw [Rv.applyS, if_neg h]; rfl, by rw [Rv.applyS, if_neg h2]; rfl⟩
set_option maxHeartbeats 16000000 in
theorem order_walk (AL : RAlive) (CA : RApp) (r ra rb : Value) (s a b : Rv.S) (w : World) (hs : BS w r s.l) (ha : BS w ra a.l) (hb : BS w rb b.l) :
    Calls Try.prog 4 #[vS r s.v, vS ra a.v, vS rb b.v] w fun e w' => e = .returned (.bool true) ∧ Below w.heap.size w w' := by
  have HS := hidD hs
  have HA := hidD ha
  have HD := hidD hb
  have PP := hidD (@Rv.order_ok s a b)
  have QQ := hidD (@Rv.order_bad s a b)
  obtain ⟨B, hB⟩ : ∃ B, B = w.heap.size := ⟨_, rfl⟩
  have HB : Hid (Below B w w) := hidD (by rw [hB]; exact Below.refl _ _)
  have HBZ : Hid (B ≤ w.heap.size) := hidD (by omega)
  have CAA := hidD CA
  obtain ⟨ao, co, rfl, _⟩ := id hs
  obtain ⟨aa, ca, rfl, _⟩ := id ha
  obtain ⟨ab, cb, rfl, _⟩ := id hb
  clear hs ha hb CA
  obtain ⟨V1, hV1, Y1, b1, Z1⟩ := box_one w [.int .i64 s.v, .slice ao s.l.length co] 24
  obtain ⟨c1, hc1⟩ : ∃ c, c = w.heap.size := ⟨_, rfl⟩
  rw [← hc1] at Y1
  replace HB := hidD (below_on HB.out HBZ.out b1)
  replace HBZ := hidD (Nat.le_trans HBZ.out b1.size)
  replace HS := hidD (HS.out.below b1)
  replace HA := hidD (HA.out.below b1)
  replace HD := hidD (HD.out.below b1)
  have X1 := hidD Y1
  clear b1 Y1 Z1
  obtain ⟨V2, hV2, Y2, b2, Z2⟩ := box_one V1 [.int .i64 a.v, .slice aa a.l.length ca] 24
  obtain ⟨c2, hc2⟩ : ∃ c, c = V1.heap.size := ⟨_, rfl⟩
  rw [← hc2] at Y2
  replace HB := hidD (below_on HB.out HBZ.out b2)
  replace HBZ := hidD (Nat.le_trans HBZ.out b2.size)
  replace HS := hidD (HS.out.below b2)
  replace HA := hidD (HA.out.below b2)
  replace HD := hidD (HD.out.below b2)
  replace X1 := hidD (X1.out.below b2)
  have X2 := hidD Y2
  clear b2 Y2 Z2
  obtain ⟨V3, hV3, Y3, b3, Z3⟩ := box_one V2 [.int .i64 b.v, .slice ab b.l.length cb] 24
  obtain ⟨c3, hc3⟩ : ∃ c, c = V2.heap.size := ⟨_, rfl⟩
  rw [← hc3] at Y3
  replace HB := hidD (below_on HB.out HBZ.out b3)
  replace HBZ := hidD (Nat.le_trans HBZ.out b3.size)
  replace HS := hidD (HS.out.below b3)
  replace HA := hidD (HA.out.below b3)
  replace HD := hidD (HD.out.below b3)
  replace X1 := hidD (X1.out.below b3)
  replace X2 := hidD (X2.out.below b3)
  have X3 := hidD Y3
  clear b3 Y3 Z3
  have e12 : c1 = B ∧ c2 = B + 1 ∧ c3 = B + 1 + 1 := by rw [hc1, hc2, hc3, hV2, hV1, hB]; simp
  obtain ⟨e1, e2, e3⟩ := e12
  rw [e1] at X1
  rw [e2] at X2
  rw [e3] at X3
  clear hc2 hc3 hc1 e1 e2 e3
  have cal := AL V3
  generalize hE1 : Rv.applyE s [a, b] = E1 at *
  generalize hR1 : Rv.applyS s [a, b] = Xs at *
  generalize hN1 : Rv.applyN s [a, b] = N1 at *
  generalize hE2 : Rv.applyE s [b, a] = E2 at *
  generalize hR2 : Rv.applyS s [b, a] = Ys at *
  generalize hN2 : Rv.applyN s [b, a] = N2 at *
  generalize hE3 : Rv.applyE Xs [a, b] = E3 at *
  generalize hR3 : Rv.applyS Xs [a, b] = Zs at *
  generalize hN3 : Rv.applyN Xs [a, b] = N3 at *
  replace hE1 := hidD hE1
  replace hR1 := hidD hR1
  replace hN1 := hidD hN1
  replace hE2 := hidD hE2
  replace hR2 := hidD hR2
  replace hN2 := hidD hN2
  replace hE3 := hidD hE3
  replace hR3 := hidD hR3
  replace hN3 := hidD hN3
  rw [← hB]
  go_enter Try.func4, Try.ntmps4
  go_wp2_with fail
  rw [← hB, ← hV1, ← hV2, ← hV3]
  clear hB hV1 hV2 hV3
  with_reducible refine cal.mono ?_
  rintro e w1 ⟨rfl, b0⟩
  replace HB := hidD (below_on HB.out HBZ.out b0)
  replace HBZ := hidD (Nat.le_trans HBZ.out b0.size)
  replace HS := hidD (HS.out.below b0)
  replace HA := hidD (HA.out.below b0)
  replace HD := hidD (HD.out.below b0)
  replace X1 := hidD (X1.out.below b0)
  replace X2 := hidD (X2.out.below b0)
  replace X3 := hidD (X3.out.below b0)
  clear cal b0
  have X1q0 := X1.out.cell 0 rfl
  have X1q1 := X1.out.cell 1 rfl
  have X2q0 := X2.out.cell 0 rfl
  have X2q1 := X2.out.cell 1 rfl
  have X3q0 := X3.out.cell 0 rfl
  have X3q1 := X3.out.cell 1 rfl
  obtain ⟨V4, hV4, Y4, b4, Z4⟩ := box_one w1 [.int .i64 a.v, .slice aa a.l.length ca, .int .i64 b.v, .slice ab b.l.length cb] 24
  obtain ⟨c4, hc4⟩ : ∃ c, c = w1.heap.size := ⟨_, rfl⟩
  rw [← hc4] at Y4
  replace HB := hidD (below_on HB.out HBZ.out b4)
  replace HBZ := hidD (Nat.le_trans HBZ.out b4.size)
  replace HS := hidD (HS.out.below b4)
  replace HA := hidD (HA.out.below b4)
  replace HD := hidD (HD.out.below b4)
  replace X1 := hidD (X1.out.below b4)
  replace X2 := hidD (X2.out.below b4)
  replace X3 := hidD (X3.out.below b4)
  have R4 := hidD Y4
  clear b4 Y4 Z4
  have cc := CAA.out _ (.slice (some ⟨c4, 0, none⟩) 2 2) s [a, b] V4 HS.out (ss_two (s := a) (t := b) R4.out HA.out HD.out)
  rw [hE1.out, hR1.out, hN1.out] at cc
  go_wp2_with fail
  rw [← hc4, ← hV4]
  clear hc4 hV4
  refine cc.mono ?_
  rintro e w2 ⟨x2, rfl, d2, o2⟩
  obtain ⟨ax2, cx2, rfl, _⟩ := id (OB.ts o2)
  have OX := hidD (OB.ts o2)
  clear R4
  replace HB := hidD (below_on HB.out HBZ.out d2)
  replace HBZ := hidD (Nat.le_trans HBZ.out d2.size)
  replace HS := hidD (HS.out.below d2)
  replace HA := hidD (HA.out.below d2)
  replace HD := hidD (HD.out.below d2)
  replace X1 := hidD (X1.out.below d2)
  replace X2 := hidD (X2.out.below d2)
  replace X3 := hidD (X3.out.below d2)
  clear cc d2 o2
  clear X1q0 X1q1
  clear X2q0 X2q1
  clear X3q0 X3q1
  obtain ⟨V5, hV5, Y5, b5, Z5⟩ := box_one w2 [.int .i64 Xs.v, .slice ax2 Xs.l.length cx2] 24
  obtain ⟨c5, hc5⟩ : ∃ c, c = w2.heap.size := ⟨_, rfl⟩
  rw [← hc5] at Y5
  replace HB := hidD (below_on HB.out HBZ.out b5)
  replace HBZ := hidD (Nat.le_trans HBZ.out b5.size)
  replace HS := hidD (HS.out.below b5)
  replace HA := hidD (HA.out.below b5)
  replace HD := hidD (HD.out.below b5)
  replace X1 := hidD (X1.out.below b5)
  replace X2 := hidD (X2.out.below b5)
  replace X3 := hidD (X3.out.below b5)
  replace OX := hidD (OX.out.below b5)
  have X4 := hidD Y5
  clear b5 Y5 Z5
  go_upto_region 4 with fail
  rw [← hc5, ← hV5]
  clear hc5 hV5
  have X1q0 := X1.out.cell 0 rfl
  have X1q1 := X1.out.cell 1 rfl
  have X2q0 := X2.out.cell 0 rfl
  have X2q1 := X2.out.cell 1 rfl
  have X3q0 := X3.out.cell 0 rfl
  have X3q1 := X3.out.cell 1 rfl
  obtain ⟨V6, hV6, Y6, b6, Z6⟩ := box_one V5 [.int .i64 b.v, .slice ab b.l.length cb, .int .i64 a.v, .slice aa a.l.length ca] 24
  obtain ⟨c6, hc6⟩ : ∃ c, c = V5.heap.size := ⟨_, rfl⟩
  rw [← hc6] at Y6
  replace HB := hidD (below_on HB.out HBZ.out b6)
  replace HBZ := hidD (Nat.le_trans HBZ.out b6.size)
  replace HS := hidD (HS.out.below b6)
  replace HA := hidD (HA.out.below b6)
  replace HD := hidD (HD.out.below b6)
  replace X1 := hidD (X1.out.below b6)
  replace X2 := hidD (X2.out.below b6)
  replace X3 := hidD (X3.out.below b6)
  replace OX := hidD (OX.out.below b6)
  replace X4 := hidD (X4.out.below b6)
  have R6 := hidD Y6
  clear b6 Y6 Z6
  have cc := CAA.out _ (.slice (some ⟨c6, 0, none⟩) 2 2) s [b, a] V6 HS.out (ss_two (s := b) (t := a) R6.out HD.out HA.out)
  rw [hE2.out, hR2.out, hN2.out] at cc
  go_wp2_with fail
  rw [← hc6, ← hV6]
  clear hc6 hV6
  refine cc.mono ?_
  rintro e w3 ⟨x3, rfl, d3, o3⟩
  obtain ⟨ax3, cx3, rfl, _⟩ := id (OB.ts o3)
  have OY := hidD (OB.ts o3)
  clear R6
  replace HB := hidD (below_on HB.out HBZ.out d3)
  replace HBZ := hidD (Nat.le_trans HBZ.out d3.size)
  replace HS := hidD (HS.out.below d3)
  replace HA := hidD (HA.out.below d3)
  replace HD := hidD (HD.out.below d3)
  replace X1 := hidD (X1.out.below d3)
  replace X2 := hidD (X2.out.below d3)
  replace X3 := hidD (X3.out.below d3)
  replace OX := hidD (OX.out.below d3)
  replace X4 := hidD (X4.out.below d3)
  clear cc d3 o3
  clear X1q0 X1q1
  clear X2q0 X2q1
  clear X3q0 X3q1
  obtain ⟨V7, hV7, Y7, b7, Z7⟩ := box_one w3 [.int .i64 Ys.v, .slice ax3 Ys.l.length cx3] 24
  obtain ⟨c7, hc7⟩ : ∃ c, c = w3.heap.size := ⟨_, rfl⟩
  rw [← hc7] at Y7
  replace HB := hidD (below_on HB.out HBZ.out b7)
  replace HBZ := hidD (Nat.le_trans HBZ.out b7.size)
  replace HS := hidD (HS.out.below b7)
  replace HA := hidD (HA.out.below b7)
  replace HD := hidD (HD.out.below b7)
  replace X1 := hidD (X1.out.below b7)
  replace X2 := hidD (X2.out.below b7)
  replace X3 := hidD (X3.out.below b7)
  replace OX := hidD (OX.out.below b7)
  replace X4 := hidD (X4.out.below b7)
  replace OY := hidD (OY.out.below b7)
  have X5 := hidD Y7
  clear b7 Y7 Z7
  go_upto_region 5 with fail
  rw [← hc7, ← hV7]
  clear hc7 hV7
  by_cases hE : E1 = 0
  case neg =>
    obtain ⟨e2, f1, f2⟩ := QQ.out hE
    have hd1 : (E1 != 0) = true := by simpa using hE
    have hd2 : (E2 != 0) = true := by simpa using e2
    have g1 := X4.out.cell 1 rfl
    have g2 := X5.out.cell 1 rfl
    rw [f1] at g1
    rw [f2] at g2
    clear PP QQ hE e2 f1 f2
    go_wp2_with (first | (go_at_call 21; refine (num_any _ _).mono ?_; rintro e ww ⟨rfl, rfl⟩))
    go_ret
    exact ⟨by first | rfl | simp, HB.out⟩
  subst hE
  obtain ⟨e2, e3, n3, r3, hsw⟩ := PP.out rfl
  subst e2 e3 n3 r3
  clear PP QQ
  replace hsw := hidD hsw
  have X2q0 := X2.out.cell 0 rfl
  have X2q1 := X2.out.cell 1 rfl
  have X3q0 := X3.out.cell 0 rfl
  have X3q1 := X3.out.cell 1 rfl
  have X4q0 := X4.out.cell 0 rfl
  have X4q1 := X4.out.cell 1 rfl
  obtain ⟨V8, hV8, Y8, b8, Z8⟩ := box_one V7 [.int .i64 a.v, .slice aa a.l.length ca, .int .i64 b.v, .slice ab b.l.length cb] 24
  obtain ⟨c8, hc8⟩ : ∃ c, c = V7.heap.size := ⟨_, rfl⟩
  rw [← hc8] at Y8
  replace HB := hidD (below_on HB.out HBZ.out b8)
  replace HBZ := hidD (Nat.le_trans HBZ.out b8.size)
  replace HS := hidD (HS.out.below b8)
  replace HA := hidD (HA.out.below b8)
  replace HD := hidD (HD.out.below b8)
  replace X1 := hidD (X1.out.below b8)
  replace X2 := hidD (X2.out.below b8)
  replace X3 := hidD (X3.out.below b8)
  replace OX := hidD (OX.out.below b8)
  replace X4 := hidD (X4.out.below b8)
  replace OY := hidD (OY.out.below b8)
  replace X5 := hidD (X5.out.below b8)
  have R8 := hidD Y8
  clear b8 Y8 Z8
  have cc := CAA.out _ (.slice (some ⟨c8, 0, none⟩) 2 2) Zs [a, b] V8 OX.out (ss_two (s := a) (t := b) R8.out HA.out HD.out)
  rw [hE3.out, hR3.out, hN3.out] at cc
  go_wp2_with (first | (go_at_call 21; refine (num_any _ _).mono ?_; rintro e ww ⟨rfl, rfl⟩))
  rw [← hc8, ← hV8]
  clear hc8 hV8
  refine cc.mono ?_
  rintro e w4 ⟨x4, rfl, d4, o4⟩
  obtain ⟨ax4, cx4, rfl, _⟩ := id (OB.ts o4)
  have OZ := hidD (OB.ts o4)
  clear R8
  replace HB := hidD (below_on HB.out HBZ.out d4)
  replace HBZ := hidD (Nat.le_trans HBZ.out d4.size)
  replace HS := hidD (HS.out.below d4)
  replace HA := hidD (HA.out.below d4)
  replace HD := hidD (HD.out.below d4)
  replace X1 := hidD (X1.out.below d4)
  replace X2 := hidD (X2.out.below d4)
  replace X3 := hidD (X3.out.below d4)
  replace OX := hidD (OX.out.below d4)
  replace X4 := hidD (X4.out.below d4)
  replace OY := hidD (OY.out.below d4)
  replace X5 := hidD (X5.out.below d4)
  clear cc d4 o4
  clear X2q0 X2q1
  clear X3q0 X3q1
  clear X4q0 X4q1
  obtain ⟨V9, hV9, Y9, b9, Z9⟩ := box_one w4 [.int .i64 Zs.v, .slice ax4 Zs.l.length cx4] 24
  obtain ⟨c9, hc9⟩ : ∃ c, c = w4.heap.size := ⟨_, rfl⟩
  rw [← hc9] at Y9
  replace HB := hidD (below_on HB.out HBZ.out b9)
  replace HBZ := hidD (Nat.le_trans HBZ.out b9.size)
  replace HS := hidD (HS.out.below b9)
  replace HA := hidD (HA.out.below b9)
  replace HD := hidD (HD.out.below b9)
  replace X1 := hidD (X1.out.below b9)
  replace X2 := hidD (X2.out.below b9)
  replace X3 := hidD (X3.out.below b9)
  replace OX := hidD (OX.out.below b9)
  replace X4 := hidD (X4.out.below b9)
  replace OY := hidD (OY.out.below b9)
  replace X5 := hidD (X5.out.below b9)
  replace OZ := hidD (OZ.out.below b9)
  have X6 := hidD Y9
  clear b9 Y9 Z9
  go_upto_region 8 with fail
  rw [← hc9, ← hV9]
  clear hc9 hV9
  have X2q0 := X2.out.cell 0 rfl
  have X3q0 := X3.out.cell 0 rfl
  have X4q0 := X4.out.cell 0 rfl
  have X4q1 := X4.out.cell 1 rfl
  have X5q0 := X5.out.cell 0 rfl
  have X5q1 := X5.out.cell 1 rfl
  have X6q0 := X6.out.cell 0 rfl
  have X6q1 := X6.out.cell 1 rfl
  have cS := rsameS_any (.slice ax4 Zs.l.length cx4) (.slice ax2 Zs.l.length cx2) Zs.v Zs.l V9 OZ.out OX.out
  by_cases hv : a.v = b.v
  · have hv2 : (a.v == b.v) = true := by simpa using hv
    go_wp2_with (first | (go_at_call 21; refine (num_any _ _).mono ?_; rintro e ww ⟨rfl, rfl⟩))
    with_reducible refine cS.mono ?_
    rintro e w5 ⟨rfl, b5⟩
    replace HB := hidD (below_on HB.out HBZ.out b5)
    have X2r0 := (hidD (X2.out.below b5)).out.cell 0 rfl
    have X3r0 := (hidD (X3.out.below b5)).out.cell 0 rfl
    clear cS b5 X2q0 X3q0 X4q0 X4q1 X5q0 X5q1 X6q0 X6q1
    go_wp2_with fail
    go_ret
    exact ⟨by first | rfl | simp, HB.out⟩
  · have hv2 : (a.v == b.v) = false := by simpa using hv
    have hYX := hsw.out hv
    subst hYX
    go_wp2_with (first | (go_at_call 21; refine (num_any _ _).mono ?_; rintro e ww ⟨rfl, rfl⟩))
    with_reducible refine cS.mono ?_
    rintro e w5 ⟨rfl, b5⟩
    replace HB := hidD (below_on HB.out HBZ.out b5)
    replace HBZ := hidD (Nat.le_trans HBZ.out b5.size)
    replace X2 := hidD (X2.out.below b5)
    replace X3 := hidD (X3.out.below b5)
    replace X4 := hidD (X4.out.below b5)
    replace X5 := hidD (X5.out.below b5)
    have cT := rsameS_any (.slice ax2 Ys.l.length cx2) (.slice ax3 Ys.l.length cx3) Ys.v Ys.l w5 (OX.out.below b5) (OY.out.below b5)
    clear cS b5 X2q0 X3q0 X4q0 X4q1 X5q0 X5q1 X6q0 X6q1
    have X2q0 := X2.out.cell 0 rfl
    have X3q0 := X3.out.cell 0 rfl
    have X4q0 := X4.out.cell 0 rfl
    have X4q1 := X4.out.cell 1 rfl
    have X5q0 := X5.out.cell 0 rfl
    have X5q1 := X5.out.cell 1 rfl
    go_wp2_with fail
    with_reducible refine cT.mono ?_
    rintro e w6 ⟨rfl, b6⟩
    replace HB := hidD (below_on HB.out HBZ.out b6)
    clear cT b6
    go_wp2_with fail
    go_ret
    exact ⟨by first | rfl | simp, HB.out⟩
end Go.Proofs.Ytcjopphefmogiaa
