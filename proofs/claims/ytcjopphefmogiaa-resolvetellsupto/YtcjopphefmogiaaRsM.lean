/- resolve: ResolveTells over contracts. -/
import Derived.Test.YtcjopphefmogiaaRsL
import Derived.Deep.RegionHeld
namespace Go.Proofs.Ytcjopphefmogiaa
open Go.RowKit
set_option linter.unusedVariables false
set_option maxRecDepth 20000

def RPikN (N : Nat) : Prop := ∀ (r u : Value) (s : Rv.S) (ids : List Int) (w : World), BS w r s.l → Seg .i64 w u ids → ids.length ≤ N → (∀ i ∈ ids, (Lit.int .i64 i).wf = true) → Calls Try.prog 16 #[vS r s.v, u] w fun e w' => ∃ x, e = .returned (.tuple #[x, .int .i64 (Rv.pickE s ids)]) ∧ Below w.heap.size w w' ∧ OB w' w.heap.size x (Rv.pick s ids)
theorem cellB {W W' : World} {p : Addr} {v : Value} (h : W.cell? p = some v) (hb : Below W.heap.size W W') : W'.cell? p = some v := (hb.cell (World.block_lt_of_cell? W _ h)).trans h
/-- What the last region keeps. -/
def KpR (c1 c4 B M : Nat) (w V : World) (x1 x4 : List Value) (W : World) : Prop := Bo W c1 x1 SN ∧ Bo W c4 x4 SN ∧ Below B w W ∧ B ≤ W.heap.size ∧ Below M V W ∧ M ≤ W.heap.size
theorem KpR.next {c1 c4 B M : Nat} {w V W W' : World} {x1 x4 : List Value} (h : KpR c1 c4 B M w V x1 x4 W) (hb : Below W.heap.size W W') : KpR c1 c4 B M w V x1 x4 W' :=
  ⟨h.1.below hb, h.2.1.below hb, below_on h.2.2.1 h.2.2.2.1 hb, Nat.le_trans h.2.2.2.1 hb.size, below_on h.2.2.2.2.1 h.2.2.2.2.2 hb, Nat.le_trans h.2.2.2.2.2 hb.size⟩
abbrev KcR (c1 c4 B M : Nat) (w V : World) (a0 a1 i0 i1 : Value) (W : World) : Prop := W.cell? ⟨c1, 0, none⟩ = some a0 ∧ W.cell? ⟨c1, 1, none⟩ = some a1 ∧ W.cell? ⟨c4, 0, none⟩ = some i0 ∧ W.cell? ⟨c4, 1, none⟩ = some i1 ∧ KpR c1 c4 B M w V [a0, a1] [i0, i1] W
theorem keepR {c1 c4 B M : Nat} {w V W W' : World} {a0 a1 i0 i1 : Value} (h : KcR c1 c4 B M w V a0 a1 i0 i1 W) (hb : Below W.heap.size W W') : KcR c1 c4 B M w V a0 a1 i0 i1 W' :=
  ⟨cellB h.1 hb, cellB h.2.1 hb, cellB h.2.2.1 hb, cellB h.2.2.2.1 hb, h.2.2.2.2.next hb⟩
theorem keepRv {c1 c4 B M : Nat} {w V W : World} {a0 a1 i0 i1 : Value} (h : KcR c1 c4 B M w V a0 a1 i0 i1 W) : Below M V W := h.2.2.2.2.2.2.2.2.1
theorem keepRw {c1 c4 B M : Nat} {w V W : World} {a0 a1 i0 i1 : Value} (h : KcR c1 c4 B M w V a0 a1 i0 i1 W) : Below B w W := h.2.2.2.2.2.2.1
theorem keepRd {c1 c4 B M : Nat} {w V W : World} {a0 a1 i0 i1 : Value} (h : KpR c1 c4 B M w V [a0, a1] [i0, i1] W) : KcR c1 c4 B M w V a0 a1 i0 i1 W.drew :=
  ⟨h.1.cell 0 rfl, h.1.cell 1 rfl, h.2.1.cell 0 rfl, h.2.1.cell 1 rfl, h.1, h.2.1, belowD_drew h.2.2.1, h.2.2.2.1, belowD_drew h.2.2.2.2.1, h.2.2.2.2.2⟩

set_option maxHeartbeats 32000000 in
theorem tells_walk (N : Nat) (hN : N ≤ 8796093022208) (AL : RAlive) (CC : RChk) (CA : RApp) (CI : RIds) (CD : RDif) (CP : RPikN N) (CW : RSum) (ra rb rc vi : Value) (a b c : Rv.S) (ids : List Int) (w : World) (ha : BS w ra a.l) (hb : BS w rb b.l) (hc : BS w rc c.l) (hi : Seg .i64 w vi ids) (za : a.l.length ≤ 8796093022208) (zi : ids.length ≤ N) (hw : ∀ i ∈ ids, (Lit.int .i64 i).wf = true) :
    Calls Try.prog 3 #[vS ra a.v, vS rb b.v, vS rc c.v, vi] w fun e w' => e = .returned (.bool true) ∧ Below w.heap.size w w' := by
  have HA := hidD ha
  have HS := hidD hb
  have HC := hidD hc
  have HI := hidD hi
  obtain ⟨B, hB⟩ : ∃ B, B = w.heap.size := ⟨_, rfl⟩
  have HB : Hid (Below B w w) := hidD (by rw [hB]; exact Below.refl _ _)
  have HBZ : Hid (B ≤ w.heap.size) := hidD (by omega)
  have AL' := hidD AL
  have CC' := hidD CC
  have CA' := hidD CA
  have CI' := hidD CI
  have CD' := hidD CD
  have CP' := hidD (fun r u w h1 h2 => CP r u a ids w h1 h2 zi hw)
  have RP' := hidD (fun r u w h1 h2 => rpick_any r u a ids w h1 h2 (Nat.le_trans zi hN))
  have CW' := hidD CW
  obtain ⟨aa, ca, rfl, _⟩ := id ha
  obtain ⟨ab, cb, rfl, _⟩ := id hb
  obtain ⟨ac, cc0, rfl, _⟩ := id hc
  clear ha hb hc hi AL CC CA CI CD CP CW zi hw
  obtain ⟨V1, hV1, Y1, b1, Z1⟩ := box_one w [.int .i64 a.v, .slice aa a.l.length ca] 24
  obtain ⟨c1, hc1⟩ : ∃ c, c = w.heap.size := ⟨_, rfl⟩
  rw [← hc1] at Y1
  replace HB := hidD (below_on HB.out HBZ.out b1)
  replace HBZ := hidD (Nat.le_trans HBZ.out b1.size)
  replace HA := hidD (HA.out.below b1)
  replace HS := hidD (HS.out.below b1)
  replace HC := hidD (HC.out.below b1)
  replace HI := hidD (HI.out.below b1)
  have X1 := hidD Y1
  clear b1 Y1 Z1
  obtain ⟨V2, hV2, Y2, b2, Z2⟩ := box_one V1 [.int .i64 b.v, .slice ab b.l.length cb] 24
  obtain ⟨c2, hc2⟩ : ∃ c, c = V1.heap.size := ⟨_, rfl⟩
  rw [← hc2] at Y2
  replace HB := hidD (below_on HB.out HBZ.out b2)
  replace HBZ := hidD (Nat.le_trans HBZ.out b2.size)
  replace HA := hidD (HA.out.below b2)
  replace HS := hidD (HS.out.below b2)
  replace HC := hidD (HC.out.below b2)
  replace HI := hidD (HI.out.below b2)
  replace X1 := hidD (X1.out.below b2)
  have X2 := hidD Y2
  clear b2 Y2 Z2
  obtain ⟨V3, hV3, Y3, b3, Z3⟩ := box_one V2 [.int .i64 c.v, .slice ac c.l.length cc0] 24
  obtain ⟨c3, hc3⟩ : ∃ c, c = V2.heap.size := ⟨_, rfl⟩
  rw [← hc3] at Y3
  replace HB := hidD (below_on HB.out HBZ.out b3)
  replace HBZ := hidD (Nat.le_trans HBZ.out b3.size)
  replace HA := hidD (HA.out.below b3)
  replace HS := hidD (HS.out.below b3)
  replace HC := hidD (HC.out.below b3)
  replace HI := hidD (HI.out.below b3)
  replace X1 := hidD (X1.out.below b3)
  replace X2 := hidD (X2.out.below b3)
  have X3 := hidD Y3
  clear b3 Y3 Z3
  have e12 : c1 = B ∧ c2 = B + 1 ∧ c3 = B + 1 + 1 := by rw [hc1, hc2, hc3, hV2, hV1, hB]; simp
  obtain ⟨e1, e2, e3⟩ := e12
  rw [e1] at X1
  rw [e2] at X2
  rw [e3] at X3
  clear hc2 hc3 hc1 e1 e2 e3
  have cal := rownS_any (.slice aa a.l.length ca) a V3 HA.out za
  rw [← hB]
  go_enter Try.func3, Try.ntmps3
  go_upto_region 1 with fail
  rw [← hB, ← hV1, ← hV2, ← hV3]
  clear hB hV1 hV2 hV3
  have X1q0 := X1.out.cell 0 rfl
  have X1q1 := X1.out.cell 1 rfl
  go_wp2_with fail
  refine cal.mono ?_
  rintro e w1 ⟨ri, rfl, d1, o1⟩
  obtain ⟨ai, ci, rfl, _⟩ := id (OB.ts o1)
  clear X1q0 X1q1
  clear cal
  replace HB := hidD (below_on HB.out HBZ.out d1)
  replace HBZ := hidD (Nat.le_trans HBZ.out d1.size)
  replace HA := hidD (HA.out.below d1)
  replace HS := hidD (HS.out.below d1)
  replace HC := hidD (HC.out.below d1)
  replace HI := hidD (HI.out.below d1)
  replace X1 := hidD (X1.out.below d1)
  replace X2 := hidD (X2.out.below d1)
  replace X3 := hidD (X3.out.below d1)
  have HO := hidD (OB.ts o1)
  clear d1 o1
  obtain ⟨V4, hV4, Y4, b4, Z4⟩ := box_one w1 [.int .i64 a.v, .slice ai a.l.length ci] 24
  obtain ⟨c4, hc4⟩ : ∃ c, c = w1.heap.size := ⟨_, rfl⟩
  rw [← hc4] at Y4
  replace HB := hidD (below_on HB.out HBZ.out b4)
  replace HBZ := hidD (Nat.le_trans HBZ.out b4.size)
  replace HA := hidD (HA.out.below b4)
  replace HS := hidD (HS.out.below b4)
  replace HC := hidD (HC.out.below b4)
  replace HI := hidD (HI.out.below b4)
  replace X1 := hidD (X1.out.below b4)
  replace X2 := hidD (X2.out.below b4)
  replace X3 := hidD (X3.out.below b4)
  replace HO := hidD (HO.out.below b4)
  have X4 := hidD Y4
  clear b4 Y4 Z4
  go_upto_region 2 with fail
  rw [← hc4, ← hV4]
  clear hc4 hV4
  have HCA := hidD (fun (r u : Value) (W : World) h1 h2 => CA'.out r u a [b, c] W h1 h2)
  have HRA := hidD (fun (r u : Value) (W : World) h1 h2 => rapply_any r u a [b, c] W h1 h2)
  have HCI := hidD (fun (r : Value) (W : World) h1 => CI'.out r a W h1)
  have HRI := hidD (fun (r : Value) (W : World) h1 => rids_any r a W h1)
  have HCD := hidD (fun (r u : Value) (W : World) h1 h2 => CD'.out r u a b W h1 h2)
  have HRD := hidD (fun (r u : Value) (W : World) h1 h2 => rdiff_any r u a b W h1 h2)
  have HCW := hidD (fun (r : Value) (W : World) h1 => CW'.out r a W h1)
  have HRW := hidD (fun (r : Value) (W : World) h1 => rsum_any r a W h1)
  have HCC := hidD (fun (r : Value) (W : World) h1 => CC'.out r a W h1)
  have HRC := hidD (fun (r : Value) (W : World) h1 => rchk_any r a W h1)
  generalize Rv.applyE a [b, c] = EE at *
  generalize Rv.applyS a [b, c] = XX at *
  generalize Rv.applyN a [b, c] = NN at *
  generalize Rv.idsR a = rI at *
  generalize Rv.difM a b = rM at *
  generalize Rv.difG a b = rG at *
  generalize Rv.difO a b = rO at *
  generalize Rv.diffE a b = eD at *
  generalize Rv.sumR a = rS at *
  generalize Rv.chk a = ck at *
  generalize Rv.pickE a ids = eP at *
  generalize Rv.pick a ids = rP at *
  clear CA' CI' CD' CW' CC' 
  obtain ⟨V5, hV5, R5, b5, Z5⟩ := box_one V4 [.int .i64 b.v, .slice ab b.l.length cb, .int .i64 c.v, .slice ac c.l.length cc0] 24
  obtain ⟨c5, hc5⟩ : ∃ c, c = V4.heap.size := ⟨_, rfl⟩
  rw [← hc5] at R5
  have X4q0 := X4.out.cell 0 rfl
  have X4q1 := X4.out.cell 1 rfl
  have X2q0 := X2.out.cell 0 rfl
  have X2q1 := X2.out.cell 1 rfl
  have X3q0 := X3.out.cell 0 rfl
  have X3q1 := X3.out.cell 1 rfl
  replace HB := hidD (below_on HB.out HBZ.out b5)
  replace HBZ := hidD (Nat.le_trans HBZ.out b5.size)
  replace HA := hidD (HA.out.below b5)
  replace HS := hidD (HS.out.below b5)
  replace HC := hidD (HC.out.below b5)
  replace HI := hidD (HI.out.below b5)
  replace X1 := hidD (X1.out.below b5)
  replace X2 := hidD (X2.out.below b5)
  replace X3 := hidD (X3.out.below b5)
  replace HO := hidD (HO.out.below b5)
  replace X4 := hidD (X4.out.below b5)
  have cc := HCA.out (.slice ai a.l.length ci) (.slice (some ⟨c5, 0, none⟩) 2 2) V5 HO.out (ss_two (s := b) (t := c) R5 HS.out HC.out)
  clear b5 Z5 R5
  go_wp2_with fail
  rw [← hc5, ← hV5]
  clear hc5 hV5
  refine cc.mono ?_
  rintro e w5 ⟨x5, rfl, d5, o5⟩
  obtain ⟨ax5, cx5, rfl, _⟩ := id (OB.ts o5)
  clear cc
  clear X4q0 X4q1 X2q0 X2q1 X3q0 X3q1
  replace HB := hidD (below_on HB.out HBZ.out d5)
  replace HBZ := hidD (Nat.le_trans HBZ.out d5.size)
  replace HA := hidD (HA.out.below d5)
  replace HS := hidD (HS.out.below d5)
  replace HC := hidD (HC.out.below d5)
  replace HI := hidD (HI.out.below d5)
  replace X1 := hidD (X1.out.below d5)
  replace X2 := hidD (X2.out.below d5)
  replace X3 := hidD (X3.out.below d5)
  replace HO := hidD (HO.out.below d5)
  replace X4 := hidD (X4.out.below d5)
  have O5 := hidD (OB.ts o5)
  clear d5 o5
  obtain ⟨V6, hV6, Y6, b6, Z6⟩ := box_one w5 [.int .i64 XX.v, .slice ax5 XX.l.length cx5] 24
  obtain ⟨c6, hc6⟩ : ∃ c, c = w5.heap.size := ⟨_, rfl⟩
  rw [← hc6] at Y6
  replace HB := hidD (below_on HB.out HBZ.out b6)
  replace HBZ := hidD (Nat.le_trans HBZ.out b6.size)
  replace HA := hidD (HA.out.below b6)
  replace HS := hidD (HS.out.below b6)
  replace HC := hidD (HC.out.below b6)
  replace HI := hidD (HI.out.below b6)
  replace X1 := hidD (X1.out.below b6)
  replace X2 := hidD (X2.out.below b6)
  replace X3 := hidD (X3.out.below b6)
  replace HO := hidD (HO.out.below b6)
  replace X4 := hidD (X4.out.below b6)
  replace O5 := hidD (O5.out.below b6)
  have X5 := hidD Y6
  clear b6 Y6 Z6
  go_upto_region 3 with fail
  rw [← hc6, ← hV6]
  clear hc6 hV6
  obtain ⟨V7, hV7, R7, b7, Z7⟩ := box_one V6 [.int .i64 b.v, .slice ab b.l.length cb, .int .i64 c.v, .slice ac c.l.length cc0] 24
  obtain ⟨c7, hc7⟩ : ∃ c, c = V6.heap.size := ⟨_, rfl⟩
  rw [← hc7] at R7
  have X1q0 := X1.out.cell 0 rfl
  have X1q1 := X1.out.cell 1 rfl
  have X2q0 := X2.out.cell 0 rfl
  have X2q1 := X2.out.cell 1 rfl
  have X3q0 := X3.out.cell 0 rfl
  have X3q1 := X3.out.cell 1 rfl
  replace HB := hidD (below_on HB.out HBZ.out b7)
  replace HBZ := hidD (Nat.le_trans HBZ.out b7.size)
  replace HA := hidD (HA.out.below b7)
  replace HS := hidD (HS.out.below b7)
  replace HC := hidD (HC.out.below b7)
  replace HI := hidD (HI.out.below b7)
  replace X1 := hidD (X1.out.below b7)
  replace X2 := hidD (X2.out.below b7)
  replace X3 := hidD (X3.out.below b7)
  replace HO := hidD (HO.out.below b7)
  replace X4 := hidD (X4.out.below b7)
  replace O5 := hidD (O5.out.below b7)
  replace X5 := hidD (X5.out.below b7)
  have cc := HRA.out (.slice aa a.l.length ca) (.slice (some ⟨c7, 0, none⟩) 2 2) V7 HA.out (ss_two (s := b) (t := c) R7 HS.out HC.out)
  clear b7 Z7 R7
  go_wp2_with fail
  rw [← hc7, ← hV7]
  clear hc7 hV7
  refine cc.mono ?_
  rintro e w7 ⟨x7, rfl, d7, o7⟩
  obtain ⟨ax7, cx7, rfl, _⟩ := id (OB.ts o7)
  clear cc
  clear X1q0 X1q1 X2q0 X2q1 X3q0 X3q1
  replace HB := hidD (below_on HB.out HBZ.out d7)
  replace HBZ := hidD (Nat.le_trans HBZ.out d7.size)
  replace HA := hidD (HA.out.below d7)
  replace HS := hidD (HS.out.below d7)
  replace HC := hidD (HC.out.below d7)
  replace HI := hidD (HI.out.below d7)
  replace X1 := hidD (X1.out.below d7)
  replace X2 := hidD (X2.out.below d7)
  replace X3 := hidD (X3.out.below d7)
  replace HO := hidD (HO.out.below d7)
  replace X4 := hidD (X4.out.below d7)
  replace O5 := hidD (O5.out.below d7)
  replace X5 := hidD (X5.out.below d7)
  have O7 := hidD (OB.ts o7)
  clear d7 o7
  obtain ⟨V8, hV8, Y8, b8, Z8⟩ := box_one w7 [.int .i64 XX.v, .slice ax7 XX.l.length cx7] 24
  obtain ⟨c8, hc8⟩ : ∃ c, c = w7.heap.size := ⟨_, rfl⟩
  rw [← hc8] at Y8
  replace HB := hidD (below_on HB.out HBZ.out b8)
  replace HBZ := hidD (Nat.le_trans HBZ.out b8.size)
  replace HA := hidD (HA.out.below b8)
  replace HS := hidD (HS.out.below b8)
  replace HC := hidD (HC.out.below b8)
  replace HI := hidD (HI.out.below b8)
  replace X1 := hidD (X1.out.below b8)
  replace X2 := hidD (X2.out.below b8)
  replace X3 := hidD (X3.out.below b8)
  replace HO := hidD (HO.out.below b8)
  replace X4 := hidD (X4.out.below b8)
  replace O5 := hidD (O5.out.below b8)
  replace X5 := hidD (X5.out.below b8)
  replace O7 := hidD (O7.out.below b8)
  have X6 := hidD Y8
  clear b8 Y8 Z8
  go_upto_region 4 with fail
  rw [← hc8, ← hV8]
  clear hc8 hV8
  have X4q0 := X4.out.cell 0 rfl
  have X4q1 := X4.out.cell 1 rfl
  have cc := HCI.out (.slice ai a.l.length ci) _ HO.out
  go_wp2_with fail
  refine cc.mono ?_
  rintro e w9 ⟨u9, rfl, d9, o9⟩
  clear cc
  clear X4q0 X4q1
  replace HB := hidD (below_on HB.out HBZ.out d9)
  replace HBZ := hidD (Nat.le_trans HBZ.out d9.size)
  replace HA := hidD (HA.out.below d9)
  replace HS := hidD (HS.out.below d9)
  replace HC := hidD (HC.out.below d9)
  replace HI := hidD (HI.out.below d9)
  replace X1 := hidD (X1.out.below d9)
  replace X2 := hidD (X2.out.below d9)
  replace X3 := hidD (X3.out.below d9)
  replace HO := hidD (HO.out.below d9)
  replace X4 := hidD (X4.out.below d9)
  replace O5 := hidD (O5.out.below d9)
  replace X5 := hidD (X5.out.below d9)
  replace O7 := hidD (O7.out.below d9)
  replace X6 := hidD (X6.out.below d9)
  have O9 := hidD (Seg.own o9)
  clear d9 o9
  go_upto_region 5 with fail
  have X1q0 := X1.out.cell 0 rfl
  have X1q1 := X1.out.cell 1 rfl
  have cc := HRI.out (.slice aa a.l.length ca) _ HA.out
  go_wp2_with fail
  refine cc.mono ?_
  rintro e w10 ⟨u10, rfl, d10, o10⟩
  clear cc
  clear X1q0 X1q1
  replace HB := hidD (below_on HB.out HBZ.out d10)
  replace HBZ := hidD (Nat.le_trans HBZ.out d10.size)
  replace HA := hidD (HA.out.below d10)
  replace HS := hidD (HS.out.below d10)
  replace HC := hidD (HC.out.below d10)
  replace HI := hidD (HI.out.below d10)
  replace X1 := hidD (X1.out.below d10)
  replace X2 := hidD (X2.out.below d10)
  replace X3 := hidD (X3.out.below d10)
  replace HO := hidD (HO.out.below d10)
  replace X4 := hidD (X4.out.below d10)
  replace O5 := hidD (O5.out.below d10)
  replace X5 := hidD (X5.out.below d10)
  replace O7 := hidD (O7.out.below d10)
  replace X6 := hidD (X6.out.below d10)
  replace O9 := hidD (O9.out.below d10)
  have O10 := hidD (Seg.own o10)
  clear d10 o10
  go_upto_region 6 with fail
  have X4q0 := X4.out.cell 0 rfl
  have X4q1 := X4.out.cell 1 rfl
  have X2q0 := X2.out.cell 0 rfl
  have X2q1 := X2.out.cell 1 rfl
  have cc := HCD.out (.slice ai a.l.length ci) (.slice ab b.l.length cb) _ HO.out HS.out
  go_wp2_with fail
  refine cc.mono ?_
  rintro e w11 ⟨x11, y11, z11, rfl, d11, o11, p11, q11⟩
  clear cc
  clear X4q0 X4q1 X2q0 X2q1
  replace HB := hidD (below_on HB.out HBZ.out d11)
  replace HBZ := hidD (Nat.le_trans HBZ.out d11.size)
  replace HA := hidD (HA.out.below d11)
  replace HS := hidD (HS.out.below d11)
  replace HC := hidD (HC.out.below d11)
  replace HI := hidD (HI.out.below d11)
  replace X1 := hidD (X1.out.below d11)
  replace X2 := hidD (X2.out.below d11)
  replace X3 := hidD (X3.out.below d11)
  replace HO := hidD (HO.out.below d11)
  replace X4 := hidD (X4.out.below d11)
  replace O5 := hidD (O5.out.below d11)
  replace X5 := hidD (X5.out.below d11)
  replace O7 := hidD (O7.out.below d11)
  replace X6 := hidD (X6.out.below d11)
  replace O9 := hidD (O9.out.below d11)
  replace O10 := hidD (O10.out.below d11)
  have O11 := hidD (Seg.own o11)
  have P11 := hidD (Seg.own p11)
  have Q11 := hidD (Seg.own q11)
  clear d11 o11 p11 q11
  go_upto_region 7 with fail
  have X1q0 := X1.out.cell 0 rfl
  have X1q1 := X1.out.cell 1 rfl
  have X2q0 := X2.out.cell 0 rfl
  have X2q1 := X2.out.cell 1 rfl
  have cc := HRD.out (.slice aa a.l.length ca) (.slice ab b.l.length cb) _ HA.out HS.out
  go_wp2_with fail
  refine cc.mono ?_
  rintro e w12 ⟨x12, y12, z12, rfl, d12, o12, p12, q12⟩
  clear cc
  clear X1q0 X1q1 X2q0 X2q1
  replace HB := hidD (below_on HB.out HBZ.out d12)
  replace HBZ := hidD (Nat.le_trans HBZ.out d12.size)
  replace HA := hidD (HA.out.below d12)
  replace HS := hidD (HS.out.below d12)
  replace HC := hidD (HC.out.below d12)
  replace HI := hidD (HI.out.below d12)
  replace X1 := hidD (X1.out.below d12)
  replace X2 := hidD (X2.out.below d12)
  replace X3 := hidD (X3.out.below d12)
  replace HO := hidD (HO.out.below d12)
  replace X4 := hidD (X4.out.below d12)
  replace O5 := hidD (O5.out.below d12)
  replace X5 := hidD (X5.out.below d12)
  replace O7 := hidD (O7.out.below d12)
  replace X6 := hidD (X6.out.below d12)
  replace O9 := hidD (O9.out.below d12)
  replace O10 := hidD (O10.out.below d12)
  replace O11 := hidD (O11.out.below d12)
  replace P11 := hidD (P11.out.below d12)
  replace Q11 := hidD (Q11.out.below d12)
  have O12 := hidD (Seg.own o12)
  have P12 := hidD (Seg.own p12)
  have Q12 := hidD (Seg.own q12)
  clear d12 o12 p12 q12
  go_upto_region 8 with fail
  have X4q0 := X4.out.cell 0 rfl
  have X4q1 := X4.out.cell 1 rfl
  have cc := CP'.out (.slice ai a.l.length ci) vi _ HO.out HI.out
  go_wp2_with fail
  refine cc.mono ?_
  rintro e w13 ⟨x13, rfl, d13, o13⟩
  clear cc
  clear X4q0 X4q1
  replace HB := hidD (below_on HB.out HBZ.out d13)
  replace HBZ := hidD (Nat.le_trans HBZ.out d13.size)
  replace HA := hidD (HA.out.below d13)
  replace HS := hidD (HS.out.below d13)
  replace HC := hidD (HC.out.below d13)
  replace HI := hidD (HI.out.below d13)
  replace X1 := hidD (X1.out.below d13)
  replace X2 := hidD (X2.out.below d13)
  replace X3 := hidD (X3.out.below d13)
  replace HO := hidD (HO.out.below d13)
  replace X4 := hidD (X4.out.below d13)
  replace O5 := hidD (O5.out.below d13)
  replace X5 := hidD (X5.out.below d13)
  replace O7 := hidD (O7.out.below d13)
  replace X6 := hidD (X6.out.below d13)
  replace O9 := hidD (O9.out.below d13)
  replace O10 := hidD (O10.out.below d13)
  replace O11 := hidD (O11.out.below d13)
  replace P11 := hidD (P11.out.below d13)
  replace Q11 := hidD (Q11.out.below d13)
  replace O12 := hidD (O12.out.below d13)
  replace P12 := hidD (P12.out.below d13)
  replace Q12 := hidD (Q12.out.below d13)
  have O13 := hidD (OB.ts o13)
  clear d13 o13
  go_upto_region 9 with fail
  have X1q0 := X1.out.cell 0 rfl
  have X1q1 := X1.out.cell 1 rfl
  have cc := RP'.out (.slice aa a.l.length ca) vi _ HA.out HI.out
  go_wp2_with fail
  refine cc.mono ?_
  rintro e w14 ⟨x14, rfl, d14, o14⟩
  clear cc
  clear X1q0 X1q1
  replace HB := hidD (below_on HB.out HBZ.out d14)
  replace HBZ := hidD (Nat.le_trans HBZ.out d14.size)
  replace HA := hidD (HA.out.below d14)
  replace HS := hidD (HS.out.below d14)
  replace HC := hidD (HC.out.below d14)
  replace HI := hidD (HI.out.below d14)
  replace X1 := hidD (X1.out.below d14)
  replace X2 := hidD (X2.out.below d14)
  replace X3 := hidD (X3.out.below d14)
  replace HO := hidD (HO.out.below d14)
  replace X4 := hidD (X4.out.below d14)
  replace O5 := hidD (O5.out.below d14)
  replace X5 := hidD (X5.out.below d14)
  replace O7 := hidD (O7.out.below d14)
  replace X6 := hidD (X6.out.below d14)
  replace O9 := hidD (O9.out.below d14)
  replace O10 := hidD (O10.out.below d14)
  replace O11 := hidD (O11.out.below d14)
  replace P11 := hidD (P11.out.below d14)
  replace Q11 := hidD (Q11.out.below d14)
  replace O12 := hidD (O12.out.below d14)
  replace P12 := hidD (P12.out.below d14)
  replace Q12 := hidD (Q12.out.below d14)
  replace O13 := hidD (O13.out.below d14)
  have O14 := hidD (OB.ts o14)
  clear d14 o14
  go_upto_region 10 with fail
  have X4q0 := X4.out.cell 0 rfl
  have X4q1 := X4.out.cell 1 rfl
  have cc := HCW.out (.slice ai a.l.length ci) _ HO.out
  go_wp2_with fail
  refine cc.mono ?_
  rintro e w15 ⟨rfl, d15⟩
  clear cc
  clear X4q0 X4q1
  replace HB := hidD (below_on HB.out HBZ.out d15)
  replace HBZ := hidD (Nat.le_trans HBZ.out d15.size)
  replace HA := hidD (HA.out.below d15)
  replace HS := hidD (HS.out.below d15)
  replace HC := hidD (HC.out.below d15)
  replace HI := hidD (HI.out.below d15)
  replace X1 := hidD (X1.out.below d15)
  replace X2 := hidD (X2.out.below d15)
  replace X3 := hidD (X3.out.below d15)
  replace HO := hidD (HO.out.below d15)
  replace X4 := hidD (X4.out.below d15)
  replace O5 := hidD (O5.out.below d15)
  replace X5 := hidD (X5.out.below d15)
  replace O7 := hidD (O7.out.below d15)
  replace X6 := hidD (X6.out.below d15)
  replace O9 := hidD (O9.out.below d15)
  replace O10 := hidD (O10.out.below d15)
  replace O11 := hidD (O11.out.below d15)
  replace P11 := hidD (P11.out.below d15)
  replace Q11 := hidD (Q11.out.below d15)
  replace O12 := hidD (O12.out.below d15)
  replace P12 := hidD (P12.out.below d15)
  replace Q12 := hidD (Q12.out.below d15)
  replace O13 := hidD (O13.out.below d15)
  replace O14 := hidD (O14.out.below d15)
  clear d15
  go_upto_region 11 with fail
  have X1q0 := X1.out.cell 0 rfl
  have X1q1 := X1.out.cell 1 rfl
  have cc := HRW.out (.slice aa a.l.length ca) _ HA.out
  go_wp2_with fail
  refine cc.mono ?_
  rintro e w16 ⟨rfl, d16⟩
  clear cc
  clear X1q0 X1q1
  replace HB := hidD (below_on HB.out HBZ.out d16)
  replace HBZ := hidD (Nat.le_trans HBZ.out d16.size)
  replace HA := hidD (HA.out.below d16)
  replace HS := hidD (HS.out.below d16)
  replace HC := hidD (HC.out.below d16)
  replace HI := hidD (HI.out.below d16)
  replace X1 := hidD (X1.out.below d16)
  replace X2 := hidD (X2.out.below d16)
  replace X3 := hidD (X3.out.below d16)
  replace HO := hidD (HO.out.below d16)
  replace X4 := hidD (X4.out.below d16)
  replace O5 := hidD (O5.out.below d16)
  replace X5 := hidD (X5.out.below d16)
  replace O7 := hidD (O7.out.below d16)
  replace X6 := hidD (X6.out.below d16)
  replace O9 := hidD (O9.out.below d16)
  replace O10 := hidD (O10.out.below d16)
  replace O11 := hidD (O11.out.below d16)
  replace P11 := hidD (P11.out.below d16)
  replace Q11 := hidD (Q11.out.below d16)
  replace O12 := hidD (O12.out.below d16)
  replace P12 := hidD (P12.out.below d16)
  replace Q12 := hidD (Q12.out.below d16)
  replace O13 := hidD (O13.out.below d16)
  replace O14 := hidD (O14.out.below d16)
  clear d16
  go_upto_region 12 with fail
  have X5q0 := X5.out.cell 0 rfl
  have X5q1 := X5.out.cell 1 rfl
  have X6q0 := X6.out.cell 0 rfl
  have X6q1 := X6.out.cell 1 rfl
  have cc := rsameS_any (.slice ax5 XX.l.length cx5) (.slice ax7 XX.l.length cx7) XX.v XX.l w16 O5.out O7.out
  have n1 : ((NN : Int) != (NN : Int)) = false := by simp
  have n2 : (EE != EE) = false := by simp
  have n3 : (ck != ck) = false := by simp
  have n4 : (eD != eD) = false := by simp
  go_wp2_with fail
  with_reducible refine cc.mono ?_
  rintro e w17 ⟨rfl, d17⟩
  clear cc
  clear X5q0 X5q1 X6q0 X6q1
  replace HB := hidD (below_on HB.out HBZ.out d17)
  replace HBZ := hidD (Nat.le_trans HBZ.out d17.size)
  replace HA := hidD (HA.out.below d17)
  replace HS := hidD (HS.out.below d17)
  replace HC := hidD (HC.out.below d17)
  replace HI := hidD (HI.out.below d17)
  replace X1 := hidD (X1.out.below d17)
  replace X2 := hidD (X2.out.below d17)
  replace X3 := hidD (X3.out.below d17)
  replace HO := hidD (HO.out.below d17)
  replace X4 := hidD (X4.out.below d17)
  replace O5 := hidD (O5.out.below d17)
  replace X5 := hidD (X5.out.below d17)
  replace O7 := hidD (O7.out.below d17)
  replace X6 := hidD (X6.out.below d17)
  replace O9 := hidD (O9.out.below d17)
  replace O10 := hidD (O10.out.below d17)
  replace O11 := hidD (O11.out.below d17)
  replace P11 := hidD (P11.out.below d17)
  replace Q11 := hidD (Q11.out.below d17)
  replace O12 := hidD (O12.out.below d17)
  replace P12 := hidD (P12.out.below d17)
  replace Q12 := hidD (Q12.out.below d17)
  replace O13 := hidD (O13.out.below d17)
  replace O14 := hidD (O14.out.below d17)
  clear d17
  have cc := same_ints u9 u10 rI w17 O9.out O10.out
  go_wp2_with (first | (go_at_call 21; refine (num_any _ _).mono ?_; rintro e ww ⟨rfl, rfl⟩))
  with_reducible refine cc.mono ?_
  rintro e w18 ⟨rfl, d18⟩
  clear cc
  replace HB := hidD (below_on HB.out HBZ.out d18)
  replace HBZ := hidD (Nat.le_trans HBZ.out d18.size)
  replace HA := hidD (HA.out.below d18)
  replace HS := hidD (HS.out.below d18)
  replace HC := hidD (HC.out.below d18)
  replace HI := hidD (HI.out.below d18)
  replace X1 := hidD (X1.out.below d18)
  replace X2 := hidD (X2.out.below d18)
  replace X3 := hidD (X3.out.below d18)
  replace HO := hidD (HO.out.below d18)
  replace X4 := hidD (X4.out.below d18)
  replace O5 := hidD (O5.out.below d18)
  replace X5 := hidD (X5.out.below d18)
  replace O7 := hidD (O7.out.below d18)
  replace X6 := hidD (X6.out.below d18)
  replace O9 := hidD (O9.out.below d18)
  replace O10 := hidD (O10.out.below d18)
  replace O11 := hidD (O11.out.below d18)
  replace P11 := hidD (P11.out.below d18)
  replace Q11 := hidD (Q11.out.below d18)
  replace O12 := hidD (O12.out.below d18)
  replace P12 := hidD (P12.out.below d18)
  replace Q12 := hidD (Q12.out.below d18)
  replace O13 := hidD (O13.out.below d18)
  replace O14 := hidD (O14.out.below d18)
  clear d18
  have cc := same_ints x11 x12 rM w18 O11.out O12.out
  go_wp2_with (first | (go_at_call 21; refine (num_any _ _).mono ?_; rintro e ww ⟨rfl, rfl⟩))
  with_reducible refine cc.mono ?_
  rintro e w19 ⟨rfl, d19⟩
  clear cc
  replace HB := hidD (below_on HB.out HBZ.out d19)
  replace HBZ := hidD (Nat.le_trans HBZ.out d19.size)
  replace HA := hidD (HA.out.below d19)
  replace HS := hidD (HS.out.below d19)
  replace HC := hidD (HC.out.below d19)
  replace HI := hidD (HI.out.below d19)
  replace X1 := hidD (X1.out.below d19)
  replace X2 := hidD (X2.out.below d19)
  replace X3 := hidD (X3.out.below d19)
  replace HO := hidD (HO.out.below d19)
  replace X4 := hidD (X4.out.below d19)
  replace O5 := hidD (O5.out.below d19)
  replace X5 := hidD (X5.out.below d19)
  replace O7 := hidD (O7.out.below d19)
  replace X6 := hidD (X6.out.below d19)
  replace O9 := hidD (O9.out.below d19)
  replace O10 := hidD (O10.out.below d19)
  replace O11 := hidD (O11.out.below d19)
  replace P11 := hidD (P11.out.below d19)
  replace Q11 := hidD (Q11.out.below d19)
  replace O12 := hidD (O12.out.below d19)
  replace P12 := hidD (P12.out.below d19)
  replace Q12 := hidD (Q12.out.below d19)
  replace O13 := hidD (O13.out.below d19)
  replace O14 := hidD (O14.out.below d19)
  clear d19
  have cc := same_ints y11 y12 rG w19 P11.out P12.out
  go_wp2_with (first | (go_at_call 21; refine (num_any _ _).mono ?_; rintro e ww ⟨rfl, rfl⟩))
  with_reducible refine cc.mono ?_
  rintro e w20 ⟨rfl, d20⟩
  clear cc
  replace HB := hidD (below_on HB.out HBZ.out d20)
  replace HBZ := hidD (Nat.le_trans HBZ.out d20.size)
  replace HA := hidD (HA.out.below d20)
  replace HS := hidD (HS.out.below d20)
  replace HC := hidD (HC.out.below d20)
  replace HI := hidD (HI.out.below d20)
  replace X1 := hidD (X1.out.below d20)
  replace X2 := hidD (X2.out.below d20)
  replace X3 := hidD (X3.out.below d20)
  replace HO := hidD (HO.out.below d20)
  replace X4 := hidD (X4.out.below d20)
  replace O5 := hidD (O5.out.below d20)
  replace X5 := hidD (X5.out.below d20)
  replace O7 := hidD (O7.out.below d20)
  replace X6 := hidD (X6.out.below d20)
  replace O9 := hidD (O9.out.below d20)
  replace O10 := hidD (O10.out.below d20)
  replace O11 := hidD (O11.out.below d20)
  replace P11 := hidD (P11.out.below d20)
  replace Q11 := hidD (Q11.out.below d20)
  replace O12 := hidD (O12.out.below d20)
  replace P12 := hidD (P12.out.below d20)
  replace Q12 := hidD (Q12.out.below d20)
  replace O13 := hidD (O13.out.below d20)
  replace O14 := hidD (O14.out.below d20)
  clear d20
  have cc := same_ints z11 z12 rO w20 Q11.out Q12.out
  go_wp2_with (first | (go_at_call 21; refine (num_any _ _).mono ?_; rintro e ww ⟨rfl, rfl⟩))
  with_reducible refine cc.mono ?_
  rintro e w21 ⟨rfl, d21⟩
  clear cc
  replace HB := hidD (below_on HB.out HBZ.out d21)
  replace HBZ := hidD (Nat.le_trans HBZ.out d21.size)
  replace HA := hidD (HA.out.below d21)
  replace HS := hidD (HS.out.below d21)
  replace HC := hidD (HC.out.below d21)
  replace HI := hidD (HI.out.below d21)
  replace X1 := hidD (X1.out.below d21)
  replace X2 := hidD (X2.out.below d21)
  replace X3 := hidD (X3.out.below d21)
  replace HO := hidD (HO.out.below d21)
  replace X4 := hidD (X4.out.below d21)
  replace O5 := hidD (O5.out.below d21)
  replace X5 := hidD (X5.out.below d21)
  replace O7 := hidD (O7.out.below d21)
  replace X6 := hidD (X6.out.below d21)
  replace O9 := hidD (O9.out.below d21)
  replace O10 := hidD (O10.out.below d21)
  replace O11 := hidD (O11.out.below d21)
  replace P11 := hidD (P11.out.below d21)
  replace Q11 := hidD (Q11.out.below d21)
  replace O12 := hidD (O12.out.below d21)
  replace P12 := hidD (P12.out.below d21)
  replace Q12 := hidD (Q12.out.below d21)
  replace O13 := hidD (O13.out.below d21)
  replace O14 := hidD (O14.out.below d21)
  clear d21
  go_upto_region 14 with (first | (go_at_call 21; refine (num_any _ _).mono ?_; rintro e ww ⟨rfl, rfl⟩))
  clear n1 n2 n3 n4
  have HSB := hidD (fun W h => bsame_true x13 x14 rP W (O13.out.below h) (O14.out.below h))
  have HK1 := hidD (fun W h => HCC.out (.slice ai a.l.length ci) W (HO.out.below h))
  have HK2 := hidD (fun W h => HRC.out (.slice aa a.l.length ca) W (HA.out.below h))
  have HK3 := hidD (fun W h => rsameS_any (.slice ai a.l.length ci) (.slice aa a.l.length ca) a.v a.l W (HO.out.below h) (HA.out.below h))
  have HAL := hidD (fun W => AL'.out W)
  obtain ⟨M, hM⟩ : ∃ M, M = w21.heap.size := ⟨_, rfl⟩
  have HKP : Hid (KpR B c4 B M w w21 [.int .i64 a.v, .slice aa a.l.length ca] [.int .i64 a.v, .slice ai a.l.length ci] w21) := hidD ⟨X1.out, X4.out, HB.out, HBZ.out, by rw [hM]; exact Below.refl _ _, by omega⟩
  rw [← hM] at HSB HK1 HK2 HK3
  clear hM X1 X2 X3 X4 X5 X6 HA HS HC HI HO HB HBZ O5 O7 O9 O10 O11 P11 Q11 O12 P12 Q12 O13 O14 HCA HRA HCI HRI HCD HRD HCW HRW HCC HRC CP' RP' AL'
  have k1 : (eP == eP) = true := by simp
  have k2 : (rS == rS) = true := by simp
  have k3 : (ck == ck) = true := by simp
  go_region_held (KcR B c4 B M w w21 (.int .i64 a.v) (.slice aa a.l.length ca) (.int .i64 a.v) (.slice ai a.l.length ci)) (first | exact keepR (by assumption) (by assumption) | exact keepRd HKP.out | assumption) (first | (go_at_call 23; refine (HSB.out _ (keepRv (by assumption))).mono ?_; rintro e ww ⟨rfl, hww⟩) | (go_at_call 24; refine (HK1.out _ (keepRv (by assumption))).mono ?_; rintro e ww ⟨rfl, hww⟩) | (go_at_call 25; refine (HK2.out _ (keepRv (by assumption))).mono ?_; rintro e ww ⟨rfl, hww⟩) | (go_at_call 20; refine (HK3.out _ (keepRv (by assumption))).mono ?_; rintro e ww ⟨rfl, hww⟩) | (go_at_call 26; refine (HAL.out _).mono ?_; rintro e ww ⟨rfl, hww⟩) | (go_at_call 21; refine (num_any _ _).mono ?_; rintro e ww ⟨rfl, rfl⟩))
  all_goals
    go_wp2
    go_ret
    exact ⟨rfl, keepRw (by assumption)⟩
end Go.Proofs.Ytcjopphefmogiaa
