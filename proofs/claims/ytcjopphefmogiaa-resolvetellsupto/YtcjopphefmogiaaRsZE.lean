/- resolve: Diff. -/
import Derived.Test.YtcjopphefmogiaaRsZB
import Derived.Deep.RegionHeld
namespace Go.Proofs.Ytcjopphefmogiaa
open Go.RowKit
set_option linter.unusedVariables false
set_option maxRecDepth 20000

theorem MW.from {W W' : World} {b n C : Nat} {l : List Rp.Pt} (h : MW W b n l) (hC : C = W.heap.size) (hb : Below C W W') : MW W' b n l := h.below (by rw [← hC]; exact hb)
/-- What a call beside two boxes keeps. -/
def KpW (c1 c4 B : Nat) (w : World) (x1 x4 : List Value) (W : World) : Prop := Bo W c1 x1 SN ∧ Bo W c4 x4 SN ∧ Below B w W ∧ B ≤ W.heap.size
abbrev KcW (c1 c4 B : Nat) (w : World) (a0 a1 i0 i1 : Value) (W : World) : Prop := W.cell? ⟨c1, 0, none⟩ = some a0 ∧ W.cell? ⟨c1, 1, none⟩ = some a1 ∧ W.cell? ⟨c4, 0, none⟩ = some i0 ∧ W.cell? ⟨c4, 1, none⟩ = some i1 ∧ KpW c1 c4 B w [a0, a1] [i0, i1] W
theorem keepWd {c1 c4 B : Nat} {w W : World} {a0 a1 i0 i1 : Value} (h : KpW c1 c4 B w [a0, a1] [i0, i1] W) : KcW c1 c4 B w a0 a1 i0 i1 W.drew :=
  ⟨h.1.cell 0 rfl, h.1.cell 1 rfl, h.2.1.cell 0 rfl, h.2.1.cell 1 rfl, h.1, h.2.1, ⟨h.2.2.1.os, h.2.2.1.tape, h.2.2.1.output, h.2.2.1.size, h.2.2.1.block⟩, h.2.2.2⟩
theorem keepW {c1 c4 B : Nat} {w W W' : World} {a0 a1 i0 i1 : Value} (h : KcW c1 c4 B w a0 a1 i0 i1 W) (hb : Below W.heap.size W W') : KcW c1 c4 B w a0 a1 i0 i1 W' := by
  obtain ⟨_, _, _, _, h1, h2, h3, h4⟩ := h
  have k1 := h1.below hb
  have k2 := h2.below hb
  exact ⟨k1.cell 0 rfl, k1.cell 1 rfl, k2.cell 0 rfl, k2.cell 1 rfl, k1, k2, below_on h3 h4 hb, Nat.le_trans h4 hb.size⟩
theorem keepWw {c1 c4 B : Nat} {w W : World} {a0 a1 i0 i1 : Value} (h : KcW c1 c4 B w a0 a1 i0 i1 W) : Below B w W := h.2.2.2.2.2.2.1
theorem keepWk {c1 c4 B : Nat} {w W : World} {a0 a1 i0 i1 : Value} (h : KcW c1 c4 B w a0 a1 i0 i1 W) : KpW c1 c4 B w [a0, a1] [i0, i1] W := h.2.2.2.2

set_option maxHeartbeats 16000000 in
theorem rvdiff_any (r u : Value) (s t : Rv.S) (w : World) (hs : BS w r s.l) (hu : BS w u t.l) : Calls Try.prog 14 #[vS r s.v, vS u t.v] w fun e w' => ∃ x y z, e = .returned (.tuple #[x, y, z, .int .i64 (Rv.diffE s t)]) ∧ Below w.heap.size w w' ∧ OI w' w.heap.size x (Rv.difM s t) ∧ OI w' w.heap.size y (Rv.difG s t) ∧ OI w' w.heap.size z (Rv.difO s t) := by
  have A0 : Hid (Rv.diffE s t = 0 → Rv.difM s t = Rv.mo s.l t.l ∧ Rv.difG s t = Rv.mo t.l s.l ∧ Rv.difO s t = Rv.ot s.l t.l) := hidD (fun h => ⟨if_pos h, if_pos h, if_pos h⟩)
  have A1 : Hid (¬ Rv.diffE s t = 0 → Rv.difM s t = [] ∧ Rv.difG s t = [] ∧ Rv.difO s t = []) := hidD (fun h => ⟨if_neg h, if_neg h, if_neg h⟩)
  have A2 := hidD (@Rv.diff_first s t).1
  have A3 := hidD (@Rv.diff_first s t).2
  have F1 := hidD (fun h => (Rv.good (s := s) h).1)
  have F2 := hidD (fun h => (Rv.good (s := t) h).1)
  obtain ⟨W1, hW1, X1, B1, Z1⟩ := box_one w [.int .i64 s.v, r] 24
  obtain ⟨W2, hW2, X2, B2, Z2⟩ := box_one W1 [.int .i64 t.v, u] 24
  have C1 := X1.below B2
  have BB : Below w.heap.size w W2 := below_on B1 (by omega) B2
  have c1 := rvchk_any r s W2 (hs.below BB)
  have c2 := hidD (fun (W : World) (b : Below w.heap.size w W) => rvchk_any u t W (hu.below b))
  have CW1 := hidD (fun (g : Rv.Good s.l) (W : World) (b : Below w.heap.size w W) => weights_any r s.v s.l W (hs.below b) g)
  have CW2 := hidD (fun (g : Rv.Good t.l) (W : World) (b : Below w.heap.size w W) => weights_any u t.v t.l W (hu.below b) g)
  have HV := hidD (fun (W : World) (b : Below w.heap.size w W) => hs.below b)
  have HU := hidD (fun (W : World) (b : Below w.heap.size w W) => hu.below b)
  generalize Rv.difM s t = RM at *
  generalize Rv.difG s t = RG at *
  generalize Rv.difO s t = RO at *
  generalize Rv.diffE s t = E at *
  generalize Rv.chk s = ck1 at *
  generalize Rv.chk t = ck2 at *
  obtain ⟨v, l⟩ := s
  obtain ⟨x, m⟩ := t
  dsimp only at *
  obtain ⟨a, cap, rfl, h1, h2, _, _⟩ := id hs
  obtain ⟨a', cap', rfl, g1, g2, _, _⟩ := id hu
  obtain ⟨b, hb⟩ : ∃ b, b = w.heap.size := ⟨_, rfl⟩
  obtain ⟨nl, hnl⟩ : ∃ n, n = l.length := ⟨_, rfl⟩
  obtain ⟨nm, hnm⟩ : ∃ n, n = m.length := ⟨_, rfl⟩
  rw [Z1] at X2
  rw [← hnl] at h1 HV hW1 C1 c1 CW1 ⊢
  rw [← hnm] at g1 HU hW2 X2 c2 CW2 ⊢
  rw [← hb] at C1 X2 BB HV HU c2 CW1 CW2 ⊢
  unfold maxLen at h2 g2
  replace hnl := hidD hnl
  replace hnm := hidD hnm
  have D1 := hidD C1
  have D2 := hidD X2
  have HB := hidD BB
  have HBZ : Hid (b ≤ W2.heap.size) := hidD (by omega)
  have q0 := C1.cell 0 rfl
  have q1 := C1.cell 1 rfl
  have p0 := X2.cell 0 rfl
  have p1 := X2.cell 1 rfl
  clear X1 C1 X2 B1 B2 BB Z1 Z2 hs hu
  go_enter Try.func14, Try.ntmps14
  go_upto_region 1 with fail
  rw [← hb, ← hW1, ← hW2]
  clear hb hW1 hW2
  go_wp2_with fail
  with_reducible refine c1.mono ?_
  rintro e w1 ⟨rfl, b1⟩
  replace HB := hidD (below_on HB.out HBZ.out b1)
  replace HBZ := hidD (Nat.le_trans HBZ.out b1.size)
  replace D1 := hidD (D1.out.below b1)
  replace D2 := hidD (D2.out.below b1)
  clear c1 b1 q0 q1 p0 p1
  have p0 := D2.out.cell 0 rfl
  have p1 := D2.out.cell 1 rfl
  by_cases hk1 : ck1 = 0
  case neg =>
    have hE := A2.out hk1
    subst hE
    obtain ⟨r1, r2, r3⟩ := A1.out hk1
    subst r1 r2 r3
    have hd2 : (E != 0) = true := by simpa using hk1
    clear A0 A1 A2 A3 F1 F2 c2 CW1 CW2 hk1
    go_wp2_with fail
    refine bodyPost_ret (results_tmp4 rfl _ _ _) rfl ?_
    exact ⟨_, _, _, rfl, HB.out, World.ownsRow_nil _ _ _ _, World.ownsRow_nil _ _ _ _, World.ownsRow_nil _ _ _ _⟩
  subst hk1
  have hE := A3.out rfl
  subst hE
  have cc := c2.out w1 HB.out
  go_wp2_with fail
  with_reducible refine cc.mono ?_
  rintro e w2 ⟨rfl, b2⟩
  replace HB := hidD (below_on HB.out HBZ.out b2)
  replace HBZ := hidD (Nat.le_trans HBZ.out b2.size)
  replace D1 := hidD (D1.out.below b2)
  replace D2 := hidD (D2.out.below b2)
  clear cc c2 b2 p0 p1 A2 A3
  by_cases hk2 : E = 0
  case neg =>
    obtain ⟨r1, r2, r3⟩ := A1.out hk2
    subst r1 r2 r3
    have hd2 : (E != 0) = true := by simpa using hk2
    clear A0 A1 F1 F2 CW1 CW2 hk2
    go_wp2_with fail
    refine bodyPost_ret (results_tmp4 rfl _ _ _) rfl ?_
    exact ⟨_, _, _, rfl, HB.out, World.ownsRow_nil _ _ _ _, World.ownsRow_nil _ _ _ _, World.ownsRow_nil _ _ _ _⟩
  subst hk2
  obtain ⟨r1, r2, r3⟩ := A0.out rfl
  subst r1 r2 r3
  have f1 := F1.out (by first | rfl | trivial)
  have f2 := F2.out (by first | rfl | trivial)
  replace CW1 := hidD (CW1.out f1)
  replace CW2 := hidD (CW2.out f2)
  have hf1 : nl ≤ 32 := by have := f1.few; have := hnl.out; omega
  have hf2 : nm ≤ 32 := by have := f2.few; have := hnm.out; omega
  have G1 := hidD (fun k h => (Rv.wt_wf f1 k h).1)
  have G2 := hidD (fun k h => (Rv.wt_wf f2 k h).1)
  have HKP : Hid (KpW b (b + 1) b w [.int .i64 v, .slice a nl cap] [.int .i64 x, .slice a' nm cap'] w2) := hidD ⟨D1.out, D2.out, HB.out, HBZ.out⟩
  clear A0 A1 F1 F2 f1 f2 D1 D2 HB HBZ
  go_upto_region 7 with fail
  go_cut [10, 11] (fun y1 y2 wx => Hid (∃ b1 b2, y1 = .map (some b1) ∧ y2 = .map (some b2) ∧ MW wx b1 nl l ∧ MW wx b2 nm m ∧ KpW b (b + 1) b w [.int .i64 v, .slice a nl cap] [.int .i64 x, .slice a' nm cap'] wx))
  case first =>
    clear HV HU G1 G2
    go_region_held (KcW b (b + 1) b w (.int .i64 v) (.slice a nl cap) (.int .i64 x) (.slice a' nm cap')) (first | exact keepW (by assumption) (by assumption) | exact keepWd HKP.out | assumption)
      (first | (go_at_call 29; with_reducible refine (CW1.out _ (keepWw (by assumption))).mono ?_; rintro e ww ⟨b1, rfl, hb1, m1, hww⟩) | (go_at_call 29; with_reducible refine (CW2.out _ (keepWw (by assumption))).mono ?_; rintro e ww ⟨b2, rfl, hb2, m2, hww2⟩))
    all_goals (
      go_wp2
      go_meet
      exact hidD ⟨b1, b2, rfl, rfl, m1.below hww2, m2, keepWk (by assumption)⟩)
  case rest =>
    obtain ⟨b1, b2, rfl, rfl, m1, m2, D1, D2, B3, Z3⟩ := hcut.out
    generalize wc = w3 at *
    clear hcut CW1 CW2 HKP
    obtain ⟨C, hC⟩ : ∃ C, C = w3.heap.size := ⟨_, rfl⟩
    have HCE := hidD hC
    have HC : Hid (b ≤ C ∧ C ≤ w3.heap.size) := hidD (by omega)
    have D0 : Hid (Below C w3 w3) := hidD (Below.refl _ _)
    have HLT : Hid (b + 1 < C) := hidD (by have := D2.lt; omega)
    have p0 := D2.cell 0 rfl
    have p1 := D2.cell 1 rfl
    replace D1 := hidD D1
    replace D2 := hidD D2
    have HB := hidD B3
    replace m1 := hidD m1
    replace m2 := hidD m2
    clear hC B3 Z3
    go_wp2_with fail
    clear p0 p1
    go_loopw [12, 14, 40] (fun xm xo i wr => ∃ k : Nat, k ≤ nm ∧ i = .int .i64 k ∧ Hid (OI wr C xm (Rv.mo l (m.take k)) ∧ OI wr C xo (Rv.ot l (m.take k)) ∧ Apt xm xo ∧ Below b w wr ∧ Below C w3 wr ∧ C ≤ wr.heap.size)) (fun _ _ i _ => nm - (intOf i).toNat)
    case atStart => exact ⟨0, Nat.zero_le _, rfl, hidD ⟨World.ownsRow_nil _ _ _ _, World.ownsRow_nil _ _ _ _, Apt.nil _, HB.out, D0.out, HC.out.2⟩⟩
    case round =>
      obtain ⟨k, hk, rfl, hJ⟩ := hrel
      obtain ⟨j1, j2, j3, j4, j5, j6⟩ := hJ.out
      obtain ⟨am, cm, rfl, _⟩ := id (Seg.own j1)
      obtain ⟨ao, co, rfl, _⟩ := id (Seg.own j2)
      by_cases hlt : k < nm
      · obtain ⟨gm, offm, rfl, hgm, hcell⟩ := BS.at (HU.out wr j4) k (by have := hnm.out; omega)
        obtain ⟨t1, t2⟩ := hcell k (by have := hnm.out; omega)
        have i1 : (k : Int) < (nm : Int) := by omega
        have hkw : IntKind.i64.wrap ((k : Int) + 1) = (k : Int) + 1 := by rw [IntKind.wrap_i64]; omega
        have HN1 := hidD (Rv.mo_next l m k (by have := hnm.out; omega))
        have HN2 := hidD (Rv.ot_next l m k (by have := hnm.out; omega))
        have HWF := hidD (G2.out k (by have := hnm.out; omega))
        have l1 := Rv.mo_len l (m.take k)
        have l2 := Rv.ot_len l (m.take k)
        rw [List.length_take] at l1 l2
        have l3 : (Rv.mo l (m.take k)).length ≤ 32 := by omega
        have l4 : (Rv.ot l (m.take k)).length ≤ 32 := by omega
        obtain ⟨x1, hx1⟩ : ∃ x1, x1 = (Rv.g m k).1 := ⟨_, rfl⟩
        obtain ⟨x2, hx2⟩ : ∃ x2, x2 = (Rv.g m k).2 := ⟨_, rfl⟩
        rw [← hx1] at t1 HN1 HN2 HWF
        rw [← hx2] at t2 HN2
        obtain ⟨Y0, hY0, XY, BY, ZY⟩ := box_one wr [.int .i64 x1, .int .i64 x2] 60
        have K1 := hidD (OI.on j1 BY)
        have K2 := hidD (OI.on j2 BY)
        have K3 := hidD j3
        have K4 := hidD (below_on j4 (Nat.le_trans HC.out.1 j6) BY)
        have K5 := hidD (below_on j5 j6 BY)
        have K6 := hidD (Nat.le_trans j6 BY.size)
        have y0 := XY.cell 0 rfl
        have y1 := XY.cell 1 rfl
        have MY := hidD (m1.out.from HCE.out K5.out)
        obtain ⟨wt, hwt⟩ : ∃ wt, wt = Rv.wt l x1 := ⟨_, rfl⟩
        rw [← hwt] at HN1 HN2
        clear hx1 hx2 hcell l1 l2 j1 j2 j3 j4 j5 j6 hJ XY BY ZY
        generalize Rv.mo l (m.take k) = O1 at *
        generalize Rv.ot l (m.take k) = O2 at *
        go_upto_region 12 with fail
        rw [← hY0]
        clear hY0 t1 t2
        by_cases hw0 : wt = 0
        · have HR1 := hidD (HN1.out.trans (if_pos hw0))
          have HR2 := hidD (HN2.out.trans (if_pos hw0))
          have hd : (!decide (wt = 0)) = false := by rw [decide_eq_true hw0]; rfl
          obtain ⟨Y, hY, S1, b0⟩ := one_int Y0 x1
          have L1 := hidD (K1.out.on b0)
          have L2 := hidD (K2.out.on b0)
          have L4 := hidD (below_on K4.out (Nat.le_trans HC.out.1 K6.out) b0)
          have L5 := hidD (below_on K5.out K6.out b0)
          have L6 := hidD (Nat.le_trans K6.out b0.size)
          have LS := hidD S1
          clear HN1 HN2 K1 K2 K4 K5 K6 S1 b0
          go_wp2_with (first | (at_lookup; refine wpList_look2 _ rfl _ _ rfl b1 _ l rfl MY.out x1 rfl HWF.out ?_; rw [← hwt, hd]) | (at_builtin; rw [← hY]; refine wpList_append_intsA Y rfl _ _ rfl C (.slice am O1.length cm) ⟨Y0.heap.size, 0, none⟩ 1 1 O1 [x1] rfl L1.out rfl LS.out (by simp only [List.length_singleton]; omega) L6.out ?_; intro v2 w6 hown' hB6 hgrow hwh))
          obtain ⟨M2, M3⟩ := K3.out.grown L2.out hgrow hwh
          exact ⟨⟨k + 1, by omega, by go_num, hidD ⟨by rw [HR1.out]; exact hown', by rw [HR2.out]; exact M2, M3, below_then L4.out (below_low hB6 HC.out.1), below_then L5.out hB6, Nat.le_trans L6.out hB6.size⟩⟩, by simp [intOf]; omega⟩
        · have HR1 := hidD (HN1.out.trans (if_neg hw0))
          have HR2 := hidD (HN2.out.trans (if_neg hw0))
          have hd : (!decide (wt = 0)) = true := by rw [decide_eq_false hw0]; rfl
          clear HN1 HN2
          by_cases hw2 : wt = x2
          · have HR3 := hidD (HR2.out.trans (if_pos hw2))
            have hd2 : (wt != x2) = false := by simpa using hw2
            clear HR2 hw0 hw2
            go_wp2_with (first | (at_lookup; refine wpList_look2 _ rfl _ _ rfl b1 _ l rfl MY.out x1 rfl HWF.out ?_; rw [← hwt, hd]))
            exact ⟨⟨k + 1, by omega, by go_num, hidD ⟨by rw [HR1.out]; exact K1.out, by rw [HR3.out]; exact K2.out, K3.out, K4.out, K5.out, K6.out⟩⟩, by simp [intOf]; omega⟩
          · have hd2 : (wt != x2) = true := by simpa using hw2
            have HR3 := hidD (HR2.out.trans (if_neg hw2))
            obtain ⟨Y, hY, S1, b0⟩ := one_int Y0 x1
            have L1 := hidD (K1.out.on b0)
            have L2 := hidD (K2.out.on b0)
            have L4 := hidD (below_on K4.out (Nat.le_trans HC.out.1 K6.out) b0)
            have L5 := hidD (below_on K5.out K6.out b0)
            have L6 := hidD (Nat.le_trans K6.out b0.size)
            have LS := hidD S1
            clear HR2 K1 K2 K4 K5 K6 S1 b0 hw0 hw2
            go_wp2_with (first | (at_lookup; refine wpList_look2 _ rfl _ _ rfl b1 _ l rfl MY.out x1 rfl HWF.out ?_; rw [← hwt, hd]) | (at_builtin; rw [← hY]; refine wpList_append_intsA Y rfl _ _ rfl C (.slice ao O2.length co) ⟨Y0.heap.size, 0, none⟩ 1 1 O2 [x1] rfl L2.out rfl LS.out (by simp only [List.length_singleton]; omega) L6.out ?_; intro v2 w6 hown' hB6 hgrow hwh))
            obtain ⟨M2, M3⟩ := (Apt.sym K3.out).grown L1.out hgrow hwh
            exact ⟨⟨k + 1, by omega, by go_num, hidD ⟨by rw [HR1.out]; exact M2, by rw [HR3.out]; exact hown', M3.sym, below_then L4.out (below_low hB6 HC.out.1), below_then L5.out hB6, Nat.le_trans L6.out hB6.size⟩⟩, by simp [intOf]; omega⟩
      · have hkM : k = nm := by omega
        have htk : m.take k = m := List.take_of_length_le (by have := hnm.out; omega)
        rw [htk] at j1 j2 ⊢
        have O1l : (Rv.mo l m).length ≤ 32 := by have := Rv.mo_len l m; have := hnm.out; omega
        have O2l : (Rv.ot l m).length ≤ 32 := by have := Rv.ot_len l m; have := hnm.out; omega
        have E1 := D1.out.under j5 (by have := HLT.out; omega)
        have q0 := E1.cell 0 rfl
        have q1 := E1.cell 1 rfl
        have HJ := hidD (And.intro j1 (And.intro j2 (And.intro j3 (And.intro j4 (And.intro j5 j6)))))
        clear j1 j2 j3 j4 j5 j6 hJ htk E1 HU m1 HB D0
        generalize hO1 : Rv.mo l m = O1 at *
        generalize hO2 : Rv.ot l m = O2 at *
        replace hO1 := hidD hO1
        replace hO2 := hidD hO2
        have hke : ¬ (k : Int) < (nm : Int) := by omega
        go_wp2_with fail
        clear q0 q1
        go_loopw [13, 71] (fun xg i wr => ∃ q : Nat, q ≤ nl ∧ i = .int .i64 q ∧ Hid (OI wr C xg (Rv.mo m (l.take q)) ∧ OI wr C (.slice am O1.length cm) O1 ∧ OI wr C (.slice ao O2.length co) O2 ∧ Apt xg (.slice am O1.length cm) ∧ Apt xg (.slice ao O2.length co) ∧ Below b w wr ∧ Below C w3 wr ∧ C ≤ wr.heap.size)) (fun _ i _ => nl - (intOf i).toNat)
        case atStart => exact ⟨0, Nat.zero_le _, rfl, hidD ⟨World.ownsRow_nil _ _ _ _, HJ.out.1, HJ.out.2.1, Apt.nil _, Apt.nil _, HJ.out.2.2.2.1, HJ.out.2.2.2.2.1, HJ.out.2.2.2.2.2⟩⟩
        case round =>
          clear HJ
          obtain ⟨q, hq, rfl, hJ⟩ := hrel
          obtain ⟨j1, j2, j3, j4, j5, j6, j7, j8⟩ := hJ.out
          obtain ⟨ag, cg, rfl, _⟩ := id (Seg.own j1)
          by_cases hlq : q < nl
          · obtain ⟨gl, offl, rfl, hgl, hcell⟩ := BS.at (HV.out wr j6) q (by have := hnl.out; omega)
            obtain ⟨t1, t2⟩ := hcell q (by have := hnl.out; omega)
            have i1 : (q : Int) < (nl : Int) := by omega
            have hqw : IntKind.i64.wrap ((q : Int) + 1) = (q : Int) + 1 := by rw [IntKind.wrap_i64]; omega
            have HN1 := hidD (Rv.mo_next m l q (by have := hnl.out; omega))
            have HWF := hidD (G1.out q (by have := hnl.out; omega))
            have l1 := Rv.mo_len m (l.take q)
            rw [List.length_take] at l1
            have l3 : (Rv.mo m (l.take q)).length ≤ 32 := by omega
            obtain ⟨x1, hx1⟩ : ∃ x1, x1 = (Rv.g l q).1 := ⟨_, rfl⟩
            obtain ⟨x2, hx2⟩ : ∃ x2, x2 = (Rv.g l q).2 := ⟨_, rfl⟩
            rw [← hx1] at t1 HN1 HWF
            rw [← hx2] at t2
            obtain ⟨Y0, hY0, XY, BY, ZY⟩ := box_one wr [.int .i64 x1, .int .i64 x2] 60
            have K1 := hidD (OI.on j1 BY)
            have K2 := hidD (OI.on j2 BY)
            have K3 := hidD (OI.on j3 BY)
            have K4 := hidD j4
            have K5 := hidD j5
            have K6 := hidD (below_on j6 (Nat.le_trans HC.out.1 j8) BY)
            have K7 := hidD (below_on j7 j8 BY)
            have K8 := hidD (Nat.le_trans j8 BY.size)
            have y0 := XY.cell 0 rfl
            have y1 := XY.cell 1 rfl
            have MY := hidD (m2.out.from HCE.out K7.out)
            obtain ⟨wt, hwt⟩ : ∃ wt, wt = Rv.wt m x1 := ⟨_, rfl⟩
            rw [← hwt] at HN1
            clear hx1 hx2 hcell l1 j1 j2 j3 j4 j5 j6 j7 j8 hJ XY BY ZY
            generalize Rv.mo m (l.take q) = O3 at *
            go_upto_region 21 with fail
            rw [← hY0]
            clear hY0 t1 t2
            by_cases hw0 : wt = 0
            · have HR1 := hidD (HN1.out.trans (if_pos hw0))
              have hd : (!decide (wt = 0)) = false := by rw [decide_eq_true hw0]; rfl
              obtain ⟨Y, hY, S1, b0⟩ := one_int Y0 x1
              have L1 := hidD (K1.out.on b0)
              have L2 := hidD (K2.out.on b0)
              have L3 := hidD (K3.out.on b0)
              have L6 := hidD (below_on K6.out (Nat.le_trans HC.out.1 K8.out) b0)
              have L7 := hidD (below_on K7.out K8.out b0)
              have L8 := hidD (Nat.le_trans K8.out b0.size)
              have LS := hidD S1
              clear HN1 K1 K2 K3 K6 K7 K8 S1 b0
              go_wp2_with (first | (at_lookup; refine wpList_look2 _ rfl _ _ rfl b2 _ m rfl MY.out x1 rfl HWF.out ?_; rw [← hwt, hd]) | (at_builtin; rw [← hY]; refine wpList_append_intsA Y rfl _ _ rfl C (.slice ag O3.length cg) ⟨Y0.heap.size, 0, none⟩ 1 1 O3 [x1] rfl L1.out rfl LS.out (by simp only [List.length_singleton]; omega) L8.out ?_; intro v2 w6 hown' hB6 hgrow hwh))
              obtain ⟨M2, M4⟩ := K4.out.grown L2.out hgrow hwh
              obtain ⟨M3, M5⟩ := K5.out.grown L3.out hgrow hwh
              exact ⟨⟨q + 1, by omega, by go_num, hidD ⟨by rw [HR1.out]; exact hown', M2, M3, M4, M5, below_then L6.out (below_low hB6 HC.out.1), below_then L7.out hB6, Nat.le_trans L8.out hB6.size⟩⟩, by simp [intOf]; omega⟩
            · have HR1 := hidD (HN1.out.trans (if_neg hw0))
              have hd : (!decide (wt = 0)) = true := by rw [decide_eq_false hw0]; rfl
              clear HN1 hw0
              go_wp2_with (first | (at_lookup; refine wpList_look2 _ rfl _ _ rfl b2 _ m rfl MY.out x1 rfl HWF.out ?_; rw [← hwt, hd]))
              exact ⟨⟨q + 1, by omega, by go_num, hidD ⟨by rw [HR1.out]; exact K1.out, K2.out, K3.out, K4.out, K5.out, K6.out, K7.out, K8.out⟩⟩, by simp [intOf]; omega⟩
          · have htq : l.take q = l := List.take_of_length_le (by have := hnl.out; omega)
            rw [htq] at j1 ⊢
            have HE := hidD (And.intro j6 (And.intro j2 (And.intro j1 j3)))
            have hqe : ¬ (q : Int) < (nl : Int) := by omega
            clear j1 j2 j3 j4 j5 j6 j7 j8 hJ htq
            generalize hO3 : Rv.mo m l = O3 at *
            replace hO3 := hidD hO3
            go_wp2_with fail
            refine bodyPost_ret (results_tmp4 rfl _ _ _) rfl ?_
            exact ⟨_, _, _, rfl, HE.out.1, by rw [hO1.out]; exact own_lower' HE.out.2.1 HC.out.1, by rw [hO3.out]; exact own_lower' HE.out.2.2.1 HC.out.1, by rw [hO2.out]; exact own_lower' HE.out.2.2.2 HC.out.1⟩
end Go.Proofs.Ytcjopphefmogiaa
