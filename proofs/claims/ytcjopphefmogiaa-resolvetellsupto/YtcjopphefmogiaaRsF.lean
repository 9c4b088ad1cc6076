/- resolve: Pick, by the reference. -/
import Derived.Test.YtcjopphefmogiaaRsE
import Derived.Deep.RegionHeld
import Derived.Deep.CutBlock
namespace Go.Proofs.Ytcjopphefmogiaa
open Go.RowKit
set_option linter.unusedVariables false
set_option maxRecDepth 20000

theorem Rv.pick_chk {s : Rv.S} {ids : List Int} (h : ¬ Rv.chk s = 0) : Rv.pickE s ids = Rv.chk s ∧ Rv.pick s ids = [] := by
  have e : Rv.pickE s ids = Rv.chk s := if_pos h
  exact ⟨e, if_neg (by rw [e]; exact h)⟩
theorem Rv.pick_none {s : Rv.S} {ids : List Int} (h : Rv.chk s = 0) (k : Nat) (hk : k < ids.length) (h0 : Rv.wt s.l (ids.getD k 0) = 0) : Rv.pickE s ids = 71 ∧ Rv.pick s ids = [] := by
  have e : Rv.pickE s ids = 71 := by
    unfold Rv.pickE
    rw [if_neg (fun hh => hh h), if_pos]
    rw [List.any_eq_true]
    refine ⟨ids.getD k 0, ?_, decide_eq_true h0⟩
    have : ids.getD k 0 = ids[k] := by simp [List.getD, hk]
    rw [this]
    exact List.getElem_mem _
  exact ⟨e, if_neg (by rw [e]; decide)⟩
theorem Rv.pick_there {s : Rv.S} {ids : List Int} (h : Rv.chk s = 0) (ha : ∀ k, k < ids.length → Rv.wt s.l (ids.getD k 0) ≠ 0) : Rv.pickE s ids = if Rv.rise ids = true then 0 else 6 := by
  unfold Rv.pickE
  rw [if_neg (fun hh => hh h), if_neg]
  intro hh
  rw [List.any_eq_true] at hh
  obtain ⟨id, hi, h0⟩ := hh
  obtain ⟨k, hk, rfl⟩ := List.getElem_of_mem hi
  refine ha k hk ?_
  have : ids.getD k 0 = ids[k] := by simp [List.getD, hk]
  rw [this]
  exact of_decide_eq_true h0
theorem Rv.pick_twice {s : Rv.S} {ids : List Int} (h : Rv.chk s = 0) (ha : ∀ k, k < ids.length → Rv.wt s.l (ids.getD k 0) ≠ 0) (k : Nat) (h0 : 0 < k) (hk : k < ids.length) (hr : ids.getD k 0 ≤ ids.getD (k - 1) 0) : Rv.pickE s ids = 6 ∧ Rv.pick s ids = [] := by
  have e : Rv.pickE s ids = 6 := by
    rw [Rv.pick_there h ha, if_neg]
    intro hh
    unfold Rv.rise at hh
    rw [List.all_eq_true] at hh
    have := hh k (List.mem_range.2 hk)
    simp only [Bool.or_eq_true, decide_eq_true_eq] at this
    omega
  exact ⟨e, if_neg (by rw [e]; decide)⟩
theorem Rv.pick_ok {s : Rv.S} {ids : List Int} (h : Rv.chk s = 0) (ha : ∀ k, k < ids.length → Rv.wt s.l (ids.getD k 0) ≠ 0) (hr : ∀ k, 0 < k → k < ids.length → ids.getD (k - 1) 0 < ids.getD k 0) : Rv.pickE s ids = 0 ∧ Rv.pick s ids = ids.map fun id => (id, Rv.wt s.l id) := by
  have e : Rv.pickE s ids = 0 := by
    rw [Rv.pick_there h ha, if_pos]
    unfold Rv.rise
    rw [List.all_eq_true]
    intro i hi
    rw [List.mem_range] at hi
    simp only [Bool.or_eq_true, decide_eq_true_eq]
    rcases Nat.eq_zero_or_pos i with e | e
    · exact .inl e
    · exact .inr (hr i e hi)
  exact ⟨e, if_pos e⟩
theorem Rv.pick_next (f : Int → Rp.Pt) (ids : List Int) (k : Nat) (hk : k < ids.length) : (ids.take (k + 1)).map f = (ids.take k).map f ++ [f (ids.getD k 0)] := by
  have : ids.getD k 0 = ids[k] := by simp [List.getD, hk]
  rw [List.take_succ_eq_append_getElem hk, List.map_append, this]
  rfl
theorem below_undrew {n : Nat} {w w' : World} (h : Below n w.drew w') : Below n w w' := ⟨h.os, h.tape, h.output, h.size, h.block⟩
set_option maxHeartbeats 8000000 in
theorem rpick_any (r u : Value) (s : Rv.S) (ids : List Int) (w : World) (hs : BS w r s.l) (hi : Seg .i64 w u ids) (hM0 : ids.length ≤ 8796093022208) : Calls Try.prog 17 #[vS r s.v, u] w fun e w' => ∃ x, e = .returned (.tuple #[x, .int .i64 (Rv.pickE s ids)]) ∧ Below w.heap.size w w' ∧ OB w' w.heap.size x (Rv.pick s ids) := by
  have A1 : Hid (¬ Rv.chk s = 0 → Rv.pickE s ids = Rv.chk s ∧ Rv.pick s ids = []) := hidD (fun h => Rv.pick_chk h)
  have A2 : Hid (Rv.chk s = 0 → ∀ k, k < ids.length → Rv.wt s.l (ids.getD k 0) = 0 → Rv.pickE s ids = 71 ∧ Rv.pick s ids = []) := hidD (fun h k hk h0 => Rv.pick_none h k hk h0)
  have A3 : Hid (Rv.chk s = 0 → (∀ k, k < ids.length → Rv.wt s.l (ids.getD k 0) ≠ 0) → ∀ k, 0 < k → k < ids.length → ids.getD k 0 ≤ ids.getD (k - 1) 0 → Rv.pickE s ids = 6 ∧ Rv.pick s ids = []) := hidD (fun h ha k h0 hk hr => Rv.pick_twice h ha k h0 hk hr)
  have A4 : Hid (Rv.chk s = 0 → (∀ k, k < ids.length → Rv.wt s.l (ids.getD k 0) ≠ 0) → (∀ k, 0 < k → k < ids.length → ids.getD (k - 1) 0 < ids.getD k 0) → Rv.pickE s ids = 0 ∧ Rv.pick s ids = ids.map fun id => (id, Rv.wt s.l id)) := hidD (fun h ha hr => Rv.pick_ok h ha hr)
  obtain ⟨W, hW, X, B, Z⟩ := box_one w [.int .i64 s.v, r] 24
  have c := rchk_any r s W (hs.below B)
  have HV := hidD (fun (W : World) (b : Below w.heap.size w W) => hs.below b)
  have HM := hidD (fun (W : World) (b : Below w.heap.size w W) => hi.below b)
  have CW := hidD (fun (q : Int) (W : World) (b : Below w.heap.size w W) => rwt_any r s.v s.l q W (hs.below b))
  generalize Rv.pickE s ids = E at *
  generalize Rv.pick s ids = R at *
  generalize Rv.chk s = ck at *
  obtain ⟨v, l⟩ := s
  dsimp only at *
  have q0 := X.cell 0 rfl
  have q1 := X.cell 1 rfl
  have HX := hidD X
  have HB := hidD B
  have HZ : Hid (w.heap.size ≤ W.heap.size) := hidD (by omega)
  obtain ⟨a, cap, rfl, _⟩ := id hs
  obtain ⟨a', cap', rfl, g1, g2, _, _⟩ := id hi
  obtain ⟨M, hM⟩ : ∃ M, M = ids.length := ⟨_, rfl⟩
  rw [← hM] at g1 HM hM0 A2 A3 A4 ⊢
  replace hM := hidD hM
  unfold maxLen at g2
  obtain ⟨b, hb⟩ : ∃ b, b = w.heap.size := ⟨_, rfl⟩
  rw [← hb] at q0 q1 HB HZ HV HM HX CW ⊢
  clear X B Z hs hi
  go_enter Try.func17, Try.ntmps17
  go_upto_region 1 with fail
  rw [← hb, ← hW]
  clear hb hW
  go_wp2_with fail
  with_reducible refine c.mono ?_
  rintro e w1 ⟨rfl, b1⟩
  have HB1 := hidD (below_on HB.out HZ.out b1)
  have HZ1 := hidD (Nat.le_trans HZ.out b1.size)
  have HX1 := hidD (HX.out.below b1)
  clear c b1 q0 q1 HB HZ HX
  by_cases hk : ck = 0
  case neg =>
    obtain ⟨hE, hR⟩ := A1.out hk
    subst hE hR
    have hk1 : (E != 0) = true := by simp [hk]
    clear A1 A2 A3 A4 CW hk
    go_wp2_with fail
    go_ret2
    exact ⟨_, rfl, HB1.out, World.ownsRow_nil _ _ _ _⟩
  subst hk
  replace A2 := hidD (A2.out rfl)
  replace A3 := hidD (A3.out rfl)
  replace A4 := hidD (A4.out rfl)
  clear A1
  go_wp2_with fail
  go_loopw [7, 8] (fun x i wr => ∃ k : Nat, k ≤ M ∧ i = .int .i64 k ∧ Hid (OB wr w1.heap.size x ((ids.take k).map fun id => (id, Rv.wt l id)) ∧ Below b w wr ∧ Below w1.heap.size w1 wr ∧ ∀ j, j < k → Rv.wt l (ids.getD j 0) ≠ 0)) (fun _ i _ => M - (intOf i).toNat)
  case atStart => exact ⟨0, Nat.zero_le _, rfl, hidD ⟨World.ownsRow_nil _ _ _ _, HB1.out, Below.refl _ _, fun j hj => by omega⟩⟩
  case round =>
    obtain ⟨k, hk, rfl, hJ⟩ := hrel
    have E1 := HX1.out.below hJ.out.2.2.1
    obtain ⟨a5, c5, rfl, _⟩ := id hJ.out.1.ts
    by_cases hlt : k < M
    · obtain ⟨gb, offb, rfl, hgb, Q⟩ := Seg.atE (HM.out wr hJ.out.2.1) k (by have := hM.out; omega)
      have i1 : (k : Int) < (M : Int) := by omega
      have hkw : IntKind.i64.wrap ((k : Int) + 1) = (k : Int) + 1 := by rw [IntKind.wrap_i64]; omega
      have HN := hidD (Rv.pick_next (fun id => (id, Rv.wt l id)) ids k (by have := hM.out; omega))
      have hol : ((ids.take k).map fun id => (id, Rv.wt l id)).length ≤ k := by rw [List.length_map, List.length_take]; omega
      have t0 := E1.cell 0 rfl
      have t1 := E1.cell 1 rfl
      have hbl := hidD E1.lt
      have HNO := hidD (A2.out k hlt)
      have HYE : Hid (Rv.wt l (ids.getD k 0) ≠ 0 → ∀ j, j < k + 1 → Rv.wt l (ids.getD j 0) ≠ 0) := hidD (fun h j hj => by
        by_cases e : j = k
        · subst e; exact h
        · exact hJ.out.2.2.2 j (by omega))
      have cW := hidD (CW.out (ids.getD k 0))
      have HG := hidD hgb
      clear A2 A3 A4 E1
      obtain ⟨q, hq⟩ : ∃ q, q = ids.getD k 0 := ⟨_, rfl⟩
      rw [← hq] at Q HN HNO HYE cW
      replace hq := hidD hq
      have WR := hidD hJ.out.2.1
      obtain ⟨wt, hwt⟩ : ∃ wt, wt = Rv.wt l q := ⟨_, rfl⟩
      rw [← hwt] at HN HNO HYE cW
      replace hwt := hidD hwt
      generalize (ids.take k).map (fun id => (id, Rv.wt l id)) = O at *
      go_upto_region 8 with fail
      go_cut [9] (fun v wx => v = .int .i64 wt ∧ Below wr.heap.size wr wx)
      case first =>
        have G1 : gb < wr.drew.heap.size := HG.out
        have G2 : b < wr.drew.heap.size := hbl.out
        have hcA := hidD (cW.out wr.drew (belowD_drew WR.out))
        clear HN HNO HYE hJ CW cW WR HM HV hwt hq
        go_region_held (fun w' => w'.cell? ⟨b, 0, none⟩ = some (.int .i64 v) ∧ w'.cell? ⟨b, 1, none⟩ = some (.slice a l.length cap) ∧ w'.cell? ⟨gb, offb + k, none⟩ = some (.int .i64 q)) (first | exact ⟨t0, t1, Q⟩ | exact ⟨(H9.out.cell (p := ⟨b, 0, none⟩) G2).trans t0, (H9.out.cell (p := ⟨b, 1, none⟩) G2).trans t1, (H9.out.cell (p := ⟨gb, offb + k, none⟩) G1).trans Q⟩)
          ((go_at_call 30; refine (hcA.out).mono ?_; rintro e w9 ⟨rfl, h9⟩; have H9 := hidD h9; clear h9))
        all_goals (
          go_wp2
          go_meet
          exact ⟨rfl, below_undrew H9.out⟩)
      case rest =>
        obtain ⟨rfl, h9⟩ := hcut
        generalize wc = w9 at *
        have O9 := hidD (hJ.out.1.on h9)
        have K1 := hidD (below_on hJ.out.2.1 (Nat.le_trans HZ1.out hJ.out.2.2.1.size) h9)
        have K2 := hidD (below_on hJ.out.2.2.1 hJ.out.2.2.1.size h9)
        have KG : Hid (gb < w9.heap.size) := hidD (Nat.lt_of_lt_of_le hgb h9.size)
        have Q9 : w9.cell? ⟨gb, offb + k, none⟩ = some (.int .i64 q) := (h9.cell (p := ⟨gb, offb + k, none⟩) hgb).trans Q
        clear hJ h9 t0 t1 Q cW WR CW
        by_cases h0 : wt = 0
        · obtain ⟨hE, hR⟩ := HNO.out h0
          subst hE hR h0
          clear HNO HYE HN O9 hwt hq
          go_wp2_with fail
          go_ret2
          exact ⟨_, rfl, K1.out, World.ownsRow_nil _ _ _ _⟩
        · have hd : (wt == 0) = false := by simpa using h0
          have HY := hidD (HYE.out h0)
          obtain ⟨Y, hY⟩ : ∃ Y, Y = w9.alloc (.cells #[.int .i64 q, .int .i64 wt] 60) := ⟨_, rfl⟩
          have hb0 := (Below.refl w9.heap.size w9).alloc (Nat.le_refl _) (.cells #[.int .i64 q, .int .i64 wt] 60)
          have Q0 : Bo Y w9.heap.size [.int .i64 q, .int .i64 wt] 60 := by rw [hY]; exact Bo.new w9 _ _
          rw [← hY] at hb0
          have T1 : Hid (BS Y (.slice (some ⟨w9.heap.size, 0, none⟩) 1 1) [(q, wt)]) := hidD ⟨some ⟨w9.heap.size, 0, none⟩, 1, rfl, Nat.le_refl _, by unfold maxLen; decide, fun e => (by cases e), fun g off ar e h0 => by
            cases e
            refine ⟨rfl, Q0.lt, fun i hi => ?_⟩
            obtain rfl : i = 0 := by simpa using hi
            exact ⟨Q0.cell 0 rfl, Q0.cell 1 rfl⟩⟩
          have O1 := hidD (O9.out.on hb0)
          have L1 := hidD (below_on K1.out (Nat.le_trans HZ1.out K2.out.size) hb0)
          have L2 := hidD (below_on K2.out K2.out.size hb0)
          have L3 : Hid (w1.heap.size ≤ Y.heap.size) := hidD (Nat.le_trans K2.out.size hb0.size)
          clear HNO HYE K1 K2 O9 Q0 hb0 h0
          go_wp2_with (first | (at_builtin; rw [← hY]; refine wpList_append_bk Y rfl _ _ rfl w1.heap.size (.slice a5 O.length c5) (.slice (some ⟨w9.heap.size, 0, none⟩) 1 1) O [(q, wt)] rfl O1.out rfl T1.out (by simp only [List.length_singleton]; omega) L3.out ?_; intro v2 w6 hown' hB6 hgrow))
          exact ⟨⟨k + 1, by omega, by go_num, hidD ⟨by rw [HN.out]; exact hown', below_then L1.out (below_low hB6 HZ1.out), below_then L2.out hB6, HY.out⟩⟩, by simp [intOf]; omega⟩
    · have hkM : k = M := by omega
      have htk : ids.take k = ids := List.take_of_length_le (by have := hM.out; omega)
      rw [htk] at hJ ⊢
      have HALL : Hid (∀ j, j < M → Rv.wt l (ids.getD j 0) ≠ 0) := hidD (fun j hj => hJ.out.2.2.2 j (by omega))
      replace A3 := hidD (A3.out HALL.out)
      replace A4 := hidD (A4.out HALL.out)
      have O9 := hidD hJ.out.1
      have K1 := hidD hJ.out.2.1
      clear A2 HALL hJ htk E1 CW
      generalize ids.map (fun id => (id, Rv.wt l id)) = OO at *
      go_wp2_with fail
      go_loopw [10] (fun i wr2 => ∃ q : Nat, 1 ≤ q ∧ (q ≤ M ∨ q = 1) ∧ i = .int .i64 q ∧ Hid ((∀ j, 0 < j → j < q → ids.getD (j - 1) 0 < ids.getD j 0) ∧ OB wr2 w1.heap.size (.slice a5 OO.length c5) OO ∧ Below b w wr2)) (fun i _ => M - (intOf i).toNat)
      case atStart => exact ⟨1, Nat.le_refl _, .inr rfl, rfl, hidD ⟨fun j h0 h1 => by omega, O9.out, K1.out⟩⟩
      case round =>
        clear O9 K1
        obtain ⟨q, hq1, hq2, rfl, hJ⟩ := hrel
        by_cases hlq : q < M
        · obtain ⟨p, hp⟩ : ∃ p, p = q - 1 := ⟨_, rfl⟩
          obtain ⟨gb, offb, rfl, hgb, Q⟩ := Seg.atE (HM.out wr hJ.out.2.2) q (by have := hM.out; omega)
          obtain ⟨gb2, offb2, e9, _, Q2⟩ := Seg.atE (HM.out wr hJ.out.2.2) p (by have := hM.out; omega)
          cases e9
          have i1 : (q : Int) < (M : Int) := by omega
          have i2 : (p : Int) < (M : Int) := by omega
          have hqw : IntKind.i64.wrap ((q : Int) + 1) = (q : Int) + 1 := by rw [IntKind.wrap_i64]; omega
          have hpw : IntKind.i64.wrap ((q : Int) - 1) = (p : Int) := by rw [IntKind.wrap_i64]; omega
          have HX : Hid (ids.getD q 0 ≤ ids.getD p 0 → E = 6 ∧ R = []) := hidD (fun h => A3.out q (by omega) hlq (by rw [← hp]; exact h))
          have HS : Hid (ids.getD p 0 < ids.getD q 0 → ∀ j, 0 < j → j < q + 1 → ids.getD (j - 1) 0 < ids.getD j 0) := hidD (fun h j h0 h1 => by
            by_cases e : j = q
            · subst e; rw [← hp]; exact h
            · exact hJ.out.1 j h0 (by omega))
          replace hp := hidD hp
          clear A3 A4 HM
          generalize ids.getD q 0 = x at *
          generalize ids.getD p 0 = y at *
          by_cases hxy : x ≤ y
          · obtain ⟨hE, hR⟩ := HX.out hxy
            subst hE hR
            clear HX HS
            go_wp2_with fail
            go_quiet (fail)
            go_wp2_with fail
            go_ret2
            exact ⟨_, rfl, below_drewN hJ.out.2.2 _, World.ownsRow_nil _ _ _ _⟩
          · have hd : decide (x ≤ y) = false := decide_eq_false hxy
            have hz : y < x := by omega
            have HS2 := hidD (HS.out hz)
            clear HX HS hxy
            go_wp2_with fail
            go_quiet (fail)
            go_wp2_with fail
            exact ⟨⟨q + 1, by omega, by omega, by go_num, hidD ⟨HS2.out, hJ.out.2.1, below_drewN hJ.out.2.2 _⟩⟩, by simp [intOf]; omega⟩
        · obtain ⟨hE, hR⟩ := A4.out (fun j h0 h1 => hJ.out.1 j h0 (by omega))
          subst hE hR
          have hlq2 : ¬ (q : Int) < (M : Int) := by omega
          have HE := hidD (And.intro hJ.out.2.2 hJ.out.2.1)
          clear A3 A4 hJ HM
          go_wp2_with fail
          go_ret2
          exact ⟨_, rfl, HE.out.1, own_lower' HE.out.2 HZ1.out⟩
end Go.Proofs.Ytcjopphefmogiaa
