/- choice: the reference's Ring. -/
import Derived.Test.YtcpcnajifdicmaaCB5
namespace Go.Proofs.Ytcpcnajifdicmaa
open Go.RowKit Go.Sort
set_option linter.unusedVariables false
set_option maxRecDepth 20000

theorem lrring_bad1 (vr : Value) (r : List Rp.Pt) (h : Int) (v : Value) (l : List Rp.Pt) (w : World) (hr : PSeg .u64 w vr r) (hv : PSeg .i64 w v l) (hE : Lo.checkE l ≠ 0) :
    Calls Try.prog 15 #[vr, .int .u64 h, v] w fun e w' => e = .returned (.tuple #[.int .i64 0, .int .i64 (Lo.checkE l)]) ∧ Below w.heap.size w w' := by
  have c := lrcheck_any v l _ hv
  obtain ⟨a, cap, rfl, h1, h2, h3, h4⟩ := id hv
  obtain ⟨a2, cap2, rfl, g1, g2, g3, g4⟩ := id hr
  clear hv hr h3 h4 g3 g4
  generalize Lo.checkE l = E at *
  have hb0 : (E == 0) = false := by simp [hE]
  go_enter Try.func15, Try.ntmps15
  go_wp2_with fail
  with_reducible refine c.mono ?_
  rintro e w' ⟨rfl, b1⟩
  go_wp2
  go_ret2
  exact ⟨rfl, b1⟩
theorem lrring_bad2 (vr : Value) (r : List Rp.Pt) (h : Int) (v : Value) (l : List Rp.Pt) (w : World) (hr : PSeg .u64 w vr r) (hv : PSeg .i64 w v l) (hE : Lo.checkE l = 0) (hp : Rp.wholeE r ≠ 0) :
    Calls Try.prog 15 #[vr, .int .u64 h, v] w fun e w' => e = .returned (.tuple #[.int .i64 0, .int .i64 (Rp.wholeE r)]) ∧ Below w.heap.size w w' := by
  have c := lrcheck_any v l _ hv
  rw [hE] at c
  have c2 := fun W (hW : Below w.heap.size w W) => rwhole_any vr r W (hr.below hW)
  obtain ⟨a, cap, rfl, h1, h2, h3, h4⟩ := id hv
  obtain ⟨a2, cap2, rfl, g1, g2, g3, g4⟩ := id hr
  clear hv hr h3 h4 g3 g4 hE
  generalize Rp.wholeE r = E at *
  have hb0 : (E == 0) = false := by simp [hp]
  go_enter Try.func15, Try.ntmps15
  go_wp2_with fail
  with_reducible refine c.mono ?_
  rintro e w1 ⟨rfl, b1⟩
  have c3 := c2 w1 b1
  clear c2 c
  go_wp2_with fail
  with_reducible refine c3.mono ?_
  rintro e w2 ⟨rfl, b2⟩
  go_wp2
  go_ret2
  exact ⟨rfl, Below.step b1 b2⟩

set_option maxHeartbeats 8000000 in
theorem lrring_good (vr : Value) (r : List Rp.Pt) (h : Int) (v : Value) (l : List Rp.Pt) (w : World) (hr : PSeg .u64 w vr r) (hv : PSeg .i64 w v l) (hE : Lo.checkE l = 0) (hp : Rp.wholeE r = 0) :
    Calls Try.prog 15 #[vr, .int .u64 h, v] w fun e w' => e = .returned (.tuple #[.int .i64 (Lo.ringI r h l), .int .i64 (Lo.ringE r h l)]) ∧ Below w.heap.size w w' := by
  have c := lrcheck_any v l _ hv
  rw [hE] at c
  have c2 := fun W (hW : Below w.heap.size w W) => rwhole_any vr r W (hr.below hW)
  rw [hp] at c2
  have c4 := fun W (hW : Below w.heap.size w W) => rwalk_any vr r h W (hr.below hW)
  have HF1 := hidD (fun hf => Lo.ringE_none (h := h) hE hp hf)
  have HF2 := hidD (fun x hf => Lo.ringE_some (h := h) (x := x) hE hp hf)
  have HFI : Hid (Lo.first r h l = (Rp.walkL r h).find? (Lo.has l)) := hidD rfl
  have HV := hidD hv
  obtain ⟨a, cap, rfl, h1, h2, h3, h4⟩ := id hv
  obtain ⟨a2, cap2, rfl, g1, g2, g3, g4⟩ := id hr
  unfold maxLen at h2
  clear hv hr h3 h4 g3 g4 hE hp
  generalize Rp.walkL r h = ids at *
  generalize Rp.peopledE r = PE at *
  generalize Lo.ringE r h l = RE at *
  generalize Lo.ringI r h l = RI at *
  generalize Lo.first r h l = FI at *
  obtain ⟨N, hN⟩ : ∃ N, N = l.length := ⟨_, rfl⟩
  have HN := hidD hN
  rw [← hN] at h1 c ⊢
  clear hN
  go_enter Try.func15, Try.ntmps15
  go_wp2_with fail
  with_reducible refine c.mono ?_
  rintro e w1 ⟨rfl, b1⟩
  have c3 := c2 w1 b1
  clear c2 c
  go_wp2_with fail
  with_reducible refine c3.mono ?_
  rintro e w2 ⟨rfl, b2⟩
  have B2 := Below.step b1 b2
  have c5 := c4 w2 B2
  clear c3 c4 b1 b2
  go_wp2_with fail
  with_reducible refine c5.mono ?_
  rintro e w3 ⟨vi, rfl, row, b3⟩
  have B3 := Below.step B2 b3
  have HROW := hidD row
  obtain ⟨a5, cap5, rfl, q7⟩ : ∃ a cap, vi = .slice a ids.length cap ∧ ids.length ≤ maxLen := by
    rcases row.2 with ⟨rfl, h0⟩ | ⟨gg, cc, cur, rfl, _, _, h1, h2, _⟩
    · exact ⟨none, 0, by rw [h0], by rw [h0]; exact Nat.zero_le _⟩
    · exact ⟨_, _, rfl, Nat.le_trans h1 h2⟩
  unfold maxLen at q7
  obtain ⟨M, hM⟩ : ∃ M, M = ids.length := ⟨_, rfl⟩
  have HM := hidD hM
  rw [← hM] at q7 ⊢
  clear c5 B2 b3 row hM
  go_wp2_with fail
  go_loopw [11] (fun i wr => ∃ q : Nat, q ≤ M ∧ i = .int .i64 q ∧ Hid ((ids.take q).any (Lo.has l) = false) ∧ Below w3.heap.size w3 wr) (fun i _ => M - (intOf i).toNat)
  case atStart => exact ⟨0, Nat.zero_le _, rfl, hidD rfl, Below.refl _ _⟩
  case round =>
    obtain ⟨q, hq, rfl, hc, hbl⟩ := hrel
    by_cases hlt : q < M
    · have ql : q < ids.length := by have := HM.out; omega
      obtain ⟨g, c', e1, _, _, hg, hcell⟩ := irow_cell HROW.out (by omega)
      rw [← HM.out] at e1
      cases e1
      have HT := hidD (iany_take (Lo.has l) ids q ql)
      have HA := hidD (fun hp => ifind_at (P := Lo.has l) (l := ids) (k := q) ql hc.out hp)
      have Q0 : Hid (w3.cell? ⟨g, q, none⟩ = some (.int .i64 (ids.getD q 0))) := hidD (hcell q ql)
      have i1 : (q : Int) < (M : Int) := by omega
      clear hcell ql
      generalize ids.getD q 0 = x at *
      obtain ⟨wo, rfl⟩ : ∃ wo, wo = wr := ⟨_, rfl⟩
      have HHAS : Hid (Lo.has l x = l.any (fun p => p.1 == x)) := hidD rfl
      go_wp2_with fail
      go_loopw [12] (fun i wr => ∃ k : Nat, k ≤ N ∧ i = .int .i64 k ∧ Hid ((l.take k).any (fun p => p.1 == x) = false) ∧ Below w3.heap.size w3 wr) (fun i _ => N - (intOf i).toNat)
      case atStart => exact ⟨0, Nat.zero_le _, rfl, hidD rfl, hbl⟩
      case round =>
        clear hbl
        obtain ⟨k, hk, rfl, hd, hbl⟩ := hrel
        by_cases hlk : k < N
        · obtain ⟨a', cap', e1, _, _, h3, h4⟩ := (HV.out.below B3).below hbl
          rw [← HN.out] at e1
          cases e1
          obtain ⟨g2, off, rfl, hg2, hcell⟩ := pseg_at (l := l) (by have := HN.out; omega) h3 h4
          have Q1 := (hcell k (by have := HN.out; omega)).1
          have Q2 := (hbl.cell (p := ⟨g, q, none⟩) hg).trans Q0.out
          have HT2 := hidD (pany_take (fun p => p.1 == x) l k (by have := HN.out; omega))
          have HA2 := hidD (pany_at (fun p => p.1 == x) l k (by have := HN.out; omega))
          have i2 : (k : Int) < (N : Int) := by omega
          clear hcell h3 h4
          generalize l.getD k (0, 0) = y at *
          obtain ⟨y1, y2⟩ := y
          dsimp only at Q1 HT2 HA2
          by_cases hy : y1 = x
          · subst hy
            have hh : Lo.has l y1 = true := by rw [HHAS.out]; exact HA2.out (by simp)
            have hf := HA.out hh
            rw [← HFI.out] at hf
            obtain ⟨e1, e2⟩ := HF2.out _ hf
            have HE1 := hidD e1
            have HE2 := hidD e2
            have hbe : (y1 == y1) = true := by simp
            clear HA HA2 HT HT2 HF1 HF2 hh hf e1 e2
            go_wp2_with fail
            go_quiet (fail)
            go_wp2
            go_ret2
            exact ⟨(by rw [HE1.out, HE2.out]; rfl), Below.step B3 (belowD_drewN hbl _)⟩
          · have hyb : (y1 == x) = false := by simp [hy]
            have hd2 : Hid ((l.take (k + 1)).any (fun p => p.1 == x) = false) := hidD (by rw [HT2.out, hd.out, hyb]; rfl)
            clear HA2 HT2
            go_wp2_with fail
            go_quiet (fail)
            go_wp2
            exact ⟨⟨k + 1, by omega, by go_num, hd2, belowD_drewN hbl _⟩, by simp [intOf]; omega⟩
        · have hke : l.take k = l := List.take_of_length_le (by have := HN.out; omega)
          rw [hke, ← HHAS.out] at hd
          have hc2 : Hid ((ids.take (q + 1)).any (Lo.has l) = false) := hidD (by rw [HT.out, hc.out, hd.out]; rfl)
          clear hke HA HT
          go_wp2
          exact ⟨⟨q + 1, by omega, by go_num, hc2, hbl⟩, by simp [intOf]; omega⟩
    · have hke : ids.take q = ids := List.take_of_length_le (by have := HM.out; omega)
      rw [hke] at hc
      have hf := ifind_none hc.out
      rw [← HFI.out] at hf
      obtain ⟨e1, e2⟩ := HF1.out hf
      have HE1 := hidD e1
      have HE2 := hidD e2
      clear HF1 HF2 hf hke hc e1 e2
      go_wp2
      go_ret2
      exact ⟨(by rw [HE1.out, HE2.out]; rfl), Below.step B3 hbl⟩
theorem lrring_any (vr : Value) (r : List Rp.Pt) (h : Int) (v : Value) (l : List Rp.Pt) (w : World) (hr : PSeg .u64 w vr r) (hv : PSeg .i64 w v l) :
    Calls Try.prog 15 #[vr, .int .u64 h, v] w fun e w' => e = .returned (.tuple #[.int .i64 (Lo.ringI r h l), .int .i64 (Lo.ringE r h l)]) ∧ Below w.heap.size w w' := by
  by_cases hE : Lo.checkE l = 0
  · by_cases hp : Rp.wholeE r = 0
    · exact lrring_good vr r h v l w hr hv hE hp
    · have e1 : Lo.ringE r h l = Rp.wholeE r := by unfold Lo.ringE; rw [if_neg (fun h => h hE), if_pos hp]
      have e2 : Lo.ringI r h l = 0 := by unfold Lo.ringI; rw [if_neg (by rw [e1]; exact hp)]
      rw [e1, e2]
      exact lrring_bad2 vr r h v l w hr hv hE hp
  · obtain ⟨e1, e2⟩ := Lo.ringE_bad1 (r := r) (h := h) hE
    rw [e1, e2]
    exact lrring_bad1 vr r h v l w hr hv hE
end Go.Proofs.Ytcpcnajifdicmaa
