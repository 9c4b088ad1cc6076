/- resolve: Pick. -/
import Derived.Test.YtcjopphefmogiaaRsZB
namespace Go.Proofs.Ytcjopphefmogiaa
open Go.RowKit
set_option linter.unusedVariables false
set_option maxRecDepth 20000

theorem grown_cgW {g : Nat} {W W' : World} (h : Cg g W W') : W.grownBy W' (some g) := ⟨h.os, h.tape, h.output, h.size, fun k hk hne => h.block k hk (fun e => hne (by rw [e]))⟩
theorem made_bs (n : Nat) : (madeCells (Value.cells (.agg #[.int .i64 0, .int .i64 0])) (n * 2)).toList = bsL (List.replicate n (0, 0)) := by
  apply List.ext_getElem
  · rw [bsL_len]; simp [madeCells]
  · intro i h1 h2
    rw [bsL_len, List.length_replicate] at h2
    have hj : i / 2 < (List.replicate n ((0, 0) : Rp.Pt)).length := by rw [List.length_replicate]; omega
    obtain ⟨q1, q2⟩ := bsL_get (List.replicate n (0, 0)) (i / 2) hj
    have hg : Rv.g (List.replicate n ((0, 0) : Rp.Pt)) (i / 2) = (0, 0) := by
      rw [Rv.g_at hj, List.getElem_replicate]
    rw [hg] at q1 q2
    have e : (bsL (List.replicate n ((0, 0) : Rp.Pt)))[i]? = some (.int .i64 0) := by
      rcases (by omega : i = i / 2 * 2 ∨ i = i / 2 * 2 + 1) with h | h
      · rw [h]; exact q1
      · rw [h]; exact q2
    rw [List.getElem?_eq_getElem (by rw [bsL_len, List.length_replicate]; omega)] at e
    rw [Option.some.inj e]
    have : (madeCells (Value.cells (.agg #[.int .i64 0, .int .i64 0])) (n * 2)).toList[i]? = some (.int .i64 0) := by
      simp [madeCells, h2]
      rcases (by omega : i % 2 = 0 ∨ i % 2 = 1) with h | h <;> simp [Value.cells, h] <;> rfl
    rw [List.getElem?_eq_getElem h1] at this
    exact Option.some.inj this
theorem made_ob (w : World) (b n : Nat) (hn : n ≤ 1048576) (hb : b ≤ w.heap.size) : ∃ w2, Sem.run Try.prog (Instr.makeSlice 22 (.int .i64 n) (.int .i64 n)) w = Result.ok (.slice (some ⟨w.heap.size, 0, none⟩) n n) w2 ∧ OB w2 b (.slice (some ⟨w.heap.size, 0, none⟩) n n) (List.replicate n (0, 0)) ∧ w.grownBy w2 none := by
  obtain ⟨i0, hi, hz0, hz1, hz2⟩ := info_parts Try.infoB
  obtain ⟨w2, hmk, hown, hg2⟩ := run_make_full (P := Try.prog) w b 22 60 i0 (.agg #[.int .i64 0, .int .i64 0]) 2 Try.underlying22 hi hz0 hz1 .i64 .i64 n (by rw [hz2]; omega) (by unfold maxLen; omega) hb
  rw [made_bs] at hown
  refine ⟨w2, hmk, ?_, hg2⟩
  unfold OB
  rw [List.length_replicate]
  exact hown
set_option maxHeartbeats 8000000 in
theorem rvpick_any (r u : Value) (s : Rv.S) (ids : List Int) (w : World) (hs : BS w r s.l) (hi : Seg .i64 w u ids) (hM0 : ids.length ≤ 1048576) (hwf : ∀ i ∈ ids, (Lit.int .i64 i).wf = true) : Calls Try.prog 16 #[vS r s.v, u] w fun e w' => ∃ x, e = .returned (.tuple #[x, .int .i64 (Rv.pickE s ids)]) ∧ Below w.heap.size w w' ∧ OB w' w.heap.size x (Rv.pick s ids) := by
  have A1 : Hid (¬ Rv.chk s = 0 → Rv.pickE s ids = Rv.chk s ∧ Rv.pick s ids = []) := hidD (fun h => Rv.pick_chk h)
  have A2 : Hid (Rv.chk s = 0 → ∀ k, k < ids.length → Rv.wt s.l (ids.getD k 0) = 0 → Rv.pickE s ids = 71 ∧ Rv.pick s ids = []) := hidD (fun h k hk h0 => Rv.pick_none h k hk h0)
  have A3 : Hid (Rv.chk s = 0 → (∀ k, k < ids.length → Rv.wt s.l (ids.getD k 0) ≠ 0) → ∀ k, 0 < k → k < ids.length → ids.getD k 0 ≤ ids.getD (k - 1) 0 → Rv.pickE s ids = 6 ∧ Rv.pick s ids = []) := hidD (fun h ha k h0 hk hr => Rv.pick_twice h ha k h0 hk hr)
  have A4 : Hid (Rv.chk s = 0 → (∀ k, k < ids.length → Rv.wt s.l (ids.getD k 0) ≠ 0) → (∀ k, 0 < k → k < ids.length → ids.getD (k - 1) 0 < ids.getD k 0) → Rv.pickE s ids = 0 ∧ Rv.pick s ids = ids.map fun id => (id, Rv.wt s.l id)) := hidD (fun h ha hr => Rv.pick_ok h ha hr)
  have A5 : Hid (Rv.chk s = 0 → Rv.Good s.l) := hidD (fun h => (Rv.good h).1)
  obtain ⟨W, hW, X, B, Z⟩ := box_one w [.int .i64 s.v, r] 24
  have c := rvchk_any r s W (hs.below B)
  have HV := hidD (fun (W : World) (b : Below w.heap.size w W) => hs.below b)
  have HM := hidD (fun (W : World) (b : Below w.heap.size w W) => hi.below b)
  have CW := hidD (fun (W : World) (b : Below w.heap.size w W) (h : Rv.Good s.l) => weights_any r s.v s.l W (hs.below b) h)
  have HWF : Hid (∀ k, k < ids.length → (Lit.int .i64 (ids.getD k 0)).wf = true) := hidD (fun k hk => hwf _ (by rw [show ids.getD k 0 = ids[k] from by simp [List.getD, hk]]; exact List.getElem_mem _))
  generalize Rv.pickE s ids = E at *
  generalize Rv.pick s ids = R at *
  generalize Rv.chk s = ck at *
  obtain ⟨v, l⟩ := s
  dsimp only at *
  have q0 := X.cell 0 rfl
  have q1 := X.cell 1 rfl
  have HX := hidD X
  have HB := hidD B
  have HZ : Hid (w.heap.size ≤ W.heap.size) := hidD (by omega)
  obtain ⟨a, cap, rfl, _⟩ := id hs
  obtain ⟨a', cap', rfl, g1, g2, _, _⟩ := id hi
  obtain ⟨M, hM⟩ : ∃ M, M = ids.length := ⟨_, rfl⟩
  rw [← hM] at g1 HM hM0 A2 A3 A4 HWF ⊢
  replace hM := hidD hM
  unfold maxLen at g2
  obtain ⟨b, hb⟩ : ∃ b, b = w.heap.size := ⟨_, rfl⟩
  rw [← hb] at q0 q1 HB HZ HV HM HX CW ⊢
  clear X B Z hs hi hwf
  go_enter Try.func16, Try.ntmps16
  go_upto_region 1 with fail
  rw [← hb, ← hW]
  clear hb hW
  go_wp2_with fail
  with_reducible refine c.mono ?_
  rintro e w1 ⟨rfl, b1⟩
  replace HB := hidD (below_on HB.out HZ.out b1)
  replace HZ := hidD (Nat.le_trans HZ.out b1.size)
  replace HX := hidD (HX.out.below b1)
  clear c b1 q0 q1
  by_cases hk : ck = 0
  case neg =>
    obtain ⟨hE, hR⟩ := A1.out hk
    subst hE hR
    have hk1 : (E != 0) = true := by simp [hk]
    clear A1 A2 A3 A4 A5 CW hk
    go_wp2_with fail
    go_ret2
    exact ⟨_, rfl, HB.out, World.ownsRow_nil _ _ _ _⟩
  subst hk
  replace A2 := hidD (A2.out rfl)
  replace A3 := hidD (A3.out rfl)
  replace A4 := hidD (A4.out rfl)
  have HG := hidD (A5.out rfl)
  have q0 := HX.out.cell 0 rfl
  have q1 := HX.out.cell 1 rfl
  have cW := CW.out w1 HB.out HG.out
  clear A1 A5 CW
  go_wp2_with fail
  with_reducible refine cW.mono ?_
  rintro e w2 ⟨bm, rfl, hbm, m2, b2⟩
  replace HB := hidD (below_on HB.out HZ.out b2)
  have HBM : Hid (b ≤ bm ∧ b ≤ w2.heap.size) := hidD (by have := HZ.out; have := b2.size; omega)
  have MM := hidD m2
  clear cW b2 q0 q1 HX hbm m2 HZ
  go_wp2_with fail
  go_loopw [25] (fun i wr => ∃ k : Nat, k ≤ M ∧ i = .int .i64 k ∧ w2 = wr ∧ Hid (∀ j, j < k → Rv.wt l (ids.getD j 0) ≠ 0)) (fun i _ => M - (intOf i).toNat)
  case atStart => exact ⟨0, Nat.zero_le _, rfl, rfl, hidD (fun j hj => by omega)⟩
  case round =>
    obtain ⟨k, hk, rfl, rfl, hJ⟩ := hrel
    by_cases hlt : k < M
    · obtain ⟨gb, offb, rfl, hgb, Q⟩ := Seg.atE (HM.out w2 HB.out) k (by have := hM.out; omega)
      have i1 : (k : Int) < (M : Int) := by omega
      have hkw : IntKind.i64.wrap ((k : Int) + 1) = (k : Int) + 1 := by rw [IntKind.wrap_i64]; omega
      have HNO := hidD (A2.out k hlt)
      have HYE : Hid (Rv.wt l (ids.getD k 0) ≠ 0 → ∀ j, j < k + 1 → Rv.wt l (ids.getD j 0) ≠ 0) := hidD (fun h j hj => by
        by_cases e : j = k
        · subst e; exact h
        · exact hJ.out j (by omega))
      have HQW := hidD (HWF.out k hlt)
      clear A2 A3 A4 hJ
      obtain ⟨q, hq⟩ : ∃ q, q = ids.getD k 0 := ⟨_, rfl⟩
      rw [← hq] at Q HNO HYE HQW
      clear hq
      by_cases h0 : Rv.wt l q = 0
      · obtain ⟨hE, hR⟩ := HNO.out h0
        subst hE hR
        have hd : (!decide (Rv.wt l q = 0)) = false := by rw [decide_eq_true h0]; rfl
        clear HNO HYE
        go_wp2_with (first | (at_lookup; refine wpList_look2 _ rfl _ _ rfl bm _ l rfl MM.out q rfl HQW.out ?_; rw [hd]))
        go_ret2
        exact ⟨_, rfl, HB.out, World.ownsRow_nil _ _ _ _⟩
      · have HY := hidD (HYE.out h0)
        have hd : (!decide (Rv.wt l q = 0)) = true := by rw [decide_eq_false h0]; rfl
        clear HNO HYE
        go_wp2_with (first | (at_lookup; refine wpList_look2 _ rfl _ _ rfl bm _ l rfl MM.out q rfl HQW.out ?_; rw [hd]))
        exact ⟨⟨k + 1, by omega, by go_num, (by first | rfl | trivial), HY⟩, by simp [intOf]; omega⟩
    · have hkM : k = M := by omega
      have HALL : Hid (∀ j, j < M → Rv.wt l (ids.getD j 0) ≠ 0) := hidD (fun j hj => hJ.out j (by omega))
      replace A3 := hidD (A3.out HALL.out)
      replace A4 := hidD (A4.out HALL.out)
      clear A2 HALL hJ
      go_wp2_with fail
      go_loopw [12] (fun i wr => ∃ q : Nat, 1 ≤ q ∧ (q ≤ M ∨ q = 1) ∧ i = .int .i64 q ∧ Hid ((∀ j, 0 < j → j < q → ids.getD (j - 1) 0 < ids.getD j 0) ∧ MW wr bm l.length l ∧ Below b w wr ∧ b ≤ wr.heap.size)) (fun i _ => M - (intOf i).toNat)
      case atStart => exact ⟨1, Nat.le_refl _, .inr rfl, rfl, hidD ⟨fun j h0 h1 => by omega, MM.out, HB.out, HBM.out.2⟩⟩
      case round =>
        clear MM HB
        obtain ⟨q, hq1, hq2, rfl, hJ⟩ := hrel
        by_cases hlq : q < M
        · obtain ⟨p, hp⟩ : ∃ p, p = q - 1 := ⟨_, rfl⟩
          obtain ⟨gb, offb, rfl, hgb, Q⟩ := Seg.atE (HM.out wr hJ.out.2.2.1) q (by have := hM.out; omega)
          obtain ⟨gb2, offb2, e9, _, Q2⟩ := Seg.atE (HM.out wr hJ.out.2.2.1) p (by have := hM.out; omega)
          cases e9
          have i1 : (q : Int) < (M : Int) := by omega
          have i2 : (p : Int) < (M : Int) := by omega
          have hqw : IntKind.i64.wrap ((q : Int) + 1) = (q : Int) + 1 := by rw [IntKind.wrap_i64]; omega
          have hpw : IntKind.i64.wrap ((q : Int) - 1) = (p : Int) := by rw [IntKind.wrap_i64]; omega
          have HX : Hid (ids.getD q 0 ≤ ids.getD p 0 → E = 6 ∧ R = []) := hidD (fun h => A3.out q (by omega) hlq (by rw [← hp]; exact h))
          have HS : Hid (ids.getD p 0 < ids.getD q 0 → ∀ j, 0 < j → j < q + 1 → ids.getD (j - 1) 0 < ids.getD j 0) := hidD (fun h j h0 h1 => by
            by_cases e : j = q
            · subst e; rw [← hp]; exact h
            · exact hJ.out.1 j h0 (by omega))
          replace hp := hidD hp
          clear A3 A4 HM HWF
          generalize ids.getD q 0 = x at *
          generalize ids.getD p 0 = y at *
          by_cases hxy : x ≤ y
          · obtain ⟨hE, hR⟩ := HX.out hxy
            subst hE hR
            clear HX HS
            go_wp2_with fail
            go_quiet (fail)
            go_wp2_with fail
            go_ret2
            exact ⟨_, rfl, below_drewN hJ.out.2.2.1 _, World.ownsRow_nil _ _ _ _⟩
          · have hd : decide (x ≤ y) = false := decide_eq_false hxy
            have hz : y < x := by omega
            have HS2 := hidD (HS.out hz)
            clear HX HS hxy
            go_wp2_with fail
            go_quiet (fail)
            go_wp2_with fail
            exact ⟨⟨q + 1, by omega, by omega, by go_num, hidD ⟨HS2.out, hJ.out.2.1.below (below_drewN (Below.refl _ _) _), below_drewN hJ.out.2.2.1 _, hJ.out.2.2.2⟩⟩, by simp [intOf]; omega⟩
        · obtain ⟨hE, hR⟩ := A4.out (fun j h0 h1 => hJ.out.1 j h0 (by omega))
          subst hE
          replace hR := hidD hR
          have hlq2 : ¬ (q : Int) < (M : Int) := by omega
          obtain ⟨w3, hmk, O3, hg3⟩ := made_ob wr b M hM0 hJ.out.2.2.2
          obtain ⟨G, hG⟩ : ∃ G, G = wr.heap.size := ⟨_, rfl⟩
          have M3 := hidD (hJ.out.2.1.kept hg3 (by simp))
          have B3 := hidD (hJ.out.2.2.1.grown hg3 hJ.out.2.2.2 (fun k e => by cases e))
          have HGB : Hid (b ≤ G ∧ bm < G) := hidD (by have := hJ.out.2.1.lt; have := hJ.out.2.2.2; omega)
          rw [← hG] at hmk O3
          replace O3 := hidD O3
          clear A3 A4 hJ hG hg3
          go_wp2_with fail
          clear hmk
          go_loopw [59] (fun i wx => ∃ k : Nat, k ≤ M ∧ i = .int .i64 k ∧ Hid (∃ ys : List Rp.Pt, ys.length = M ∧ (∀ j, j < k → Rv.g ys j = (ids.getD j 0, Rv.wt l (ids.getD j 0))) ∧ OB wx b (.slice (some ⟨G, 0, none⟩) M M) ys ∧ MW wx bm l.length l ∧ Below b w wx)) (fun i _ => M - (intOf i).toNat)
          case atStart => exact ⟨0, Nat.zero_le _, rfl, hidD ⟨_, by simp, fun j hj => by omega, O3.out, M3.out, B3.out⟩⟩
          case round =>
            clear O3 M3 B3
            obtain ⟨k, hk, rfl, hJ⟩ := hrel
            obtain ⟨ys, j1, j2, j3, j4, j5⟩ := hJ.out
            clear hJ
            by_cases hlt : k < M
            · obtain ⟨gb, offb, rfl, hgb, Q⟩ := Seg.atE (HM.out wr j5) k (by have := hM.out; omega)
              have i1 : (k : Int) < (M : Int) := by omega
              have hkw : IntKind.i64.wrap ((k : Int) + 1) = (k : Int) + 1 := by rw [IntKind.wrap_i64]; omega
              have HQW := hidD (HWF.out k hlt)
              obtain ⟨t0, t1, t2, t3⟩ := j3.at k (by omega)
              have HGL : Hid (G < wr.heap.size) := hidD (World.ownsRow.lt j3 G rfl).2
              have HP := hidD (fun y => j3.put k (by omega) y)
              have J1 := hidD j1
              have J2 := hidD j2
              have J4 := hidD j4
              have J5 := hidD j5
              obtain ⟨q, hq⟩ : ∃ q, q = ids.getD k 0 := ⟨_, rfl⟩
              rw [← hq] at Q HQW
              replace hq := hidD hq
              clear j1 j2 j3 j4 j5
              go_wp2_with (first | (at_lookup; refine wpList_look1 _ rfl _ _ rfl bm _ l rfl J4.out q rfl HQW.out ?_))
              refine ⟨⟨k + 1, by omega, by go_num, hidD ⟨ys.set k (q, Rv.wt l q), by rw [List.length_set]; exact J1.out, fun j hj => ?_, HP.out (q, Rv.wt l q), J4.out.kept (grown_cgW (putB_cg wr G k (q, Rv.wt l q))) (by have := HGB.out.2; simp; omega), (putB_cg wr G k (q, Rv.wt l q)).below (b := G) (B := b) HGB.out.1 (by have := HGL.out; have := HGB.out; omega) J5.out⟩⟩, by simp [intOf]; omega⟩
              by_cases e : j = k
              · subst e
                rw [← hq.out]
                simp [Rv.g, List.getD, J1.out, hlt]
              · have := J2.out j (by omega)
                rw [← this]
                simp [Rv.g, List.getD, Ne.symm e]
            · have hkn : k = M := by omega
              have hi : ¬ (k : Int) < (M : Int) := by omega
              have e : ys = ids.map fun id => (id, Rv.wt l id) := by
                apply List.ext_getElem
                · rw [j1, List.length_map]; exact hM.out
                · intro i h1 h2
                  have h3 := j2 i (by omega)
                  rw [Rv.g_at h1] at h3
                  rw [h3, List.getElem_map]
                  have hi3 : i < ids.length := by have := hM.out; omega
                  simp [List.getD, hi3]
              have J3 := hidD j3
              have J5 := hidD j5
              have HE := hidD e
              clear j1 j2 j3 j4 j5 e
              go_wp2_with fail
              go_ret2
              exact ⟨_, rfl, J5.out, by rw [hR.out, ← HE.out]; exact J3.out⟩
end Go.Proofs.Ytcjopphefmogiaa
