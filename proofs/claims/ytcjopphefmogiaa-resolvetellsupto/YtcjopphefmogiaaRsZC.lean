/- resolve: IDs, Weight. -/
import Derived.Test.YtcjopphefmogiaaRsZB
namespace Go.Proofs.Ytcjopphefmogiaa
open Go.RowKit
set_option linter.unusedVariables false
set_option maxRecDepth 20000

set_option maxHeartbeats 4000000 in
theorem rvids_any (r : Value) (s : Rv.S) (w : World) (hs : BS w r s.l) : Calls Try.prog 12 #[vS r s.v] w fun e w' => ∃ u, e = .returned (.tuple #[u, .int .i64 (Rv.chk s)]) ∧ Below w.heap.size w w' ∧ OI w' w.heap.size u (Rv.idsR s) := by
  have A0 : Hid (Rv.chk s = 0 → Rv.idsR s = s.l.map (·.1) ∧ s.l.length ≤ 32) := hidD (fun h => ⟨if_pos h, Rv.few h⟩)
  have A1 : Hid (¬ Rv.chk s = 0 → Rv.idsR s = []) := hidD (fun h => if_neg h)
  obtain ⟨W, hW, X, B, Z⟩ := box_one w [.int .i64 s.v, r] 24
  have c := rvchk_any r s W (hs.below B)
  have HV := hidD (fun (W : World) (b : Below w.heap.size w W) => hs.below b)
  generalize Rv.chk s = ck at *
  generalize Rv.idsR s = R at *
  obtain ⟨v, l⟩ := s
  dsimp only at *
  have q0 := X.cell 0 rfl
  have q1 := X.cell 1 rfl
  have HX := hidD X
  have HB := hidD B
  have HZ : Hid (w.heap.size ≤ W.heap.size) := hidD (by omega)
  obtain ⟨a, cap, rfl, h1, h2, _, _⟩ := id hs
  obtain ⟨n, hn⟩ : ∃ n, n = l.length := ⟨_, rfl⟩
  rw [← hn] at h1 HV q1 HX hW c A0 ⊢
  replace hn := hidD hn
  unfold maxLen at h2
  obtain ⟨b, hb⟩ : ∃ b, b = w.heap.size := ⟨_, rfl⟩
  rw [← hb] at q0 q1 HB HZ HV HX ⊢
  have HBe : Hid (b = w.heap.size) := hidD hb
  clear X B Z hs
  go_enter Try.func12, Try.ntmps12
  go_upto_region 1 with fail
  rw [← hb, ← hW]
  clear hb hW
  go_wp2_with fail
  with_reducible refine c.mono ?_
  rintro e w1 ⟨rfl, b1⟩
  have HB1 := hidD (below_on HB.out HZ.out b1)
  have HZ1 := hidD (Nat.le_trans HZ.out b1.size)
  have HX1 := hidD (HX.out.below b1)
  clear c b1 q0 q1 HB HZ HX
  by_cases hk : ck = 0
  case neg =>
    have hR := A1.out hk
    subst hR
    have hk1 : (ck != 0) = true := by simp [hk]
    clear A0 A1
    go_wp2_with fail
    go_ret2
    exact ⟨_, rfl, HB1.out, World.ownsRow_nil _ _ _ _⟩
  subst hk
  obtain ⟨hR, hn32⟩ := A0.out rfl
  replace hR := hidD hR
  clear A0 A1
  obtain ⟨i0, hi, hz0, hz1, hz2⟩ := info_parts Try.infoI
  obtain ⟨w2, hmk, hown, hg2⟩ := run_make_full (P := Try.prog) w1 b 25 3 i0 (.int .i64 0) 1 Try.underlying25 hi hz0 hz1 .i64 .i64 n (by rw [hz2]; omega) (by unfold maxLen; omega) HZ1.out
  rw [made_zeros] at hown
  have t1 := HX1.out.cell 1 rfl
  have HB2 := hidD (HB1.out.grown hg2 HZ1.out (fun k e => by cases e))
  have X2 : Bo w2 b [.int .i64 v, .slice a n cap] 24 := (hg2.block b HX1.out.lt (by simp)).trans HX1.out
  have t2 := X2.cell 1 rfl
  obtain ⟨G, hG⟩ : ∃ G, G = w1.heap.size := ⟨_, rfl⟩
  rw [← hG] at hown hmk
  have HGB : Hid (b ≤ G) := hidD (by have := HZ1.out; omega)
  have HO := hidD hown
  have HB2s : Hid (b ≤ w.heap.size) := hidD (by have := HBe.out; omega)
  clear hown hg2 hi hz0 hz1 hz2 hG X2
  go_wp2_with fail
  clear hmk t1 t2
  go_loopw [20] (fun i wr => ∃ k : Nat, k ≤ n ∧ i = .int .i64 k ∧ Hid (∃ ys : List Int, ys.length = n ∧ (∀ j, j < k → ys.getD j 0 = (Rv.g l j).1) ∧ wr.ownsRow b 3 1 (.slice (some ⟨G, 0, none⟩) n n) n (i64s ys) ∧ Below b w wr)) (fun i _ => n - (intOf i).toNat)
  case atStart => exact ⟨0, Nat.zero_le _, rfl, hidD ⟨_, by simp, fun j hj => by omega, HO.out, HB2.out⟩⟩
  case round =>
    clear HO HB2
    obtain ⟨k, hk, rfl, hJ⟩ := hrel
    obtain ⟨ys, j1, j2, j3, j4⟩ := hJ.out
    clear hJ
    by_cases hlt : k < n
    · obtain ⟨g, off, rfl, hg, hcell⟩ := BS.at (HV.out wr j4) k (by have := hn.out; omega)
      obtain ⟨Q1, Q2⟩ := hcell k (by have := hn.out; omega)
      have i1 : (k : Int) < (n : Int) := by omega
      have J1 := hidD j1
      have J2 := hidD j2
      have J3 := hidD j3
      have J4 := hidD j4
      obtain ⟨x1, hx1⟩ : ∃ x, x = (Rv.g l k).1 := ⟨_, rfl⟩
      obtain ⟨x2, hx2⟩ : ∃ x, x = (Rv.g l k).2 := ⟨_, rfl⟩
      rw [← hx1] at Q1
      rw [← hx2] at Q2
      have HX := hidD hx1
      obtain ⟨Y, hY, XY, BY, ZY⟩ := box_one wr [.int .i64 x1, .int .i64 x2] 60
      have K3 := own_below j3 BY
      have hz := K3.cellAt k (by omega)
      have hzz : (i64s ys)[k]? = some (.int .i64 (ys.getD k 0)) := by simp [i64s, List.getD, j1, hlt]
      rw [hzz] at hz
      have hf := K3.frozenAt k
      have y0 := XY.cell 0 rfl
      have HK3 := hidD K3
      have hbw : b ≤ wr.heap.size := by have := HB2s.out; have := j4.size; omega
      have K4 := hidD (below_on j4 hbw BY)
      have HBY : Hid (b ≤ Y.heap.size) := hidD (by omega)
      clear hcell j1 j2 j3 j4 hzz hx1 hx2 XY BY ZY K3 hbw
      go_upto_region 8 with fail
      rw [← hY]
      clear hY
      go_wp2_with fail
      refine ⟨⟨k + 1, by omega, by go_num, hidD ⟨ys.set k x1, by rw [List.length_set]; exact J1.out, fun j hj => ?_, ?_, ?_⟩⟩, by simp [intOf]; omega⟩
      · by_cases e : j = k
        · subst e
          rw [← HX.out]
          simp [List.getD, J1.out, hlt]
        · have := J2.out j (by omega)
          rw [← this]
          simp [List.getD, Ne.symm e]
      · have h9 := own_setCell HK3.out k (by omega) (.int .i64 x1)
        unfold i64s at h9 ⊢
        rw [List.map_set]
        exact h9
      · exact (Cg.set _ k _).below (b := G) (B := b) HGB.out HBY.out K4.out
    · have hkn : k = n := by omega
      have hi : ¬ (k : Int) < (n : Int) := by omega
      have e : ys = l.map (·.1) := by
        apply List.ext_getElem
        · rw [j1, List.length_map]; exact hn.out
        · intro i h1 h2
          have h3 := j2 i (by omega)
          rw [Rv.g_at (by have := hn.out; omega)] at h3
          simpa [List.getD, h1] using h3
      subst e
      have J3 := hidD j3
      have J4 := hidD j4
      clear j1 j2 j3 j4
      go_wp2_with fail
      go_ret2
      refine ⟨_, rfl, J4.out, ?_⟩
      rw [hR.out]
      unfold OI
      rw [List.length_map, ← hn.out]
      exact J3.out
set_option maxHeartbeats 4000000 in
theorem rvsum_any (r : Value) (s : Rv.S) (w : World) (hs : BS w r s.l) : Calls Try.prog 18 #[vS r s.v] w fun e w' => e = .returned (.tuple #[.int .i64 (Rv.sumR s), .int .i64 (Rv.chk s)]) ∧ Below w.heap.size w w' := by
  have A0 : Hid (Rv.chk s = 0 → Rv.sumR s = (s.l.map (·.2)).sum ∧ s.l.length ≤ 32 ∧ ∀ k, k ≤ s.l.length → 0 ≤ ((s.l.take k).map (·.2)).sum ∧ ((s.l.take k).map (·.2)).sum ≤ 16 * (k : Int)) := hidD (fun h => ⟨if_pos h, Rv.few h, Rv.sum_part h⟩)
  have A1 : Hid (¬ Rv.chk s = 0 → Rv.sumR s = 0) := hidD (fun h => if_neg h)
  obtain ⟨W, hW, X, B, Z⟩ := box_one w [.int .i64 s.v, r] 24
  have c := rvchk_any r s W (hs.below B)
  have HV := hidD (fun (W : World) (b : Below w.heap.size w W) => hs.below b)
  generalize Rv.chk s = ck at *
  generalize Rv.sumR s = R at *
  obtain ⟨v, l⟩ := s
  dsimp only at *
  have q0 := X.cell 0 rfl
  have q1 := X.cell 1 rfl
  have HX := hidD X
  have HB := hidD B
  have HZ : Hid (w.heap.size ≤ W.heap.size) := hidD (by omega)
  obtain ⟨a, cap, rfl, h1, h2, _, _⟩ := id hs
  obtain ⟨n, hn⟩ : ∃ n, n = l.length := ⟨_, rfl⟩
  rw [← hn] at h1 HV q1 HX hW c A0 ⊢
  replace hn := hidD hn
  unfold maxLen at h2
  obtain ⟨b, hb⟩ : ∃ b, b = w.heap.size := ⟨_, rfl⟩
  rw [← hb] at q0 q1 HB HZ HV HX ⊢
  clear X B Z hs
  go_enter Try.func18, Try.ntmps18
  go_upto_region 1 with fail
  rw [← hb, ← hW]
  clear hb hW
  go_wp2_with fail
  with_reducible refine c.mono ?_
  rintro e w1 ⟨rfl, b1⟩
  have HB1 := hidD (below_on HB.out HZ.out b1)
  have HX1 := hidD (HX.out.below b1)
  have HZB := hidD (Nat.le_trans HZ.out b1.size)
  have t1 := HX1.out.cell 1 rfl
  clear c b1 q0 q1 HB HZ HX
  by_cases hk : ck = 0
  case neg =>
    have hR := A1.out hk
    subst hR
    have hk1 : (ck != 0) = true := by simp [hk]
    clear A0 A1
    go_wp2_with fail
    go_ret2
    exact ⟨rfl, HB1.out⟩
  subst hk
  obtain ⟨hR, hn32, hs2⟩ := A0.out rfl
  replace hR := hidD hR
  replace hs2 := hidD hs2
  clear A0 A1
  go_wp2_with fail
  go_loopw [5, 16] (fun s i wr => ∃ k : Nat, k ≤ n ∧ s = .int .i64 ((l.take k).map (·.2)).sum ∧ i = .int .i64 k ∧ Hid (Below b w wr ∧ b ≤ wr.heap.size)) (fun _ i _ => n - (intOf i).toNat)
  case atStart => exact ⟨0, Nat.zero_le _, by simp, rfl, hidD ⟨HB1.out, HZB.out⟩⟩
  case round =>
    clear t1 HB1 HX1 HZB
    obtain ⟨k, hk, rfl, rfl, hJ⟩ := hrel
    by_cases hlt : k < n
    · obtain ⟨g, off, rfl, hg, hcell⟩ := BS.at (HV.out wr hJ.out.1) k (by have := hn.out; omega)
      obtain ⟨Q0, Q1⟩ := hcell k (by have := hn.out; omega)
      have i1 : (k : Int) < (n : Int) := by omega
      have hkw : IntKind.i64.wrap ((k : Int) + 1) = (k : Int) + 1 := by rw [IntKind.wrap_i64]; omega
      have HN := hidD (Rv.sum_next l k (by have := hn.out; omega))
      have r1 := hs2.out k (by have := hn.out; omega)
      have r2 := hs2.out (k + 1) (by have := hn.out; omega)
      rw [HN.out] at r2
      clear hcell
      generalize (Rv.g l k).2 = x at *
      generalize (Rv.g l k).1 = x0 at *
      generalize ((l.take k).map (·.2)).sum = y at *
      have hyw : IntKind.i64.wrap (y + x) = y + x := wrap_ok (by omega) (by omega)
      clear r1 r2
      go_wp2_with fail
      exact ⟨⟨k + 1, by omega, by rw [HN.out], by go_num, hidD ⟨hJ.out.1.alloc hJ.out.2 _, by rw [World.size_alloc]; have := hJ.out.2; omega⟩⟩, by simp [intOf]; omega⟩
    · have htk : l.take k = l := List.take_of_length_le (by have := hn.out; omega)
      rw [htk, ← hR.out]
      clear htk
      go_wp2_with fail
      go_ret2
      exact ⟨rfl, hJ.out.1⟩
end Go.Proofs.Ytcjopphefmogiaa
