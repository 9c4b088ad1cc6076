/- backoff: the reference's Total and Row. -/
import Derived.Test.YtekldjfmdapgpaaBkH
import Derived.Test.YtekldjfmdapgpaaDD
namespace Go.Proofs.Ytekldjfmdapgpaa
open Go.RowKit
set_option linter.unusedVariables false
set_option maxRecDepth 20000

theorem Bf.sum_cases (s : Bf.Se) (l : List Int) : (Bf.sets s = true → l.length ≤ 64 → Bf.sumE s l = 0 ∧ Bf.sumR s l = Bf.sum s l l.length) ∧ (Bf.sets s = true → ¬ l.length ≤ 64 → Bf.sumE s l = 3 ∧ Bf.sumR s l = 0) ∧ (¬ Bf.sets s = true → Bf.sumE s l = 4 ∧ Bf.sumR s l = 0) := by
  refine ⟨fun h h1 => ?_, fun h h2 => ?_, fun h => ?_⟩
  · have e : Bf.sumE s l = 0 := by unfold Bf.sumE; rw [if_pos h, if_neg (by omega)]
    exact ⟨e, if_pos e⟩
  · have e : Bf.sumE s l = 3 := by unfold Bf.sumE; rw [if_pos h, if_pos (by omega)]
    exact ⟨e, if_neg (by rw [e]; decide)⟩
  · have e : Bf.sumE s l = 4 := if_neg h
    exact ⟨e, if_neg (by rw [e]; decide)⟩
theorem Bf.row_cases (s : Bf.Se) (n : Int) : (Bf.sets s = true → 0 ≤ n → n ≤ 64 → Bf.rowE s n = 0 ∧ Bf.rowR s n = Bf.row s n.toNat) ∧ (Bf.sets s = true → ¬ (0 ≤ n ∧ n ≤ 64) → Bf.rowE s n = 3 ∧ Bf.rowR s n = []) ∧ (¬ Bf.sets s = true → Bf.rowE s n = 4 ∧ Bf.rowR s n = []) := by
  refine ⟨fun h h1 h2 => ?_, fun h h2 => ?_, fun h => ?_⟩
  · have e : Bf.rowE s n = 0 := by unfold Bf.rowE; rw [if_pos h, if_pos ⟨h1, h2⟩]
    exact ⟨e, if_pos e⟩
  · have e : Bf.rowE s n = 3 := by unfold Bf.rowE; rw [if_pos h, if_neg h2]
    exact ⟨e, if_neg (by rw [e]; decide)⟩
  · have e : Bf.rowE s n = 4 := if_neg h
    exact ⟨e, if_neg (by rw [e]; decide)⟩

set_option maxHeartbeats 1000000 in
theorem rtotal_any (s : Bf.Se) (v : Value) (l : List Int) (w : World) (hv : Seg .u64 w v l) (hl : ∀ k, k < l.length → 0 ≤ l.getD k 0 ∧ l.getD k 0 < 18446744073709551616) : Calls Try.prog 14 #[vS s, v] w fun e w' => e = .returned (.tuple #[.int .i64 (Bf.sumR s l), .int .i64 (Bf.sumE s l)]) ∧ Below w.heap.size w w' := by
  have c1 := fun W => rcheck_any s W
  obtain ⟨HA, HBB, HC⟩ := Bf.sum_cases s l
  replace HA := hidD HA
  replace HBB := hidD HBB
  replace HC := hidD HC
  have HK := hidD (Bf.chk_cases s)
  have HVV := hidD hv
  have HLL := hidD hl
  obtain ⟨a, cap, rfl, g1, g2, _, _⟩ := id hv
  obtain ⟨n, hn⟩ : ∃ n, n = l.length := ⟨_, rfl⟩
  rw [← hn] at HVV HA HBB HLL g1 ⊢
  have HLN := hidD hn
  unfold maxLen at g2
  clear hn hv hl
  generalize Bf.sumR s l = z at *
  generalize Bf.sumE s l = ke at *
  generalize Bf.chk s = ck at *
  have HB := hidD ((Below.refl w.heap.size w).alloc (Nat.le_refl _) (.cells (sL s).toArray 23))
  have X0 := hidD (Bo.new w (sL s) 23)
  have HS : Hid (w.heap.size + 1 ≤ (w.alloc (.cells (sL s).toArray 23)).heap.size) := hidD (by rw [World.size_alloc]; omega)
  obtain ⟨W0, hW0⟩ : ∃ W0, W0 = w.alloc (.cells (sL s).toArray 23) := ⟨_, rfl⟩
  obtain ⟨N, hN⟩ : ∃ N, N = w.heap.size := ⟨_, rfl⟩
  have HNW : Hid (N = w.heap.size) := hidD hN
  rw [← hW0] at HB X0 HS
  rw [← hN] at HB X0 HS ⊢
  simp only [sL] at hW0
  go_enter Try.func14, Try.ntmps14
  go_wp2_with fail
  rw [← hN, ← hW0]
  clear hW0 hN
  with_reducible refine (c1 _).mono ?_
  rintro e w1 ⟨rfl, h1⟩
  have Y0 := hidD (X0.out.below h1)
  have hb1 := hidD (below_on HB.out (by have := HS.out; omega) h1)
  have hs1 : Hid (N + 1 ≤ w1.heap.size) := hidD (by have := HS.out; have := h1.size; omega)
  clear X0 HB HS h1 c1
  have p0 := Y0.out.cell 0 rfl
  have p1 := Y0.out.cell 1 rfl
  have p2 := Y0.out.cell 2 rfl
  rcases HK.out with ⟨rfl, hs⟩ | ⟨rfl, hs⟩
  · by_cases hn1 : n ≤ 64
    · obtain ⟨e1, e2⟩ := HA.out hs hn1
      subst e1
      have HZ := hidD e2
      have HSS := hidD hs
      clear HA HBB HC HK e2 hs p0 p1 p2
      have hn3 : ¬ (64 : Int) < (n : Int) := by omega
      go_wp2_with fail
      go_loopw [6, 7] (fun d i wr => ∃ k : Nat, k ≤ n ∧ i = .int .i64 (k : Int) ∧ d = .int .i64 (Bf.sum s l k) ∧ Hid (Below N w wr ∧ Bo wr N (sL s) 23)) (fun _ i _ => 100 - (intOf i).toNat)
      case atStart => exact ⟨0, by omega, rfl, rfl, hidD ⟨hb1.out, Y0.out⟩⟩
      case round =>
        obtain ⟨k, hk, rfl, rfl, hI⟩ := hrel
        obtain ⟨i1, i2⟩ := hI.out
        have I1 := hidD i1
        have I2 := hidD i2
        clear hI hb1 Y0 hs1
        by_cases hlt : k < n
        · have hseg := HVV.out.below (by rw [← HNW.out]; exact i1)
          obtain ⟨a', cap', he, _, _, h3, h4⟩ := id hseg
          rw [← HLN.out] at he
          injection he with he1 he2 he3
          subst he1 he3
          obtain ⟨gb, off, rfl, hgb, hcell⟩ := seg_at (l := l) (by have := HLN.out; omega) h3 h4
          have Q := hcell k (by have := HLN.out; omega)
          obtain ⟨x0, x1⟩ := HLL.out k hlt
          obtain ⟨x, hx⟩ := Int.eq_ofNat_of_zero_le x0
          rw [hx] at Q
          have hxlt : x < 18446744073709551616 := by omega
          obtain ⟨d0, d1⟩ := Bf.d_num HSS.out k
          have c := hidD (fun W => rdelay_any s ((k : Int) + 1) x hxlt W)
          obtain ⟨f1, f2, _⟩ := Bf.delay_at HSS.out k (by omega) x
          rw [f1, f2] at c
          obtain ⟨o0, o1⟩ := Bf.one_range HSS.out d0 d1 hxlt
          obtain ⟨s0, s1⟩ := Bf.sum_range HSS.out (l := l) (fun j hj => by have := HLL.out j (by have := HLN.out; omega); omega) k (by have := HLN.out; omega)
          have hnext : Hid (Bf.sum s l (k + 1) = Bf.sum s l k + Bf.one s (Bf.d s k) x) := hidD (by
            show Bf.sum s l k + Bf.one s (Bf.d s k) (l.getD k 0).toNat = _
            rw [hx]
            rfl)
          have hw : IntKind.i64.wrap (Bf.sum s l k + Bf.one s (Bf.d s k) x) = Bf.sum s l k + Bf.one s (Bf.d s k) x := wrap_ok (by omega) (by omega)
          have p0 := i2.cell 0 rfl
          have p1 := i2.cell 1 rfl
          have p2 := i2.cell 2 rfl
          have HNL : Hid (N ≤ wr.heap.size) := hidD (by have := i2.lt; omega)
          have hi : (k : Int) < (n : Int) := by omega
          clear i1 i2 hseg h3 h4 hcell he2 x0 x1 hx d0 d1 o0 o1 s0 s1 f1 f2
          generalize Bf.one s (Bf.d s k) x = y at *
          generalize Bf.sum s l k = sm at *
          have c2 := c.out wr.drew
          have hkw : IntKind.i64.wrap ((k : Int) + 1) = (k : Int) + 1 := wrap_ok (by omega) (by omega)
          have c3 := c2
          rw [← hkw] at c3
          clear c
          go_wp2_with fail
          go_region_with (go_at_call 12; (first | with_reducible refine c3.mono ?_ | with_reducible refine c2.mono ?_); rintro e w2 ⟨rfl, h2⟩; have hb2 := hidD (below_on (below_drewN I1.out 1) HNL.out h2); have J2 := hidD (Bo.below (w := wr.drew) I2.out h2); clear h2 c2 c3)
          all_goals go_wp2_with fail
          all_goals exact ⟨⟨k + 1, by omega, by go_num, by rw [hnext.out], hidD ⟨hb2.out, J2.out⟩⟩, by simp [intOf]; omega⟩
        · have hke : k = n := by omega
          subst hke
          have hz := HZ.out
          subst hz
          clear HLL HVV
          go_wp2_with fail
          go_ret2
          exact ⟨rfl, I1.out⟩
    · obtain ⟨e1, e2⟩ := HBB.out hs (by omega)
      subst e1 e2
      have hn3 : (64 : Int) < (n : Int) := by omega
      clear HA HBB HC HK
      go_wp2_with fail
      go_ret2
      exact ⟨rfl, hb1.out⟩
  · obtain ⟨e1, e2⟩ := HC.out hs
    subst e1 e2
    clear HA HBB HC HK
    go_wp2_with fail
    go_ret2
    exact ⟨rfl, hb1.out⟩

set_option maxHeartbeats 1000000 in
theorem rrow_any (s : Bf.Se) (n : Int) (w : World) : Calls Try.prog 16 #[vS s, .int .i64 n] w fun e w' => ∃ v, e = .returned (.tuple #[v, .int .i64 (Bf.rowE s n)]) ∧ Below w.heap.size w w' ∧ Seg .i64 w' v (Bf.rowR s n) := by
  have c1 := fun W => rcheck_any s W
  obtain ⟨HA, HBB, HC⟩ := Bf.row_cases s n
  replace HA := hidD HA
  replace HBB := hidD HBB
  replace HC := hidD HC
  have HK := hidD (Bf.chk_cases s)
  generalize Bf.rowR s n = z at *
  generalize Bf.rowE s n = ke at *
  generalize Bf.chk s = ck at *
  have HB := hidD ((Below.refl w.heap.size w).alloc (Nat.le_refl _) (.cells (sL s).toArray 23))
  have X0 := hidD (Bo.new w (sL s) 23)
  have HS : Hid (w.heap.size + 1 ≤ (w.alloc (.cells (sL s).toArray 23)).heap.size) := hidD (by rw [World.size_alloc]; omega)
  obtain ⟨W0, hW0⟩ : ∃ W0, W0 = w.alloc (.cells (sL s).toArray 23) := ⟨_, rfl⟩
  obtain ⟨N, hN⟩ : ∃ N, N = w.heap.size := ⟨_, rfl⟩
  have HNW : Hid (N = w.heap.size) := hidD hN
  rw [← hW0] at HB X0 HS
  rw [← hN] at HB X0 HS ⊢
  simp only [sL] at hW0
  go_enter Try.func16, Try.ntmps16
  go_wp2_with fail
  rw [← hN, ← hW0]
  clear hW0 hN
  with_reducible refine (c1 _).mono ?_
  rintro e w1 ⟨rfl, h1⟩
  have Y0 := hidD (X0.out.below h1)
  have hb1 := hidD (below_on HB.out (by have := HS.out; omega) h1)
  have hs1 : Hid (N + 1 ≤ w1.heap.size) := hidD (by have := HS.out; have := h1.size; omega)
  clear X0 HB HS h1 c1
  have p0 := Y0.out.cell 0 rfl
  have p1 := Y0.out.cell 1 rfl
  have p2 := Y0.out.cell 2 rfl
  rcases HK.out with ⟨rfl, hs⟩ | ⟨rfl, hs⟩
  · by_cases hn1 : 0 ≤ n
    · by_cases hn2 : n ≤ 64
      · obtain ⟨e1, e2⟩ := HA.out hs hn1 hn2
        subst e1
        have HZ := hidD e2
        have HSS := hidD hs
        clear HA HBB HC HK e2 hs p0 p1 p2
        have hn3 : ¬ n < 0 := by omega
        have hn4 : ¬ 64 < n := by omega
        go_wp2_with fail
        go_loopw [6, 7] (fun d i wr => ∃ (k : Nat) (vd : Value), (k : Int) ≤ n ∧ i = .int .i64 ((k : Int) + 1) ∧ d = vd ∧ Hid (Below N w wr ∧ Bo wr N (sL s) 23 ∧ wr.ownsRow (N + 1) 3 1 vd (Bf.row s k).length (i64s (Bf.row s k)))) (fun _ i _ => 100 - (intOf i).toNat)
        case atStart => exact ⟨0, _, by omega, rfl, rfl, hidD ⟨hb1.out, Y0.out, World.ownsRow_nil _ _ _ _⟩⟩
        case round =>
          obtain ⟨k, vd, hk, rfl, rfl, hI⟩ := hrel
          obtain ⟨i1, i2, i3⟩ := hI.out
          have I1 := hidD i1
          have I2 := hidD i2
          have I3 := hidD i3
          clear hI hb1 Y0 hs1
          by_cases hlt : (k : Int) + 1 ≤ n
          · have c := rmost_any s ((k : Int) + 1) wr
            obtain ⟨f1, _, f2⟩ := Bf.delay_at HSS.out k (by omega) 0
            rw [f1, f2] at c
            have p0 := i2.cell 0 rfl
            have p1 := i2.cell 1 rfl
            have p2 := i2.cell 2 rfl
            have HNL : Hid (N + 1 ≤ wr.heap.size) := hidD i2.lt
            clear i1 i2 i3 f1 f2
            have HL2 : Hid ((Bf.row s k).length ≤ 64) := hidD (by rw [Bf.row_len]; omega)
            have HNX := hidD (Bf.row_next s k)
            go_wp2_with fail
            with_reducible refine c.mono ?_
            rintro e w2 ⟨rfl, h2⟩
            have hb2 := hidD (below_on I1.out (by have := HNL.out; omega) h2)
            have J2 := hidD (I2.out.below h2)
            have J3 := ownsRow_below I3.out h2
            have hs2 : Hid (N + 1 ≤ w2.heap.size) := hidD (by have := h2.size; have := HNL.out; omega)
            clear c h2 I1 I2 I3 p0 p1 p2
            generalize Bf.d s k = y at *
            go_wp2_with (at_builtin; refine wpList_append_ints _ rfl _ _ rfl (N + 1) _ _ (Bf.row s k) [y] rfl (J3.alloc _) rfl (seg_one _ _) (by have := HL2.out; simp; omega) (by have := hs2.out; simp; omega) ?_; intro v' w3 hown1 hB3 hg3)
            refine ⟨⟨k + 1, _, by omega, by go_num, rfl, hidD ⟨(hb2.out.alloc (by have := hs2.out; omega) _).trans (hB3.mono (Nat.le_succ N)), (hB3.block N (Nat.lt_succ_self N)).trans (J2.out.alloc _), ?_⟩⟩, by simp [intOf]; omega⟩
            rw [HNX.out]
            exact hown1
          · have hke : n.toNat = k := by omega
            have hz := HZ.out
            rw [hke] at hz
            subst hz
            clear hke
            go_wp2_with fail
            go_ret2
            exact ⟨_, rfl, I1.out, Seg.own I3.out⟩
      · obtain ⟨e1, e2⟩ := HBB.out hs (by omega)
        subst e1 e2
        clear HA HBB HC HK
        have hn3 : ¬ n < 0 := by omega
        go_wp2_with fail
        go_ret2
        exact ⟨_, rfl, hb1.out, Seg.nil _ _⟩
    · obtain ⟨e1, e2⟩ := HBB.out hs (by omega)
      subst e1 e2
      clear HA HBB HC HK
      go_wp2_with fail
      go_ret2
      exact ⟨_, rfl, hb1.out, Seg.nil _ _⟩
  · obtain ⟨e1, e2⟩ := HC.out hs
    subst e1 e2
    clear HA HBB HC HK
    go_wp2_with fail
    go_ret2
    exact ⟨_, rfl, hb1.out, Seg.nil _ _⟩
end Go.Proofs.Ytekldjfmdapgpaa
