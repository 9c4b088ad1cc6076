/- choice: the least: MinFunc, Least. -/
import Derived.Test.YtcpcnajifdicmaaC1
namespace Go.Proofs.Ytcpcnajifdicmaa
open Go.RowKit Go.Sort

theorem lcmp_any (x y : Rp.Pt) (w : World) : Calls Try.prog 28 #[.agg #[.int .i64 x.1, .int .i64 x.2], .agg #[.int .i64 y.1, .int .i64 y.2]] w fun e w' => e = .returned (.int .i64 (Rp.cmpI x.2 y.2)) ∧ ∃ q os', w' = grow (w.drewN q) os' := by
  have c := fun W => compareI x.2 y.2 W
  have hb : ∀ o o', ∃ q os', (w.alloc o).alloc o' = grow (w.drewN q) os' := fun o o' => ⟨0, #[o, o'], by rw [alloc_eq_grow, alloc_eq_grow, grow_grow]; rfl⟩
  generalize Rp.cmpI x.2 y.2 = r at *
  go_enter Try.func28, Try.ntmps28
  go_wp2_with (go_at_call 29; with_reducible refine (c _).mono ?_; rintro e w1 ⟨rfl, rfl⟩)
  go_ret
  exact ⟨rfl, hb _ _⟩

theorem lalloc_heap (w : World) (o : Obj) : (w.alloc o).heap = w.heap.push o := rfl
theorem heap_grown {w : World} {b n : Nat} {os : Array Obj} {o : Obj} (h : w.heap[b]? = some o) : (grow (w.drewN n) os).heap[b]? = some o := by
  have hb : b < w.heap.size := by
    rcases Nat.lt_or_ge b w.heap.size with h1 | h1
    · exact h1
    · rw [Array.getElem?_eq_none h1] at h; cases h
  show ((w.drewN n).heap ++ os)[b]? = some o
  rw [Array.getElem?_append_left (by exact hb)]
  exact h
theorem ret_min {W : World} {tmps : Array Value} {b : Nat} {x y : Value} (ht : tmps.getD 4 undef = .pointer (some ⟨b, 0, none⟩)) (h0 : W.cell? ⟨b, 0, none⟩ = some x) (h1 : W.cell? ⟨b, 1, none⟩ = some y) :
    (results Try.f27 tmps).run Try.prog W = .ok (.agg #[x, y]) W := by
  rw [Array.getD_eq_getD_getElem?] at ht
  simp [results, Try.results27]
  go_simp
theorem cell_of {W : World} {b i : Nat} {cs : Array Value} {t : TypeId} {f : Nat × Nat} {x : Value} (h : W.heap[b]? = some (.cells cs t f)) (hx : cs[i]? = some x) : W.cell? ⟨b, i, none⟩ = some x := by
  simp [World.cell?, h, hx]
theorem lset2_at {w : World} {Bx : Nat} {p0 q0 : Value} {t : TypeId} {f : Nat × Nat} (p q : Value) (hb : w.heap[Bx]? = some (.cells #[p0, q0] t f)) : ((w.setCell ⟨Bx, 0, none⟩ p).setCell ⟨Bx, 1, none⟩ q).heap[Bx]? = some (.cells #[p, q] t f) := by
  simp [World.setCell, Array.getElem?_modify, hb]
theorem lset2_other {w : World} {Bx b : Nat} (p q : Value) (hb : b ≠ Bx) : ((w.setCell ⟨Bx, 0, none⟩ p).setCell ⟨Bx, 1, none⟩ q).heap[b]? = w.heap[b]? := by
  simp [World.setCell, Array.getElem?_modify, Ne.symm hb]
theorem lset2_below {B Bx : Nat} {w w' : World} (p q : Value) (h : Below B w w') (hb : B ≤ Bx) : Below B w ((w'.setCell ⟨Bx, 0, none⟩ p).setCell ⟨Bx, 1, none⟩ q) := (h.setCell (p := ⟨Bx, 0, none⟩) hb _).setCell (p := ⟨Bx, 1, none⟩) hb _

set_option maxHeartbeats 4000000 in
theorem minL_any (v : Value) (l : List Rp.Pt) (w : World) (hv : PSeg .i64 w v l) (h0 : 0 < l.length) :
    Calls Try.prog 27 #[v, .func (.func 28) #[] #[]] w fun e w' => e = .returned (.agg #[.int .i64 (Lo.id' l (Lo.least l)), .int .i64 (Lo.bu l (Lo.least l))]) ∧ Below w.heap.size w w' := by
  obtain ⟨a, cap, rfl, h1, h2, h3, h4⟩ := id hv
  obtain ⟨g, off, rfl, hg, hcell⟩ := pseg_at h0 h3 h4
  have HC := hidD hcell
  obtain ⟨N, hN⟩ : ∃ N, N = l.length := ⟨_, rfl⟩
  have HN := hidD hN
  rw [← hN] at h1 h0 ⊢
  unfold maxLen at h2
  obtain ⟨B, hB⟩ : ∃ B, B = w.heap.size := ⟨_, rfl⟩
  have HL : Hid (Lo.least l = Lo.best l (N - 1)) := hidD (by rw [hN]; rfl)
  generalize Lo.least l = LL at *
  have Q1 : w.cell? ⟨g, off, none⟩ = some (.int .i64 (Lo.id' l 0)) := by have := (hcell 0 (by omega)).1; rw [Nat.zero_mul, Nat.add_zero] at this; exact this
  have Q2 : w.cell? ⟨g, off + 1, none⟩ = some (.int .i64 (Lo.bu l 0)) := by have := (hcell 0 (by omega)).2; rw [Nat.zero_mul, Nat.add_zero] at this; exact this
  have HX0 : Hid (Lo.best l 0 = 0) := hidD rfl
  clear hN hv h3 h4 hcell
  go_enter Try.func27, Try.ntmps27
  go_wp2_with fail
  obtain ⟨W0, hW0⟩ : ∃ W0, W0 = (w.alloc (.cells #[.int .i64 0, .int .i64 0] 49)).alloc (.cells #[.int .i64 (Lo.id' l 0), .int .i64 (Lo.bu l 0)] 49) := ⟨_, rfl⟩
  have hB0 : Hid (W0.heap[B]? = some (.cells #[.int .i64 0, .int .i64 0] 49 (0, 0))) := hidD (by rw [hW0, hB, lalloc_heap, lalloc_heap]; simp [Array.getElem?_push])
  have hB1 : Hid (W0.heap[B + 1]? = some (.cells #[.int .i64 (Lo.id' l 0), .int .i64 (Lo.bu l 0)] 49 (0, 0))) := hidD (by rw [hW0, hB, lalloc_heap, lalloc_heap, show w.heap.size + 1 = (w.heap.push (.cells #[.int .i64 0, .int .i64 0] 49 (0, 0))).size from by simp]; exact Array.getElem?_push_size)
  have hBW : Hid (Below w.heap.size w W0) := hidD (by rw [hW0]; exact ((Below.refl _ _).alloc (Nat.le_refl _) _).alloc (by simp) _)
  rw [← hW0, ← hB]
  have HB := hidD hB
  clear hW0 Q1 Q2 hB
  go_loopw [6] (fun i wr => ∃ k : Nat, 1 ≤ k ∧ k ≤ N ∧ i = .int .i64 k ∧ wr.heap[B]? = some (.cells #[.int .i64 0, .int .i64 0] 49 (0, 0)) ∧ wr.heap[B + 1]? = some (.cells #[.int .i64 (Lo.id' l (Lo.best l (k - 1))), .int .i64 (Lo.bu l (Lo.best l (k - 1)))] 49 (0, 0)) ∧ Below w.heap.size w wr) (fun i _ => N - (intOf i).toNat)
  case atStart => exact ⟨1, by omega, by omega, rfl, hB0.out, by rw [show (1 - 1 : Nat) = 0 from rfl, HX0.out]; exact hB1.out, hBW.out⟩
  case round =>
    clear hB0 hB1 hBW
    obtain ⟨k, hk1, hk2, rfl, hb0, hb1, hbl⟩ := hrel
    have c00 : wr.cell? ⟨B, 0, none⟩ = some (.int .i64 0) := cell_of hb0 rfl
    have c01 : wr.cell? ⟨B, 1, none⟩ = some (.int .i64 0) := cell_of hb0 rfl
    by_cases hlt : k < N
    · have Q1 := (hbl.cell (p := ⟨g, off + k * 2, none⟩) hg).trans (HC.out k (by have := HN.out; omega)).1
      have Q2 := (hbl.cell (p := ⟨g, off + k * 2 + 1, none⟩) hg).trans (HC.out k (by have := HN.out; omega)).2
      have HBS : Hid (Lo.best l k = if Lo.bu l k < Lo.bu l (Lo.best l (k - 1)) then k else Lo.best l (k - 1)) := hidD (by
        obtain ⟨m, rfl⟩ : ∃ m, k = m + 1 := ⟨k - 1, by omega⟩
        rfl)
      have hgw : g < wr.heap.size := Nat.lt_of_lt_of_le hg hbl.size
      have hBs : B + 1 < wr.heap.size := by
        rcases Nat.lt_or_ge (B + 1) wr.heap.size with h | h
        · exact h
        · rw [Array.getElem?_eq_none h] at hb1; cases hb1
      have HNA : Hid (Lo.bu l k < Lo.bu l (Lo.best l (k - 1)) → Lo.id' l (Lo.best l k) = (l.getD k (0, 0)).1 ∧ Lo.bu l (Lo.best l k) = (l.getD k (0, 0)).2) := hidD (fun h => by rw [HBS.out, if_pos h]; exact ⟨rfl, rfl⟩)
      have HNB : Hid (¬ Lo.bu l k < Lo.bu l (Lo.best l (k - 1)) → Lo.id' l (Lo.best l k) = Lo.id' l (Lo.best l (k - 1)) ∧ Lo.bu l (Lo.best l k) = Lo.bu l (Lo.best l (k - 1))) := hidD (fun h => by rw [HBS.out, if_neg h]; exact ⟨rfl, rfl⟩)
      rw [show Lo.bu l k = (l.getD k (0, 0)).2 from rfl] at HNA HNB
      clear HBS
      generalize Lo.id' l (Lo.best l (k - 1)) = p at *
      generalize Lo.bu l (Lo.best l (k - 1)) = q at *
      have hb := fun W => lcmp_any (l.getD k (0, 0)) (p, q) W
      dsimp only at hb
      have HZ : Hid (decide (Rp.cmpI (l.getD k (0, 0)).2 q < 0) = decide ((l.getD k (0, 0)).2 < q)) := hidD (by
        unfold Rp.cmpI
        by_cases h : (l.getD k (0, 0)).2 < q
        · rw [if_pos h, decide_eq_true h]; rfl
        · rw [if_neg h, decide_eq_false h]
          split <;> rfl)
      generalize l.getD k (0, 0) = x at *
      obtain ⟨x1, x2⟩ := x
      dsimp only at Q1 Q2 HNA HNB hb HZ
      generalize Rp.cmpI x2 q = z at *
      have mixed : Try.prog.follows .mixedOrders = true := by kernel_rfl
      have c10 : wr.cell? ⟨B + 1, 0, none⟩ = some (.int .i64 p) := cell_of hb1 rfl
      have c11 : wr.cell? ⟨B + 1, 1, none⟩ = some (.int .i64 q) := cell_of hb1 rfl
      have Q1' : ∀ n os, (grow (wr.drewN n) os).cell? ⟨g, off + k * 2, none⟩ = some (.int .i64 x1) := fun n os => cell_grown hgw Q1 n os
      have Q2' : ∀ n os, (grow (wr.drewN n) os).cell? ⟨g, off + k * 2 + 1, none⟩ = some (.int .i64 x2) := fun n os => cell_grown hgw Q2 n os
      have Q3' : ∀ n os, (grow (wr.drewN n) os).cell? ⟨B + 1, 0, none⟩ = some (.int .i64 p) := fun n os => cell_grown hBs c10 n os
      have Q4' : ∀ n os, (grow (wr.drewN n) os).cell? ⟨B + 1, 1, none⟩ = some (.int .i64 q) := fun n os => cell_grown hBs c11 n os
      have i1 : (k : Int) < (N : Int) := by omega
      have hb0' : ∀ n os, Hid ((grow (wr.drewN n) os).heap[B]? = _) := fun n os => hidD (heap_grown hb0)
      have hb1' : ∀ n os, Hid ((grow (wr.drewN n) os).heap[B + 1]? = _) := fun n os => hidD (heap_grown hb1)
      have hbl' : ∀ n os, Hid (Below w.heap.size w (grow (wr.drewN n) os)) := fun n os => hidD (Below.step hbl (pbelow_grown _ _ _))
      by_cases hz : x2 < q
      · have hzd : decide (z < 0) = true := by rw [HZ.out]; exact decide_eq_true hz
        have hz0 : z < 0 := by simpa using hzd
        obtain ⟨N1, N2⟩ := HNA.out hz
        have HN1 := hidD N1
        have HN2 := hidD N2
        clear HNA HNB N1 N2 hb0 hb1 Q1 Q2 c10 c11 c00 c01 HZ hzd hbl
        go_wp2_with fail
        go_quiet_grown (first | (go_at_call 28; exact Calls.grown_of (hb _)) | exact Calls.grown_of (hb _))
        have R1 := Q1' nq osq
        have R2 := Q2' nq osq
        have R3 := Q3' nq osq
        have R4 := Q4' nq osq
        have RH0 := hb0' nq osq
        have RH1 := hb1' nq osq
        have RB := hbl' nq osq
        clear Q1' Q2' Q3' Q4' hb0' hb1' hbl' hb
        generalize grow (wr.drewN nq) osq = w3 at *
        have F0 : w3.frozen? ⟨B + 1, 0, none⟩ = false := by simp [World.frozen?, RH1.out]
        have F1 : w3.frozen? ⟨B + 1, 1, none⟩ = false := by simp [World.frozen?, RH1.out]
        have HS : Hid (B = w.heap.size) := HB
        go_wp2
        refine ⟨⟨k + 1, by omega, by omega, by go_num, ?_, ?_, lset2_below _ _ RB.out (by have := HB.out; omega)⟩, by simp [intOf]; omega⟩
        · rw [lset2_other _ _ (by omega)]; exact RH0.out
        · rw [Nat.add_sub_cancel, HN1.out, HN2.out]; exact lset2_at _ _ RH1.out
      · have hzd : decide (z < 0) = false := by rw [HZ.out]; exact decide_eq_false hz
        have hz0 : ¬ z < 0 := by simpa using hzd
        obtain ⟨N1, N2⟩ := HNB.out hz
        have HN1 := hidD N1
        have HN2 := hidD N2
        clear HNA HNB N1 N2 hb0 hb1 Q1 Q2 c10 c11 c00 c01 HZ hbl
        go_wp2_with fail
        go_quiet_grown (first | (go_at_call 28; exact Calls.grown_of (hb _)) | exact Calls.grown_of (hb _))
        have RH0 := hb0' nq osq
        have RH1 := hb1' nq osq
        have RB := hbl' nq osq
        clear Q1' Q2' Q3' Q4' hb0' hb1' hbl' hb
        generalize grow (wr.drewN nq) osq = w3 at *
        go_wp2
        refine ⟨⟨k + 1, by omega, by omega, by go_num, RH0.out, ?_, RB.out⟩, by simp [intOf]; omega⟩
        rw [Nat.add_sub_cancel, HN1.out, HN2.out]; exact RH1.out
    · obtain rfl : k = N := by omega
      rw [← HL.out] at hb1
      have c10 : wr.cell? ⟨B + 1, 0, none⟩ = some (.int .i64 (Lo.id' l LL)) := cell_of hb1 rfl
      have c11 : wr.cell? ⟨B + 1, 1, none⟩ = some (.int .i64 (Lo.bu l LL)) := cell_of hb1 rfl
      have F0 : wr.frozen? ⟨B, 0, none⟩ = false := by simp [World.frozen?, hb0]
      have F1 : wr.frozen? ⟨B, 1, none⟩ = false := by simp [World.frozen?, hb0]
      have RH0 := hidD hb0
      have HBL := hidD hbl
      clear hb0 hb1 hbl
      go_wp2
      refine bodyPost_ret (ret_min rfl (cell_of (lset2_at _ _ RH0.out) rfl) (cell_of (lset2_at _ _ RH0.out) rfl)) rfl ?_
      exact ⟨rfl, lset2_below _ _ HBL.out (by have := HB.out; omega)⟩

theorem lleast_bad (v : Value) (l : List Rp.Pt) (w : World) (hv : PSeg .i64 w v l) (he : Lo.peopledE l ≠ 0) :
    Calls Try.prog 10 #[v] w fun e w' => e = .returned (.tuple #[.int .i64 0, .int .i64 (Lo.peopledE l)]) ∧ Below w.heap.size w w' := by
  have c := lpeopled_any v l w hv
  obtain ⟨a, cap, rfl, h1, h2, h3, h4⟩ := id hv
  clear hv h3 h4
  generalize Lo.peopledE l = E at *
  have hb0 : (E == 0) = false := by simp; omega
  go_enter Try.func10, Try.ntmps10
  go_wp2_with fail
  with_reducible refine c.mono ?_
  rintro e w' ⟨rfl, b1⟩
  go_wp2
  go_ret2
  exact ⟨rfl, b1⟩
theorem lleast_good (v : Value) (l : List Rp.Pt) (w : World) (hv : PSeg .i64 w v l) (he : Lo.peopledE l = 0) :
    Calls Try.prog 10 #[v] w fun e w' => e = .returned (.tuple #[.int .i64 (Lo.id' l (Lo.least l)), .int .i64 0]) ∧ Below w.heap.size w w' := by
  have c := lpeopled_any v l w hv
  rw [he] at c
  have h0 := (Lo.people_ok he).2
  have c2 := fun W (h : Below w.heap.size w W) => minL_any v l W (hv.below h) h0
  obtain ⟨a, cap, rfl, h1, h2, h3, h4⟩ := id hv
  clear hv h3 h4 he h0
  generalize Lo.id' l (Lo.least l) = X at *
  generalize Lo.bu l (Lo.least l) = Y at *
  go_enter Try.func10, Try.ntmps10
  go_wp2_with fail
  with_reducible refine c.mono ?_
  rintro e w' ⟨rfl, b1⟩
  have c3 := c2 w' b1
  clear c2 c
  go_wp2_with fail
  with_reducible refine c3.mono ?_
  rintro e w2 ⟨rfl, b2⟩
  have b3 := Below.step b1 b2
  clear b1 b2 c3
  go_wp2
  go_ret2
  exact ⟨rfl, b3.alloc b3.size _⟩
theorem lleast_any (v : Value) (l : List Rp.Pt) (w : World) (hv : PSeg .i64 w v l) :
    Calls Try.prog 10 #[v] w fun e w' => e = .returned (.tuple #[.int .i64 (if Lo.peopledE l = 0 then Lo.id' l (Lo.least l) else 0), .int .i64 (Lo.peopledE l)]) ∧ Below w.heap.size w w' := by
  by_cases h : Lo.peopledE l = 0
  · rw [if_pos h, h]; exact lleast_good v l w hv h
  · rw [if_neg h]; exact lleast_bad v l w hv h
end Go.Proofs.Ytcpcnajifdicmaa
