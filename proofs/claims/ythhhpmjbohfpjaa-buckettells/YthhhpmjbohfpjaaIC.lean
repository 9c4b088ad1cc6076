/- bucket: settings, levels, numbers, acts that may be. -/
import Derived.Test.YthhhpmjbohfpjaaIB
namespace Go.Proofs.Ythhhpmjbohfpjaa
open Go.RowKit
set_option linter.unusedVariables false
set_option maxRecDepth 20000

theorem seg_bo {w : World} {b : Nat} {l : List Int} {T : TypeId} (h : Bo w b (i64s l) T) (hl : l.length ≤ 1000) : Seg .i64 w (.slice (some ⟨b, 0, none⟩) l.length l.length) l := by
  refine ⟨some ⟨b, 0, none⟩, l.length, rfl, Nat.le_refl _, by unfold maxLen; omega, fun h => (by cases h), fun x hx i hi => ?_⟩
  cases hx
  rw [add_plain, Nat.zero_add, h.cell i (u := .int .i64 (l.getD i 0)) (by simp [i64s, hi, List.getD])]
theorem Bu.sets_alls (s : Bu.Se) : Bu.sets s = (Bu.alls [s.c, s.t, s.r] 0 1000 && Bu.alls [s.p] s.r 1000) := by
  unfold Bu.sets Bu.alls
  simp [Bool.and_assoc]
theorem Bu.alls_one (a c n : Int) : Bu.alls [n] a c = Bu.inn n a c := by unfold Bu.alls; simp

set_option maxHeartbeats 1000000 in
theorem maySet_any (s : Bu.Se) (w : World) : Calls Try.prog 23 #[vS s] w fun e w' => e = .returned (.bool (Bu.sets s)) ∧ Below w.heap.size w w' := by
  rw [Bu.sets_alls]
  obtain ⟨C, K, R, P⟩ := s
  dsimp only
  obtain ⟨W0, hW0, B0, B1, HB, HS⟩ := two_boxes w [.int .i64 C, .int .i64 K, .int .i64 R, .int .i64 P] [.int .i64 C, .int .i64 K, .int .i64 R] 23 3
  have c1 := within_any 0 1000 _ [C, K, R] W0 (seg_bo B1 (by simp))
  have c2 := hidD (fun (W : World) h => within_any R 1000 (.slice (some ⟨W.heap.size, 0, none⟩) 1 1) [P] (W.alloc (.cells #[.int .i64 P] 3)) h)
  generalize Bu.alls [C, K, R] 0 1000 = b1 at *
  generalize Bu.alls [P] R 1000 = b2 at *
  simp only [List.length_cons, List.length_nil, Nat.zero_add, Nat.reduceAdd] at c1
  go_enter Try.func23, Try.ntmps23
  go_wp2_with fail
  rw [← hW0]
  clear hW0
  with_reducible refine c1.mono ?_
  rintro e w1 ⟨rfl, h1⟩
  have X0 := B0.below h1
  have hb1 := hidD (below_on HB (by omega) h1)
  have hs1 := h1.size
  cases b1
  · clear X0 B0 B1 HB HS h1 c1 c2 hs1
    go_wp2_with fail
    go_ret
    exact ⟨rfl, hb1.out⟩
  · have q2 := X0.cell 2 rfl
    have q3 := X0.cell 3 rfl
    have c := c2.out w1 (seg_bo (l := [P]) (Bo.new w1 [.int .i64 P] 3) (by simp))
    have hb2 := hidD (hb1.out.alloc (by omega) (.cells #[.int .i64 P] 3))
    have hs2 : Hid (w.heap.size ≤ (w1.alloc (.cells #[.int .i64 P] 3)).heap.size) := hidD (by rw [World.size_alloc]; omega)
    clear X0 B0 B1 HB HS h1 c1 c2 hs1
    go_wp2_with fail
    with_reducible refine c.mono ?_
    rintro e w2 ⟨rfl, h2⟩
    have hb3 := hidD (below_on hb2.out hs2.out h2)
    clear h2 c
    go_wp2_with fail
    go_ret
    exact ⟨by cases b2 <;> rfl, hb3.out⟩

theorem ret_budget {fn : Func} {k : Nat} (h : fn.results = #[.cell k 50]) {W : World} {tmps : Array Value} {b : Nat} {x0 x1 x2 x3 x4 : Value} (ht : tmps.getD k undef = .pointer (some ⟨b, 0, none⟩))
    (hB : Bo W b [x0, x1, x2, x3, x4] 50) : (results fn tmps).run Try.prog W = .ok (.agg #[x0, x1, x2, x3, x4]) W := by
  have h0 := hB.cell 0 rfl
  have h1 := hB.cell 1 rfl
  have h2 := hB.cell 2 rfl
  have h3 := hB.cell 3 rfl
  have h4 := hB.cell 4 rfl
  rw [Array.getD_eq_getD_getElem?] at ht
  simp [results, h]
  go_simp
/-- A budget, stored. -/
abbrev put5 (w : World) (b : Nat) (s : Bu.Se) (v : Int) : World := ((((w.setCell ⟨b, 0, none⟩ (.int .i64 s.c)).setCell ⟨b, 1, none⟩ (.int .i64 s.t)).setCell ⟨b, 2, none⟩ (.int .i64 s.r)).setCell ⟨b, 3, none⟩ (.int .i64 s.p)).setCell ⟨b, 4, none⟩ (.int .i64 v)
theorem put5_bo {w : World} {b : Nat} {x0 x1 x2 x3 x4 : Value} {m : List Value} {T : TypeId} (s : Bu.Se) (v : Int) (h : Bo w b (x0 :: x1 :: x2 :: x3 :: x4 :: m) T) : Bo (put5 w b s v) b (bL s v m) T := ((((h.set 0 _).set 1 _).set 2 _).set 3 _).set 4 _
theorem put5_cg (w : World) (b : Nat) (s : Bu.Se) (v : Int) : Cg b w (put5 w b s v) := ((((Cg.set w 0 _).trans (Cg.set _ 1 _)).trans (Cg.set _ 2 _)).trans (Cg.set _ 3 _)).trans (Cg.set _ 4 _)

set_option maxHeartbeats 1000000 in
theorem begun_any (s : Bu.Se) (hr : IntKind.i64.wrap (1000 * s.r) = 1000 * s.r) (w : World) : Calls Try.prog 24 #[vS s] w fun e w' => e = .returned (.agg #[.int .i64 s.c, .int .i64 s.t, .int .i64 s.r, .int .i64 s.p, .int .i64 (1000 * s.r)]) ∧ Below w.heap.size w w' := by
  obtain ⟨W0, hW0, B0, B1, HB, HS⟩ := two_boxes w (sL s) (List.replicate 5 (.int .i64 0)) 23 50
  have S := hidD (put5_bo s (1000 * s.r) (m := []) B1)
  have SB := hidD ((put5_cg W0 (w.heap.size + 1) s (1000 * s.r)).below (B := w.heap.size) (by omega) (by omega) HB)
  obtain ⟨N, hN⟩ : ∃ N, N = w.heap.size := ⟨_, rfl⟩
  rw [← hN] at B0 B1 S SB ⊢
  have p0 := B0.cell 0 rfl
  have p1 := B0.cell 1 rfl
  have p2 := B0.cell 2 rfl
  have p3 := B0.cell 3 rfl
  have q0 := B1.cell 0 rfl
  have q1 := B1.cell 1 rfl
  have q2 := B1.cell 2 rfl
  have q3 := B1.cell 3 rfl
  have q4 := B1.cell 4 rfl
  have f0 := B1.frozen 0
  have f1 := B1.frozen 1
  have f2 := B1.frozen 2
  have f3 := B1.frozen 3
  have f4 := B1.frozen 4
  clear B0 B1 HB HS
  obtain ⟨C, K, R, P⟩ := s
  dsimp only at *
  simp only [sL, List.replicate] at hW0
  go_enter Try.func24, Try.ntmps24
  go_upto_region 1 with fail
  rw [← hN, ← hW0]
  clear hW0 hN
  go_wp2_with fail
  refine bodyPost_ret (ret_budget rfl rfl S.out) rfl ?_
  exact ⟨rfl, SB.out⟩

set_option maxHeartbeats 1000000 in
theorem bcheck_any (s : Bu.Se) (v : Int) (w : World) : Calls Try.prog 18 #[vS s, .int .i64 v] w fun e w' => e = .returned (.int .i64 (Bu.chk s v)) ∧ Below w.heap.size w w' := by
  have c1 := fun W => maySet_any s W
  have c2 := hidD (fun (W : World) h => within_any 0 (1000 * s.p) (.slice (some ⟨W.heap.size, 0, none⟩) 1 1) [v] (W.alloc (.cells #[.int .i64 v] 3)) h)
  have HW : Hid (Bu.sets s = true → IntKind.i64.wrap (1000 * s.p) = 1000 * s.p) := hidD (fun h => by have := Bu.sets_iff.1 h; exact wrap_ok (by omega) (by omega))
  unfold Bu.chk
  rw [Bu.alls_one] at c2
  generalize Bu.sets s = b1 at *
  generalize Bu.inn v 0 (1000 * s.p) = b2 at *
  have HB := hidD ((Below.refl w.heap.size w).alloc (Nat.le_refl _) (.cells (sL s).toArray 23))
  have B0 := hidD (Bo.new w (sL s) 23)
  have HS : Hid (w.heap.size ≤ (w.alloc (.cells (sL s).toArray 23)).heap.size) := hidD (by rw [World.size_alloc]; omega)
  obtain ⟨W0, hW0⟩ : ∃ W0, W0 = w.alloc (.cells (sL s).toArray 23) := ⟨_, rfl⟩
  obtain ⟨N, hN⟩ : ∃ N, N = w.heap.size := ⟨_, rfl⟩
  rw [← hW0] at HB B0 HS
  rw [← hN] at HB B0 HS ⊢
  simp only [sL] at hW0
  obtain ⟨C, K, R, P⟩ := s
  dsimp only at *
  go_enter Try.func18, Try.ntmps18
  go_wp2_with fail
  rw [← hN, ← hW0]
  clear hW0 hN
  with_reducible refine (c1 _).mono ?_
  rintro e w1 ⟨rfl, h1⟩
  have X0 := B0.out.below h1
  have hb1 := hidD (below_on HB.out HS.out h1)
  have hs1 := hidD (Nat.le_trans HS.out h1.size)
  clear B0 HB HS h1 c1
  cases b1
  · clear X0 c2 HW
    go_wp2_with fail
    go_ret
    exact ⟨by first | rfl | simp [hk] | simp [hl], hb1.out⟩
  · have hw := HW.out rfl
    have q3 := X0.cell 3 rfl
    have c := c2.out w1 (seg_bo (l := [v]) (Bo.new w1 [.int .i64 v] 3) (by simp))
    have hb2 := hidD (hb1.out.alloc hs1.out (.cells #[.int .i64 v] 3))
    have hs2 : Hid (N ≤ (w1.alloc (.cells #[.int .i64 v] 3)).heap.size) := hidD (by rw [World.size_alloc]; have := hs1.out; omega)
    clear X0 c2 HW hb1 hs1
    go_wp2_with fail
    with_reducible refine c.mono ?_
    rintro e w2 ⟨rfl, h2⟩
    have hb3 := hidD (below_on hb2.out hs2.out h2)
    clear h2 c hb2 hs2
    cases b2
    · go_wp2_with fail
      go_ret
      exact ⟨by first | rfl | simp [hk] | simp [hl], hb3.out⟩
    · go_wp2_with fail
      go_ret
      exact ⟨by first | rfl | simp [hk] | simp [hl], hb3.out⟩

set_option maxHeartbeats 1000000 in
theorem mayCount_any (s : Bu.Se) (v n : Int) (w : World) : Calls Try.prog 26 #[vS s, .int .i64 v, .int .i64 n] w fun e w' => e = .returned (.int .i64 (Bu.addE s v n)) ∧ Below w.heap.size w w' := by
  have c1 := fun W => bcheck_any s v W
  have c2 := hidD (fun (W : World) h => within_any 0 1048576 (.slice (some ⟨W.heap.size, 0, none⟩) 1 1) [n] (W.alloc (.cells #[.int .i64 n] 3)) h)
  unfold Bu.addE
  rw [Bu.alls_one] at c2
  generalize Bu.chk s v = e1 at *
  generalize Bu.inn n 0 1048576 = b2 at *
  have HB := hidD ((Below.refl w.heap.size w).alloc (Nat.le_refl _) (.cells (sL s).toArray 23))
  have B0 := hidD (Bo.new w (sL s) 23)
  have HS : Hid (w.heap.size + 1 ≤ (w.alloc (.cells (sL s).toArray 23)).heap.size) := hidD (by rw [World.size_alloc]; omega)
  obtain ⟨W0, hW0⟩ : ∃ W0, W0 = w.alloc (.cells (sL s).toArray 23) := ⟨_, rfl⟩
  obtain ⟨N, hN⟩ : ∃ N, N = w.heap.size := ⟨_, rfl⟩
  rw [← hW0] at HB B0 HS
  rw [← hN] at HB B0 HS ⊢
  simp only [sL] at hW0
  go_enter Try.func26, Try.ntmps26
  go_wp2_with fail
  rw [← hN, ← hW0]
  clear hW0 hN
  with_reducible refine (c1 _).mono ?_
  rintro e w1 ⟨rfl, h1⟩
  have hb1 := hidD (below_on HB.out (Nat.le_of_succ_le HS.out) h1)
  have hs1 := hidD (Nat.le_trans (Nat.le_of_succ_le HS.out) h1.size)
  clear B0 HB HS h1 c1
  by_cases hk : e1 = 0
  · subst hk
    have c := c2.out w1 (seg_bo (l := [n]) (Bo.new w1 [.int .i64 n] 3) (by simp))
    have hb2 := hidD (hb1.out.alloc hs1.out (.cells #[.int .i64 n] 3))
    have hs2 : Hid (N ≤ (w1.alloc (.cells #[.int .i64 n] 3)).heap.size) := hidD (by rw [World.size_alloc]; have := hs1.out; omega)
    clear c2 hb1 hs1
    go_wp2_with fail
    with_reducible refine c.mono ?_
    rintro e w2 ⟨rfl, h2⟩
    have hb3 := hidD (below_on hb2.out hs2.out h2)
    clear h2 c hb2 hs2
    cases b2
    · go_wp2_with fail
      go_ret
      exact ⟨by first | rfl | simp [hk] | simp [hl], hb3.out⟩
    · go_wp2_with fail
      go_ret
      exact ⟨by first | rfl | simp [hk] | simp [hl], hb3.out⟩
  · have hk1 : (e1 != 0) = true := by simp [hk]
    clear c2
    go_wp2_with fail
    go_ret
    exact ⟨by first | rfl | simp [hk] | simp [hl], hb1.out⟩

theorem Bu.kinds_alls (l : List Int) : Bu.kinds l = Bu.alls l 1 3 := rfl
set_option maxHeartbeats 1000000 in
theorem mayRun_any (s : Bu.Se) (v : Value) (l : List Int) (w : World) (hv : Seg .i64 w v l) : Calls Try.prog 32 #[vS s, v] w fun e w' => e = .returned (.int .i64 (Bu.runE s l)) ∧ Below w.heap.size w w' := by
  have c1 := fun W => maySet_any s W
  have c2 := hidD (fun W (h : Below w.heap.size w W) => within_any 1 3 v l W (hv.below h))
  unfold Bu.runE
  rw [Bu.kinds_alls]
  generalize Bu.sets s = b1 at *
  generalize Bu.alls l 1 3 = b2 at *
  obtain ⟨a, cap, rfl, g1, g2, _, _⟩ := hv
  generalize l.length = n at *
  unfold maxLen at g2
  have HB := hidD ((Below.refl w.heap.size w).alloc (Nat.le_refl _) (.cells (sL s).toArray 23))
  have B0 := hidD (Bo.new w (sL s) 23)
  have HS : Hid (w.heap.size + 1 ≤ (w.alloc (.cells (sL s).toArray 23)).heap.size) := hidD (by rw [World.size_alloc]; omega)
  obtain ⟨W0, hW0⟩ : ∃ W0, W0 = w.alloc (.cells (sL s).toArray 23) := ⟨_, rfl⟩
  obtain ⟨N, hN⟩ : ∃ N, N = w.heap.size := ⟨_, rfl⟩
  rw [← hW0] at HB B0 HS
  rw [← hN] at HB B0 HS c2 ⊢
  simp only [sL] at hW0
  go_enter Try.func32, Try.ntmps32
  go_wp2_with fail
  rw [← hN, ← hW0]
  clear hW0 hN
  with_reducible refine (c1 _).mono ?_
  rintro e w1 ⟨rfl, h1⟩
  have hb1 := hidD (below_on HB.out (Nat.le_of_succ_le HS.out) h1)
  have hs1 := hidD (Nat.le_trans (Nat.le_of_succ_le HS.out) h1.size)
  clear B0 HB HS h1 c1
  cases b1
  · clear c2
    go_wp2_with fail
    go_ret
    exact ⟨by first | rfl | simp [hk] | simp [hl], hb1.out⟩
  · have c := hidD (c2.out w1 hb1.out)
    clear c2
    by_cases hl : 4096 < n
    · have hl2 : decide ((4096 : Int) < (n : Int)) = true := decide_eq_true (by omega)
      go_wp2_with fail
      go_ret
      exact ⟨by first | rfl | simp [hk] | simp [hl], hb1.out⟩
    · have hl2 : ¬ (4096 : Int) < (n : Int) := by omega
      go_wp2_with fail
      with_reducible refine c.out.mono ?_
      rintro e w2 ⟨rfl, h2⟩
      have hb3 := hidD (below_on hb1.out hs1.out h2)
      clear h2 c hb1 hs1
      cases b2
      · go_wp2_with fail
        go_ret
        exact ⟨by first | rfl | simp [hk] | simp [hl], hb3.out⟩
      · go_wp2_with fail
        go_ret
        exact ⟨by first | rfl | simp [hk] | simp [hl], hb3.out⟩
end Go.Proofs.Ythhhpmjbohfpjaa
