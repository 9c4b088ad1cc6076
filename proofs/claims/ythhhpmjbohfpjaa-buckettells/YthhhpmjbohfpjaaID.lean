/- bucket: Start, Calls, Ticks, Take. -/
import Derived.Test.YthhhpmjbohfpjaaIC
namespace Go.Proofs.Ythhhpmjbohfpjaa
open Go.RowKit
set_option linter.unusedVariables false
set_option maxRecDepth 20000

theorem field_level (x0 x1 x2 x3 : Value) (z : Int) (w : World) : (Instr.field 50 (.agg #[x0, x1, x2, x3, .int .i64 z]) 1).run Try.prog w = .ok (.int .i64 z) w := by rfl
theorem Bu.each {s : Bu.Se} (h : Bu.sets s = true) : (0 ≤ s.c ∧ s.c ≤ 1000) ∧ (0 ≤ s.t ∧ s.t ≤ 1000) ∧ IntKind.i64.wrap (1000 * s.r) = 1000 * s.r ∧ IntKind.i64.wrap (1000 * s.p) = 1000 * s.p := by
  obtain ⟨_, _, _, _, _, _, _, _⟩ := Bu.sets_iff.1 h
  exact ⟨⟨by omega, by omega⟩, ⟨by omega, by omega⟩, wrap_ok (by omega) (by omega), wrap_ok (by omega) (by omega)⟩
theorem Bu.wraps {s : Bu.Se} {v n e : Int} (h : Bu.addE s v n = 0) (he : 0 ≤ e ∧ e ≤ 1000) : IntKind.i64.wrap (n * e) = n * e ∧ IntKind.i64.wrap (v + n * e) = v + n * e ∧ IntKind.i64.wrap (1000 * s.p) = 1000 * s.p := by
  obtain ⟨h1, n0, n1⟩ := Bu.addE_zero h
  obtain ⟨hs, v0, v1⟩ := Bu.chk_zero h1
  obtain ⟨_, _, _, _, _, _, _, _⟩ := Bu.sets_iff.1 hs
  obtain ⟨m0, m1⟩ := mul_range n0 n1 he.1 he.2
  exact ⟨wrap_ok (by omega) (by omega), wrap_ok (by omega) (by omega), wrap_ok (by omega) (by omega)⟩
theorem Bu.of_add {s : Bu.Se} {v n : Int} (h : Bu.addE s v n = 0) : (0 ≤ s.c ∧ s.c ≤ 1000) ∧ (0 ≤ s.t ∧ s.t ≤ 1000) := ⟨(Bu.each (Bu.chk_zero (Bu.addE_zero h).1).1).1, (Bu.each (Bu.chk_zero (Bu.addE_zero h).1).1).2.1⟩

set_option maxHeartbeats 1000000 in
theorem ostart_any (s : Bu.Se) (w : World) : Calls Try.prog 9 #[vS s] w fun e w' => e = .returned (.tuple #[.int .i64 (Bu.startR s), .int .i64 (Bu.startE s)]) ∧ Below w.heap.size w w' := by
  have c1 := fun W => maySet_any s W
  have c2 := hidD (fun (h : Bu.sets s = true) W => begun_any s (Bu.each h).2.2.1 W)
  unfold Bu.startR Bu.startE
  generalize Bu.sets s = b1 at *
  have HB := hidD ((Below.refl w.heap.size w).alloc (Nat.le_refl _) (.cells (sL s).toArray 23))
  have B0 := hidD (Bo.new w (sL s) 23)
  have HS : Hid (w.heap.size + 1 ≤ (w.alloc (.cells (sL s).toArray 23)).heap.size) := hidD (by rw [World.size_alloc]; omega)
  obtain ⟨W0, hW0⟩ : ∃ W0, W0 = w.alloc (.cells (sL s).toArray 23) := ⟨_, rfl⟩
  obtain ⟨N, hN⟩ : ∃ N, N = w.heap.size := ⟨_, rfl⟩
  rw [← hW0] at HB B0 HS
  rw [← hN] at HB B0 HS ⊢
  simp only [sL] at hW0
  go_enter Try.func9, Try.ntmps9
  go_wp2_with fail
  rw [← hN, ← hW0]
  clear hW0 hN
  with_reducible refine (c1 _).mono ?_
  rintro e w1 ⟨rfl, h1⟩
  have X0 := B0.out.below h1
  have hb1 := hidD (below_on HB.out (Nat.le_of_succ_le HS.out) h1)
  have hs1 := hidD (Nat.le_trans (Nat.le_of_succ_le HS.out) h1.size)
  have p0 := X0.cell 0 rfl
  have p1 := X0.cell 1 rfl
  have p2 := X0.cell 2 rfl
  have p3 := X0.cell 3 rfl
  clear B0 HB HS h1 c1 X0
  cases b1
  · clear c2
    go_wp2_with fail
    go_ret2
    exact ⟨rfl, hb1.out⟩
  · have c := c2.out (by first | trivial | rfl) w1
    clear c2
    go_wp2_with fail
    with_reducible refine c.mono ?_
    rintro e w2 ⟨rfl, h2⟩
    have hb2 := hidD (below_on hb1.out hs1.out h2)
    clear c h2
    go_wp2_with fail
    rw [field_level]
    go_wp2_with fail
    go_ret2
    exact ⟨rfl, hb2.out⟩

set_option maxHeartbeats 1000000 in
theorem ocalls_any (s : Bu.Se) (v n : Int) (w : World) : Calls Try.prog 11 #[vS s, .int .i64 v, .int .i64 n] w fun e w' => e = .returned (.tuple #[.int .i64 (Bu.addR s v n s.c), .int .i64 (Bu.addE s v n)]) ∧ Below w.heap.size w w' := by
  have c1 := fun W => mayCount_any s v n W
  have c2 := hidD (fun (hk : Bu.addE s v n = 0) B W (h : Bo W B (bL s v []) 50) => callsP_any B s v [] 50 n W h (Bu.wraps hk (Bu.of_add hk).1).1 (Bu.wraps hk (Bu.of_add hk).1).2.1 (Bu.wraps hk (Bu.of_add hk).1).2.2)
  have HC0 : Hid (Bu.addE s v n = 0 → Bu.addR s v n s.c = Bu.up s (v + n * s.c)) := hidD (fun h => if_pos h)
  have HC1 : Hid (¬ Bu.addE s v n = 0 → Bu.addR s v n s.c = 0) := hidD (fun h => if_neg h)
  generalize Bu.addR s v n s.c = z at *
  generalize Bu.up s (v + n * s.c) = y at *
  generalize Bu.addE s v n = k at *
  have HB := hidD ((Below.refl w.heap.size w).alloc (Nat.le_refl _) (.cells (sL s).toArray 23))
  have B0 := hidD (Bo.new w (sL s) 23)
  have HS : Hid (w.heap.size + 1 ≤ (w.alloc (.cells (sL s).toArray 23)).heap.size) := hidD (by rw [World.size_alloc]; omega)
  obtain ⟨W0, hW0⟩ : ∃ W0, W0 = w.alloc (.cells (sL s).toArray 23) := ⟨_, rfl⟩
  obtain ⟨N, hN⟩ : ∃ N, N = w.heap.size := ⟨_, rfl⟩
  rw [← hW0] at HB B0 HS
  rw [← hN] at HB B0 HS ⊢
  simp only [sL] at hW0
  go_enter Try.func11, Try.ntmps11
  go_wp2_with fail
  rw [← hN, ← hW0]
  clear hW0 hN
  with_reducible refine (c1 _).mono ?_
  rintro e w1 ⟨rfl, h1⟩
  have X0 := B0.out.below h1
  have hb1 := hidD (below_on HB.out (Nat.le_of_succ_le HS.out) h1)
  have hs1 := hidD (Nat.le_trans (Nat.le_of_succ_le HS.out) h1.size)
  have p0 := X0.cell 0 rfl
  have p1 := X0.cell 1 rfl
  have p2 := X0.cell 2 rfl
  have p3 := X0.cell 3 rfl
  clear B0 HB HS h1 c1 X0
  by_cases hk : k = 0
  · subst hk
    have hZ := HC0.out rfl
    subst hZ
    have c : Calls _ _ _ _ _ := c2.out rfl _ _ (Bo.new w1 (bL s v []) 50)
    have hb2 := hidD (hb1.out.alloc hs1.out (.cells (bL s v []).toArray 50))
    have hs2 : Hid (N ≤ (w1.alloc (.cells (bL s v []).toArray 50)).heap.size) := hidD (by rw [World.size_alloc]; have := hs1.out; omega)
    clear HC0 HC1 c2 hb1
    go_wp2_with fail
    with_reducible refine c.mono ?_
    rintro e w2 ⟨rfl, b2, g2⟩
    have q4 := b2.cell 4 rfl
    have hb3 := hidD (g2.below (B := N) hs1.out hs2.out hb2.out)
    clear c b2 g2 hb2 hs2 p0 p1 p2 p3
    go_wp2_with fail
    go_ret2
    exact ⟨rfl, hb3.out⟩
  · have hZ := HC1.out hk
    subst hZ
    have hk1 : (k != 0) = true := by simp [hk]
    clear HC0 HC1 c2 hs1
    go_wp2_with fail
    go_ret2
    exact ⟨rfl, hb1.out⟩

set_option maxHeartbeats 1000000 in
theorem oticks_any (s : Bu.Se) (v n : Int) (w : World) : Calls Try.prog 13 #[vS s, .int .i64 v, .int .i64 n] w fun e w' => e = .returned (.tuple #[.int .i64 (Bu.addR s v n s.t), .int .i64 (Bu.addE s v n)]) ∧ Below w.heap.size w w' := by
  have c1 := fun W => mayCount_any s v n W
  have c2 := hidD (fun (hk : Bu.addE s v n = 0) B W (h : Bo W B (bL s v []) 50) => ticksP_any B s v [] 50 n W h (Bu.wraps hk (Bu.of_add hk).2).1 (Bu.wraps hk (Bu.of_add hk).2).2.1 (Bu.wraps hk (Bu.of_add hk).2).2.2)
  have HC0 : Hid (Bu.addE s v n = 0 → Bu.addR s v n s.t = Bu.up s (v + n * s.t)) := hidD (fun h => if_pos h)
  have HC1 : Hid (¬ Bu.addE s v n = 0 → Bu.addR s v n s.t = 0) := hidD (fun h => if_neg h)
  generalize Bu.addR s v n s.t = z at *
  generalize Bu.up s (v + n * s.t) = y at *
  generalize Bu.addE s v n = k at *
  have HB := hidD ((Below.refl w.heap.size w).alloc (Nat.le_refl _) (.cells (sL s).toArray 23))
  have B0 := hidD (Bo.new w (sL s) 23)
  have HS : Hid (w.heap.size + 1 ≤ (w.alloc (.cells (sL s).toArray 23)).heap.size) := hidD (by rw [World.size_alloc]; omega)
  obtain ⟨W0, hW0⟩ : ∃ W0, W0 = w.alloc (.cells (sL s).toArray 23) := ⟨_, rfl⟩
  obtain ⟨N, hN⟩ : ∃ N, N = w.heap.size := ⟨_, rfl⟩
  rw [← hW0] at HB B0 HS
  rw [← hN] at HB B0 HS ⊢
  simp only [sL] at hW0
  go_enter Try.func13, Try.ntmps13
  go_wp2_with fail
  rw [← hN, ← hW0]
  clear hW0 hN
  with_reducible refine (c1 _).mono ?_
  rintro e w1 ⟨rfl, h1⟩
  have X0 := B0.out.below h1
  have hb1 := hidD (below_on HB.out (Nat.le_of_succ_le HS.out) h1)
  have hs1 := hidD (Nat.le_trans (Nat.le_of_succ_le HS.out) h1.size)
  have p0 := X0.cell 0 rfl
  have p1 := X0.cell 1 rfl
  have p2 := X0.cell 2 rfl
  have p3 := X0.cell 3 rfl
  clear B0 HB HS h1 c1 X0
  by_cases hk : k = 0
  · subst hk
    have hZ := HC0.out rfl
    subst hZ
    have c : Calls _ _ _ _ _ := c2.out rfl _ _ (Bo.new w1 (bL s v []) 50)
    have hb2 := hidD (hb1.out.alloc hs1.out (.cells (bL s v []).toArray 50))
    have hs2 : Hid (N ≤ (w1.alloc (.cells (bL s v []).toArray 50)).heap.size) := hidD (by rw [World.size_alloc]; have := hs1.out; omega)
    clear HC0 HC1 c2 hb1
    go_wp2_with fail
    with_reducible refine c.mono ?_
    rintro e w2 ⟨rfl, b2, g2⟩
    have q4 := b2.cell 4 rfl
    have hb3 := hidD (g2.below (B := N) hs1.out hs2.out hb2.out)
    clear c b2 g2 hb2 hs2 p0 p1 p2 p3
    go_wp2_with fail
    go_ret2
    exact ⟨rfl, hb3.out⟩
  · have hZ := HC1.out hk
    subst hZ
    have hk1 : (k != 0) = true := by simp [hk]
    clear HC0 HC1 c2 hs1
    go_wp2_with fail
    go_ret2
    exact ⟨rfl, hb1.out⟩

set_option maxHeartbeats 1000000 in
theorem otake_any (s : Bu.Se) (v : Int) (w : World) : Calls Try.prog 15 #[vS s, .int .i64 v] w fun e w' => e = .returned (.tuple #[.int .i64 (Bu.takeR s v), .bool (Bu.takeB s v), .int .i64 (Bu.chk s v)]) ∧ Below w.heap.size w w' := by
  have c1 := fun W => bcheck_any s v W
  have c2 := hidD (fun (hk : Bu.chk s v = 0) B W (h : Bo W B (bL s v []) 50) => takeP_any B s v [] 50 W h (by obtain ⟨hs, v0, v1⟩ := Bu.chk_zero hk; obtain ⟨_, _, _, _, _, _, _, _⟩ := Bu.sets_iff.1 hs; exact wrap_ok (by omega) (by omega)))
  have HC0 : Hid (Bu.chk s v = 0 → Bu.takeR s v = (if 1000 ≤ v then v - 1000 else v) ∧ Bu.takeB s v = decide (1000 ≤ v)) := hidD (fun h => ⟨if_pos h, if_pos h⟩)
  have HC1 : Hid (¬ Bu.chk s v = 0 → Bu.takeR s v = 0 ∧ Bu.takeB s v = false) := hidD (fun h => ⟨if_neg h, if_neg h⟩)
  generalize Bu.takeR s v = z at *
  generalize Bu.takeB s v = zb at *
  generalize (if 1000 ≤ v then v - 1000 else v) = y at *
  generalize decide (1000 ≤ v) = yb at *
  generalize Bu.chk s v = k at *
  have HB := hidD ((Below.refl w.heap.size w).alloc (Nat.le_refl _) (.cells (sL s).toArray 23))
  have B0 := hidD (Bo.new w (sL s) 23)
  have HS : Hid (w.heap.size + 1 ≤ (w.alloc (.cells (sL s).toArray 23)).heap.size) := hidD (by rw [World.size_alloc]; omega)
  obtain ⟨W0, hW0⟩ : ∃ W0, W0 = w.alloc (.cells (sL s).toArray 23) := ⟨_, rfl⟩
  obtain ⟨N, hN⟩ : ∃ N, N = w.heap.size := ⟨_, rfl⟩
  rw [← hW0] at HB B0 HS
  rw [← hN] at HB B0 HS ⊢
  simp only [sL] at hW0
  go_enter Try.func15, Try.ntmps15
  go_wp2_with fail
  rw [← hN, ← hW0]
  clear hW0 hN
  with_reducible refine (c1 _).mono ?_
  rintro e w1 ⟨rfl, h1⟩
  have X0 := B0.out.below h1
  have hb1 := hidD (below_on HB.out (Nat.le_of_succ_le HS.out) h1)
  have hs1 := hidD (Nat.le_trans (Nat.le_of_succ_le HS.out) h1.size)
  have p0 := X0.cell 0 rfl
  have p1 := X0.cell 1 rfl
  have p2 := X0.cell 2 rfl
  have p3 := X0.cell 3 rfl
  clear B0 HB HS h1 c1 X0
  by_cases hk : k = 0
  · subst hk
    obtain ⟨hZ, hZ2⟩ := HC0.out rfl
    subst hZ hZ2
    have c : Calls _ _ _ _ _ := c2.out rfl _ _ (Bo.new w1 (bL s v []) 50)
    have hb2 := hidD (hb1.out.alloc hs1.out (.cells (bL s v []).toArray 50))
    have hs2 : Hid (N ≤ (w1.alloc (.cells (bL s v []).toArray 50)).heap.size) := hidD (by rw [World.size_alloc]; have := hs1.out; omega)
    clear HC0 HC1 c2 hb1
    go_wp2_with fail
    with_reducible refine c.mono ?_
    rintro e w2 ⟨rfl, b2, g2⟩
    have q4 := b2.cell 4 rfl
    have hb3 := hidD (g2.below (B := N) hs1.out hs2.out hb2.out)
    clear c b2 g2 hb2 hs2 p0 p1 p2 p3
    go_wp2_with fail
    go_ret3
    exact ⟨rfl, hb3.out⟩
  · obtain ⟨hZ, hZ2⟩ := HC1.out hk
    subst hZ hZ2
    have hk1 : (k != 0) = true := by simp [hk]
    clear HC0 HC1 c2 hs1
    go_wp2_with fail
    go_ret3
    exact ⟨rfl, hb1.out⟩
end Go.Proofs.Ythhhpmjbohfpjaa
