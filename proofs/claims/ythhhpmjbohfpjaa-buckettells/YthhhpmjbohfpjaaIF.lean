/- bucket: the reference's Calls, Ticks, Take. -/
import Derived.Test.YthhhpmjbohfpjaaID
import Derived.Test.YthhhpmjbohfpjaaIE
namespace Go.Proofs.Ythhhpmjbohfpjaa
open Go.RowKit
set_option linter.unusedVariables false
set_option maxRecDepth 20000

theorem Bu.add_count {s : Bu.Se} {v n : Int} (h : Bu.chk s v = 0) (h2 : ¬ (0 ≤ n ∧ n ≤ 1048576)) : Bu.addE s v n = 3 := by
  unfold Bu.addE
  rw [if_pos h, if_neg]
  rw [Bu.inn_iff]
  exact h2
theorem Bu.add_bad {s : Bu.Se} {v n : Int} (h : ¬ Bu.chk s v = 0) : Bu.addE s v n = Bu.chk s v := if_neg h
set_option maxHeartbeats 1000000 in
theorem rmore_any (s : Bu.Se) (v n e : Int) (he : Bu.sets s = true → 0 ≤ e ∧ e ≤ 1000) (w : World) : Calls Try.prog 28 #[vS s, .int .i64 v, .int .i64 n, .int .i64 e] w fun r w' => r = .returned (.tuple #[.int .i64 (Bu.addR s v n e), .int .i64 (Bu.addE s v n)]) ∧ Below w.heap.size w w' := by
  have c1 := fun W => rcheck_any s v W
  have HC0 : Hid (Bu.addE s v n = 0 → Bu.addR s v n e = (if v + n * e ≤ 1000 * s.p then v + n * e else 1000 * s.p) ∧ IntKind.i64.wrap (n * e) = n * e ∧ IntKind.i64.wrap (v + n * e) = v + n * e ∧ IntKind.i64.wrap (1000 * s.p) = 1000 * s.p) := hidD (fun h => ⟨if_pos h, Bu.wraps h (he (Bu.chk_zero (Bu.addE_zero h).1).1)⟩)
  have HC1 : Hid (¬ Bu.addE s v n = 0 → Bu.addR s v n e = 0) := hidD (fun h => if_neg h)
  have H3 := hidD (@Bu.add_count s v n)
  have HG := hidD (@Bu.addE_good s v n)
  have HB0 := hidD (@Bu.add_bad s v n)
  clear he
  generalize Bu.addR s v n e = z at *
  generalize Bu.addE s v n = ze at *
  generalize Bu.chk s v = k at *
  have HB := hidD ((Below.refl w.heap.size w).alloc (Nat.le_refl _) (.cells (sL s).toArray 23))
  have B0 := hidD (Bo.new w (sL s) 23)
  have HS : Hid (w.heap.size + 1 ≤ (w.alloc (.cells (sL s).toArray 23)).heap.size) := hidD (by rw [World.size_alloc]; omega)
  obtain ⟨W0, hW0⟩ : ∃ W0, W0 = w.alloc (.cells (sL s).toArray 23) := ⟨_, rfl⟩
  obtain ⟨N, hN⟩ : ∃ N, N = w.heap.size := ⟨_, rfl⟩
  rw [← hW0] at HB B0 HS
  rw [← hN] at HB B0 HS ⊢
  simp only [sL] at hW0
  go_enter Try.func28, Try.ntmps28
  go_wp2_with fail
  rw [← hN, ← hW0]
  clear hW0 hN
  with_reducible refine (c1 _).mono ?_
  rintro r w1 ⟨rfl, h1⟩
  have X0 := B0.out.below h1
  have hb1 := hidD (below_on HB.out (Nat.le_of_succ_le HS.out) h1)
  have p0 := X0.cell 0 rfl
  have p1 := X0.cell 1 rfl
  have p2 := X0.cell 2 rfl
  have p3 := X0.cell 3 rfl
  clear B0 HB HS h1 c1 X0
  by_cases hk : k = 0
  · subst hk
    by_cases t0 : n < 0
    · have hk := H3.out rfl (fun e => by omega)
      subst hk
      have hz := HC1.out (by decide)
      subst hz
      clear HC0 HC1 H3 HG HB0
      go_wp2_with fail
      go_ret2
      exact ⟨rfl, hb1.out⟩
    by_cases t1 : 1048576 < n
    · have hk := H3.out rfl (fun e => by omega)
      subst hk
      have hz := HC1.out (by decide)
      subst hz
      clear HC0 HC1 H3 HG HB0
      go_wp2_with fail
      go_ret2
      exact ⟨rfl, hb1.out⟩
    · have hk := HG.out rfl (by omega) (by omega)
      subst hk
      obtain ⟨hz, w1, w2, w3⟩ := HC0.out rfl
      clear HC0 HC1 H3 HG HB0
      replace hz : z = if 1000 * s.p ≤ v + n * e then 1000 * s.p else v + n * e := by rw [hz]; split <;> split <;> omega
      by_cases hle : 1000 * s.p ≤ v + n * e
      · rw [if_pos hle] at hz
        subst hz
        go_wp2_with fail
        go_ret2
        exact ⟨by first | rfl | (congr 4; split <;> omega), hb1.out⟩
      · rw [if_neg hle] at hz
        subst hz
        go_wp2_with fail
        go_ret2
        exact ⟨by first | rfl | (congr 4; split <;> omega), hb1.out⟩
  · have hz2 := HB0.out hk
    subst hz2
    have hz := HC1.out hk
    subst hz
    have hk1 : (ze != 0) = true := by simp [hk]
    clear HC0 HC1 H3 HG HB0
    go_wp2_with fail
    go_ret2
    exact ⟨rfl, hb1.out⟩

set_option maxHeartbeats 1000000 in
theorem rcalls_any (s : Bu.Se) (v n : Int) (w : World) : Calls Try.prog 12 #[vS s, .int .i64 v, .int .i64 n] w fun e w' => e = .returned (.tuple #[.int .i64 (Bu.addR s v n s.c), .int .i64 (Bu.addE s v n)]) ∧ Below w.heap.size w w' := by
  have c1 := fun W => rmore_any s v n s.c (fun h => (Bu.each h).1) W
  generalize Bu.addR s v n s.c = z at *
  generalize Bu.addE s v n = k at *
  have HB := hidD ((Below.refl w.heap.size w).alloc (Nat.le_refl _) (.cells (sL s).toArray 23))
  have B0 := hidD (Bo.new w (sL s) 23)
  have HS : Hid (w.heap.size + 1 ≤ (w.alloc (.cells (sL s).toArray 23)).heap.size) := hidD (by rw [World.size_alloc]; omega)
  obtain ⟨W0, hW0⟩ : ∃ W0, W0 = w.alloc (.cells (sL s).toArray 23) := ⟨_, rfl⟩
  obtain ⟨N, hN⟩ : ∃ N, N = w.heap.size := ⟨_, rfl⟩
  rw [← hW0] at HB B0 HS
  rw [← hN] at HB B0 HS ⊢
  simp only [sL] at hW0
  have p0 := B0.out.cell 0 rfl
  have p1 := B0.out.cell 1 rfl
  have p2 := B0.out.cell 2 rfl
  have p3 := B0.out.cell 3 rfl
  go_enter Try.func12, Try.ntmps12
  go_wp2_with fail
  rw [← hN, ← hW0]
  clear hW0 hN
  with_reducible refine (c1 _).mono ?_
  rintro e w1 ⟨rfl, h1⟩
  have hb1 := hidD (below_on HB.out (Nat.le_of_succ_le HS.out) h1)
  clear B0 HB HS h1 c1 p0 p1 p2 p3
  go_wp2_with fail
  go_ret2
  exact ⟨rfl, hb1.out⟩

set_option maxHeartbeats 1000000 in
theorem rticks_any (s : Bu.Se) (v n : Int) (w : World) : Calls Try.prog 14 #[vS s, .int .i64 v, .int .i64 n] w fun e w' => e = .returned (.tuple #[.int .i64 (Bu.addR s v n s.t), .int .i64 (Bu.addE s v n)]) ∧ Below w.heap.size w w' := by
  have c1 := fun W => rmore_any s v n s.t (fun h => (Bu.each h).2.1) W
  generalize Bu.addR s v n s.t = z at *
  generalize Bu.addE s v n = k at *
  have HB := hidD ((Below.refl w.heap.size w).alloc (Nat.le_refl _) (.cells (sL s).toArray 23))
  have B0 := hidD (Bo.new w (sL s) 23)
  have HS : Hid (w.heap.size + 1 ≤ (w.alloc (.cells (sL s).toArray 23)).heap.size) := hidD (by rw [World.size_alloc]; omega)
  obtain ⟨W0, hW0⟩ : ∃ W0, W0 = w.alloc (.cells (sL s).toArray 23) := ⟨_, rfl⟩
  obtain ⟨N, hN⟩ : ∃ N, N = w.heap.size := ⟨_, rfl⟩
  rw [← hW0] at HB B0 HS
  rw [← hN] at HB B0 HS ⊢
  simp only [sL] at hW0
  have p0 := B0.out.cell 0 rfl
  have p1 := B0.out.cell 1 rfl
  have p2 := B0.out.cell 2 rfl
  have p3 := B0.out.cell 3 rfl
  go_enter Try.func14, Try.ntmps14
  go_wp2_with fail
  rw [← hN, ← hW0]
  clear hW0 hN
  with_reducible refine (c1 _).mono ?_
  rintro e w1 ⟨rfl, h1⟩
  have hb1 := hidD (below_on HB.out (Nat.le_of_succ_le HS.out) h1)
  clear B0 HB HS h1 c1 p0 p1 p2 p3
  go_wp2_with fail
  go_ret2
  exact ⟨rfl, hb1.out⟩

set_option maxHeartbeats 1000000 in
theorem rtake_any (s : Bu.Se) (v : Int) (w : World) : Calls Try.prog 16 #[vS s, .int .i64 v] w fun e w' => e = .returned (.tuple #[.int .i64 (Bu.takeR s v), .bool (Bu.takeB s v), .int .i64 (Bu.chk s v)]) ∧ Below w.heap.size w w' := by
  have c1 := fun W => rcheck_any s v W
  have HC0 : Hid (Bu.chk s v = 0 → Bu.takeR s v = (if 1000 ≤ v then v - 1000 else v) ∧ Bu.takeB s v = decide (1000 ≤ v) ∧ IntKind.i64.wrap (v - 1000) = v - 1000) := hidD (fun h => ⟨if_pos h, if_pos h, by obtain ⟨hs, v0, v1⟩ := Bu.chk_zero h; obtain ⟨_, _, _, _, _, _, _, _⟩ := Bu.sets_iff.1 hs; exact wrap_ok (by omega) (by omega)⟩)
  have HC1 : Hid (¬ Bu.chk s v = 0 → Bu.takeR s v = 0 ∧ Bu.takeB s v = false) := hidD (fun h => ⟨if_neg h, if_neg h⟩)
  generalize Bu.takeR s v = z at *
  generalize Bu.takeB s v = zb at *
  generalize Bu.chk s v = k at *
  have HB := hidD ((Below.refl w.heap.size w).alloc (Nat.le_refl _) (.cells (sL s).toArray 23))
  have B0 := hidD (Bo.new w (sL s) 23)
  have HS : Hid (w.heap.size + 1 ≤ (w.alloc (.cells (sL s).toArray 23)).heap.size) := hidD (by rw [World.size_alloc]; omega)
  obtain ⟨W0, hW0⟩ : ∃ W0, W0 = w.alloc (.cells (sL s).toArray 23) := ⟨_, rfl⟩
  obtain ⟨N, hN⟩ : ∃ N, N = w.heap.size := ⟨_, rfl⟩
  rw [← hW0] at HB B0 HS
  rw [← hN] at HB B0 HS ⊢
  simp only [sL] at hW0
  go_enter Try.func16, Try.ntmps16
  go_wp2_with fail
  rw [← hN, ← hW0]
  clear hW0 hN
  with_reducible refine (c1 _).mono ?_
  rintro e w1 ⟨rfl, h1⟩
  have hb1 := hidD (below_on HB.out (Nat.le_of_succ_le HS.out) h1)
  clear B0 HB HS h1 c1
  by_cases hk : k = 0
  · subst hk
    obtain ⟨hZ, hZ2, hw⟩ := HC0.out rfl
    clear HC0 HC1
    by_cases hle : 1000 ≤ v
    · rw [if_pos hle] at hZ
      rw [decide_eq_true hle] at hZ2
      subst hZ hZ2
      have hle2 : ¬ v < 1000 := by omega
      go_wp2_with fail
      go_ret3
      exact ⟨rfl, hb1.out⟩
    · rw [if_neg hle] at hZ
      rw [decide_eq_false hle] at hZ2
      subst hZ hZ2
      have hle2 : z < 1000 := by omega
      go_wp2_with fail
      go_ret3
      exact ⟨rfl, hb1.out⟩
  · obtain ⟨hZ, hZ2⟩ := HC1.out hk
    subst hZ hZ2
    have hk1 : (k != 0) = true := by simp [hk]
    clear HC0 HC1
    go_wp2_with fail
    go_ret3
    exact ⟨rfl, hb1.out⟩
end Go.Proofs.Ythhhpmjbohfpjaa
