/- backoff: how long a pause is: shares, delay, Most, Delay. -/
import Derived.Test.YtekldjfmdapgpaaBkD
namespace Go.Proofs.Ytekldjfmdapgpaa
open Go.RowKit
set_option linter.unusedVariables false
set_option maxRecDepth 20000

theorem Bf.to_wraps {s : Bf.Se} {d : Int} (h : Bf.sets s = true) (h1 : 1 ≤ d) (h2 : d ≤ 1048576) : (0 ≤ d * s.j ∧ d * s.j ≤ 1048576000) ∧ IntKind.i64.wrap (d * s.j) = d * s.j ∧ IntKind.i64.wrap (d * s.j / 1000) = d * s.j / 1000 ∧ IntKind.i64.wrap (1 + d * s.j / 1000) = 1 + d * s.j / 1000 := by
  obtain ⟨_, _, m0, m1⟩ := Bf.to_range h h1 h2
  exact ⟨⟨m0, m1⟩, wrap_ok (by omega) (by omega), wrap_ok (by omega) (by omega), wrap_ok (by omega) (by omega)⟩

set_option maxHeartbeats 1000000 in
theorem shares_any (s : Bf.Se) (d : Int) (h : Bf.sets s = true) (h1 : 1 ≤ d) (h2 : d ≤ 1048576) (w : World) : Calls Try.prog 29 #[vP s d] w fun e w' => e = .returned (.int .i64 (Bf.to s d)) ∧ Below w.heap.size w w' := by
  have hb : ∀ o, Below w.heap.size w (w.alloc o) := fun o => (Below.refl _ _).alloc (Nat.le_refl _) o
  obtain ⟨⟨m0, m1⟩, v1, v2, v3⟩ := Bf.to_wraps h h1 h2
  unfold Bf.to
  obtain ⟨B, P, J⟩ := s
  unfold vP
  dsimp only at *
  by_cases hc : 1 + d * J / 1000 ≤ 1048576
  · rw [if_pos hc]
    have hc2 : ¬ 1048576 < 1 + d * J / 1000 := by omega
    go_enter Try.func29, Try.ntmps29
    go_wp2
    go_ret
    exact ⟨rfl, hb _⟩
  · rw [if_neg hc]
    have hc2 : 1048576 < 1 + d * J / 1000 := by omega
    go_enter Try.func29, Try.ntmps29
    go_wp2
    go_ret
    exact ⟨rfl, hb _⟩

set_option maxHeartbeats 1000000 in
theorem delay_any (s : Bf.Se) (d : Int) (x : Nat) (h : Bf.sets s = true) (h1 : 1 ≤ d) (h2 : d ≤ 1048576) (hx : x < 18446744073709551616) (w : World) : Calls Try.prog 24 #[vP s d, .int .u64 x] w fun e w' => e = .returned (.int .i64 (Bf.one s d x)) ∧ Below w.heap.size w w' := by
  have c1 := fun W => shares_any s d h h1 h2 W
  obtain ⟨⟨a1, a2⟩, a3, _⟩ := Bf.to_range h h1 h2
  have c2 := hidD (fun W => share_any x (Bf.to s d) W hx (by omega) (by omega))
  obtain ⟨b1, b2⟩ := Bf.share_range hx a1 a2
  have v1 : IntKind.i64.wrap (d - Hp.shK x (Bf.to s d)) = d - Hp.shK x (Bf.to s d) := wrap_ok (by omega) (by omega)
  have HO : Hid (Bf.one s d x = if 1 ≤ d - Hp.shK x (Bf.to s d) then d - Hp.shK x (Bf.to s d) else 1) := hidD rfl
  clear h a1 a2 a3 b1 b2
  generalize Bf.one s d x = y at *
  generalize Hp.shE (Bf.to s d) = ze at *
  generalize Hp.shK x (Bf.to s d) = z at *
  generalize Bf.to s d = t at *
  have HB := hidD ((Below.refl w.heap.size w).alloc (Nat.le_refl _) (.cells (pL s d).toArray 53))
  have B0 := hidD (Bo.new w (pL s d) 53)
  have HS : Hid (w.heap.size ≤ (w.alloc (.cells (pL s d).toArray 53)).heap.size) := hidD (by rw [World.size_alloc]; omega)
  obtain ⟨W0, hW0⟩ : ∃ W0, W0 = w.alloc (.cells (pL s d).toArray 53) := ⟨_, rfl⟩
  obtain ⟨N, hN⟩ : ∃ N, N = w.heap.size := ⟨_, rfl⟩
  rw [← hW0] at HB B0 HS
  rw [← hN] at HB B0 HS ⊢
  simp only [pL] at hW0
  go_enter Try.func24, Try.ntmps24
  go_wp2_with fail
  rw [← hN, ← hW0]
  clear hW0 hN
  with_reducible refine (c1 _).mono ?_
  rintro e w1 ⟨rfl, g1⟩
  have X0 := B0.out.below g1
  have hb1 := hidD (below_on HB.out HS.out g1)
  have q3 := X0.cell 3 rfl
  have c := c2.out w1
  clear X0 B0 HB HS g1 c1 c2
  go_wp2_with fail
  with_reducible refine c.mono ?_
  rintro e w2 ⟨rfl, rfl⟩
  clear c
  by_cases hc : 1 < d - z
  · have hc2 : ¬ d - z ≤ 1 := by omega
    have hy := HO.out
    rw [if_pos (by omega)] at hy
    subst hy
    clear HO
    go_wp2_with fail
    go_ret
    exact ⟨rfl, hb1.out⟩
  · have hc2 : d - z ≤ 1 := by omega
    have hy : y = 1 := by
      have := HO.out
      split at this <;> omega
    subst hy
    clear HO
    go_wp2_with fail
    go_ret
    exact ⟨rfl, hb1.out⟩

theorem field_most (x0 x1 x2 : Value) (z : Int) (w : World) : (Instr.field 53 (.agg #[x0, x1, x2, .int .i64 z]) 1).run Try.prog w = .ok (.int .i64 z) w := by rfl
theorem nth_v (s : Bf.Se) (n : Int) (h : Bf.mostE s n = 0) (w : World) : Calls Try.prog 23 #[vS s, .int .i64 n] w fun e w' => e = .returned (vP s (Bf.d s (n - 1).toNat)) ∧ Below w.heap.size w w' := by
  obtain ⟨hs, h1, h2⟩ := Bf.mostE_zero h
  obtain ⟨m, rfl⟩ := Int.eq_ofNat_of_zero_le (show 0 ≤ n by omega)
  have e : ((m : Int) - 1).toNat = m - 1 := by omega
  rw [e]
  exact nth_any s hs m (by omega) (by omega) w

set_option maxHeartbeats 1000000 in
theorem most_any (s : Bf.Se) (n : Int) (w : World) : Calls Try.prog 9 #[vS s, .int .i64 n] w fun e w' => e = .returned (.tuple #[.int .i64 (Bf.mostR s n), .int .i64 (Bf.mostE s n)]) ∧ Below w.heap.size w w' := by
  have c1 := fun W => mayTry_any s n 1 W
  rw [Bf.try_most] at c1
  have c2 := hidD (fun (h : Bf.mostE s n = 0) W => nth_v s n h W)
  have HC0 : Hid (Bf.mostE s n = 0 → Bf.mostR s n = Bf.d s (n - 1).toNat) := hidD (fun h => if_pos h)
  have HC1 : Hid (¬ Bf.mostE s n = 0 → Bf.mostR s n = 0) := hidD (fun h => if_neg h)
  generalize Bf.mostR s n = z at *
  generalize Bf.mostE s n = k at *
  have HB := hidD ((Below.refl w.heap.size w).alloc (Nat.le_refl _) (.cells (sL s).toArray 23))
  have B0 := hidD (Bo.new w (sL s) 23)
  have HS : Hid (w.heap.size + 1 ≤ (w.alloc (.cells (sL s).toArray 23)).heap.size) := hidD (by rw [World.size_alloc]; omega)
  obtain ⟨W0, hW0⟩ : ∃ W0, W0 = w.alloc (.cells (sL s).toArray 23) := ⟨_, rfl⟩
  obtain ⟨N, hN⟩ : ∃ N, N = w.heap.size := ⟨_, rfl⟩
  rw [← hW0] at HB B0 HS
  rw [← hN] at HB B0 HS ⊢
  simp only [sL] at hW0
  go_enter Try.func9, Try.ntmps9
  go_wp2_with fail
  rw [← hN, ← hW0]
  clear hW0 hN
  with_reducible refine (c1 _).mono ?_
  rintro e w1 ⟨rfl, h1⟩
  have X0 := B0.out.below h1
  have hb1 := hidD (below_on HB.out (Nat.le_of_succ_le HS.out) h1)
  have hs1 := hidD (Nat.le_trans (Nat.le_of_succ_le HS.out) h1.size)
  have p0 := X0.cell 0 rfl
  have p1 := X0.cell 1 rfl
  have p2 := X0.cell 2 rfl
  clear B0 HB HS h1 c1 X0
  by_cases hk : k = 0
  · subst hk
    have c := c2.out rfl w1
    rw [← HC0.out rfl] at c
    clear c2 HC0 HC1
    go_wp2_with fail
    with_reducible refine c.mono ?_
    rintro e w2 ⟨rfl, h2⟩
    have hb2 := hidD (below_on hb1.out hs1.out h2)
    clear c h2
    go_wp2_with fail
    rw [field_most]
    go_wp2_with fail
    go_ret2
    exact ⟨rfl, hb2.out⟩
  · have hZ := HC1.out hk
    subst hZ
    have hk1 : (k != 0) = true := by simp [hk]
    clear HC0 HC1 c2 hs1
    go_wp2_with fail
    go_ret2
    exact ⟨rfl, hb1.out⟩

set_option maxHeartbeats 1000000 in
theorem bdelay_any (s : Bf.Se) (n : Int) (x : Nat) (hx : x < 18446744073709551616) (w : World) : Calls Try.prog 11 #[vS s, .int .i64 n, .int .u64 x] w fun e w' => e = .returned (.tuple #[.int .i64 (Bf.delayR s n x), .int .i64 (Bf.mostE s n)]) ∧ Below w.heap.size w w' := by
  have c1 := fun W => mayTry_any s n 1 W
  rw [Bf.try_most] at c1
  have c2 := hidD (fun (h : Bf.mostE s n = 0) W => nth_v s n h W)
  have c3 := hidD (fun (h : Bf.mostE s n = 0) W => delay_any s (Bf.d s (n - 1).toNat) x (Bf.mostE_zero h).1 (Bf.d_num (Bf.mostE_zero h).1 _).1 (Bf.d_num (Bf.mostE_zero h).1 _).2 hx W)
  have HC0 : Hid (Bf.mostE s n = 0 → Bf.delayR s n x = Bf.one s (Bf.d s (n - 1).toNat) x) := hidD (fun h => if_pos h)
  have HC1 : Hid (¬ Bf.mostE s n = 0 → Bf.delayR s n x = 0) := hidD (fun h => if_neg h)
  have HX := hidD hx
  clear hx
  generalize Bf.delayR s n x = z at *
  generalize Bf.mostE s n = k at *
  generalize Bf.one s (Bf.d s (n - 1).toNat) x = y at *
  generalize Bf.d s (n - 1).toNat = d at *
  have HB := hidD ((Below.refl w.heap.size w).alloc (Nat.le_refl _) (.cells (sL s).toArray 23))
  have B0 := hidD (Bo.new w (sL s) 23)
  have HS : Hid (w.heap.size + 1 ≤ (w.alloc (.cells (sL s).toArray 23)).heap.size) := hidD (by rw [World.size_alloc]; omega)
  obtain ⟨W0, hW0⟩ : ∃ W0, W0 = w.alloc (.cells (sL s).toArray 23) := ⟨_, rfl⟩
  obtain ⟨N, hN⟩ : ∃ N, N = w.heap.size := ⟨_, rfl⟩
  rw [← hW0] at HB B0 HS
  rw [← hN] at HB B0 HS ⊢
  simp only [sL] at hW0
  go_enter Try.func11, Try.ntmps11
  go_wp2_with fail
  rw [← hN, ← hW0]
  clear hW0 hN
  with_reducible refine (c1 _).mono ?_
  rintro e w1 ⟨rfl, h1⟩
  have X0 := B0.out.below h1
  have hb1 := hidD (below_on HB.out (Nat.le_of_succ_le HS.out) h1)
  have hs1 := hidD (Nat.le_trans (Nat.le_of_succ_le HS.out) h1.size)
  have p0 := X0.cell 0 rfl
  have p1 := X0.cell 1 rfl
  have p2 := X0.cell 2 rfl
  clear B0 HB HS h1 c1 X0
  by_cases hk : k = 0
  · subst hk
    have c := c2.out rfl w1
    have c4 := c3.out rfl
    have hz := HC0.out rfl
    subst hz
    clear c2 c3 HC0 HC1
    go_wp2_with fail
    with_reducible refine c.mono ?_
    rintro e w2 ⟨rfl, h2⟩
    have hb2 := hidD (below_on hb1.out hs1.out h2)
    have hs2 := hidD (Nat.le_trans hs1.out h2.size)
    have c5 := c4 w2
    clear c c4 h2
    go_wp2_with fail
    with_reducible refine c5.mono ?_
    rintro e w3 ⟨rfl, h3⟩
    have hb3 := hidD (below_on hb2.out hs2.out h3)
    clear c5 h3
    go_wp2_with fail
    go_ret2
    exact ⟨rfl, hb3.out⟩
  · have hZ := HC1.out hk
    subst hZ
    have hk1 : (k != 0) = true := by simp [hk]
    clear HC0 HC1 c2 c3 hs1
    go_wp2_with fail
    go_ret2
    exact ⟨rfl, hb1.out⟩
end Go.Proofs.Ytekldjfmdapgpaa
