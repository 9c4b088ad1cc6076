/- outlier: Room, Panics, of both. -/
import Derived.Test.YtfjcilkllgaimaaEB
namespace Go.Proofs.Ytfjcilkllgaimaa
open Go.RowKit
set_option maxRecDepth 20000
set_option linter.unusedVariables false

theorem wrap_ok {x : Int} (h1 : -9000000000000000000 ≤ x) (h2 : x ≤ 9000000000000000000) : IntKind.i64.wrap x = x := by
  rw [IntKind.wrap_i64]; omega
theorem mul_range {a b x y : Int} (h0 : 0 ≤ a) (h1 : a ≤ x) (h2 : 0 ≤ b) (h3 : b ≤ y) : 0 ≤ a * b ∧ a * b ≤ x * y :=
  ⟨Int.mul_nonneg h0 h2, Int.mul_le_mul h1 h3 h2 (by omega)⟩
theorem Ou.room_wraps {s : Ou.Se} {n k : Int} (h : Ou.mayN s n k = true) : 0 ≤ s.p * n ∧ s.p * n ≤ 3200 ∧ 0 ≤ s.p * n / 100 ∧ s.p * n / 100 ≤ n ∧ 0 ≤ k ∧ k ≤ n ∧ 0 ≤ n ∧ n ≤ 32 := by
  obtain ⟨h1, h2, h3, h4, h5⟩ := Ou.mayN_iff.1 h
  obtain ⟨_, _, _, _, _, p0, p1, c0, c1⟩ := Ou.sets_iff.1 h1
  obtain ⟨m0, m1⟩ := mul_range p0 p1 h2 h3
  have m2 : s.p * n ≤ 100 * n := Int.mul_le_mul_of_nonneg_right p1 h2
  refine ⟨m0, by omega, ?_, ?_, h4, h5, h2, h3⟩ <;> omega
theorem Ou.pan_wraps {s : Ou.Se} {n k : Int} (h : Ou.mayN s n k = true) : 0 ≤ s.c * n ∧ s.c * n ≤ 3200 ∧ 0 ≤ k ∧ k ≤ 32 := by
  obtain ⟨h1, h2, h3, h4, h5⟩ := Ou.mayN_iff.1 h
  obtain ⟨_, _, _, _, _, p0, p1, c0, c1⟩ := Ou.sets_iff.1 h1
  obtain ⟨m0, m1⟩ := mul_range c0 c1 h2 h3
  refine ⟨m0, by omega, h4, by omega⟩

set_option maxHeartbeats 2000000 in
theorem oroom_any (s : Ou.Se) (n k : Int) (w : World) : Calls Try.prog 18 #[vS s, .int .i64 n, .int .i64 k] w fun e w' => e = .returned (.tuple #[.int .i64 (Ou.roomR s n k), .int .i64 (Ou.nE s n k)]) ∧ Below w.heap.size w w' := by
  have c1 := fun W => mayCount_any s n k W
  have HW := hidD (fun h => Ou.room_wraps (s := s) (n := n) (k := k) h)
  have HC0 : Hid (Ou.mayN s n k = true → Ou.roomR s n k = Ou.room s n k ∧ Ou.nE s n k = 0) := hidD (fun h => ⟨if_pos h, if_pos h⟩)
  have HC1 : Hid (Ou.mayN s n k = false → Ou.roomR s n k = 0 ∧ Ou.nE s n k = 4) := hidD (fun h => ⟨if_neg (by simp [h]), if_neg (by simp [h])⟩)
  unfold Ou.room at HC0
  generalize Ou.roomR s n k = z at *
  generalize Ou.nE s n k = ze at *
  generalize Ou.mayN s n k = b at *
  obtain ⟨SW, SM, SL, SB, SX, SP, SC⟩ := s
  dsimp only at *
  have HB := hidD ((Below.refl w.heap.size w).alloc (Nat.le_refl _) (.cells #[.int .i64 SW, .int .i64 SM, .int .i64 SL, .int .i64 SB, .int .i64 SX, .int .i64 SP, .int .i64 SC] 25))
  have B0 := hidD (Bo.new w [.int .i64 SW, .int .i64 SM, .int .i64 SL, .int .i64 SB, .int .i64 SX, .int .i64 SP, .int .i64 SC] 25)
  have HS := hidD (World.size_alloc w (.cells #[.int .i64 SW, .int .i64 SM, .int .i64 SL, .int .i64 SB, .int .i64 SX, .int .i64 SP, .int .i64 SC] 25))
  obtain ⟨N, hN⟩ : ∃ N, N = w.heap.size := ⟨_, rfl⟩
  rw [← hN] at HB B0 HS ⊢
  go_enter Try.func18, Try.ntmps18
  go_wp2_with fail
  rw [← hN]
  clear hN
  generalize (w.alloc (.cells #[.int .i64 SW, .int .i64 SM, .int .i64 SL, .int .i64 SB, .int .i64 SX, .int .i64 SP, .int .i64 SC] 25)) = W0 at *
  with_reducible refine (c1 _).mono ?_
  rintro e w1 ⟨rfl, h1⟩
  have X0 := B0.out.below h1
  have hb1 := hidD (below_on HB.out (by have := HS.out; omega) h1)
  have q5 := X0.cell 5 rfl
  have q6 := X0.cell 6 rfl
  clear X0 B0 HB HS h1 c1
  cases b
  · obtain ⟨e1, e2⟩ := HC1.out rfl
    subst e1 e2
    clear HC0 HC1 HW
    go_wp2_with fail
    go_ret2
    exact ⟨rfl, hb1.out⟩
  · obtain ⟨e1, e2⟩ := HC0.out rfl
    subst e2
    obtain ⟨m0, m1, m2, m3, m4, m5, m6, m7⟩ := HW.out rfl
    have v1 : IntKind.i64.wrap (SP * n) = SP * n := wrap_ok (by omega) (by omega)
    have v2 : IntKind.i64.wrap (SP * n / 100) = SP * n / 100 := wrap_ok (by omega) (by omega)
    have v3 : IntKind.i64.wrap (SP * n / 100 - k) = SP * n / 100 - k := wrap_ok (by omega) (by omega)
    clear HC0 HC1 HW
    by_cases hd : 0 ≤ SP * n / 100 - k
    · rw [if_pos hd] at e1
      subst e1
      have hd2 : ¬ SP * n / 100 - k < 0 := by omega
      go_wp2_with fail
      go_ret2
      exact ⟨rfl, hb1.out⟩
    · rw [if_neg hd] at e1
      subst e1
      have hd2 : SP * n / 100 - k < 0 := by omega
      go_wp2_with fail
      go_ret2
      exact ⟨rfl, hb1.out⟩

set_option maxHeartbeats 2000000 in
theorem opan_any (s : Ou.Se) (n k : Int) (w : World) : Calls Try.prog 20 #[vS s, .int .i64 n, .int .i64 k] w fun e w' => e = .returned (.tuple #[.bool (Ou.panR s n k), .int .i64 (Ou.nE s n k)]) ∧ Below w.heap.size w w' := by
  have c1 := fun W => mayCount_any s n k W
  have HW := hidD (fun h => Ou.pan_wraps (s := s) (n := n) (k := k) h)
  have HC0 : Hid (Ou.mayN s n k = true → Ou.panR s n k = Ou.pan s n k ∧ Ou.nE s n k = 0) := hidD (fun h => ⟨if_pos h, if_pos h⟩)
  have HC1 : Hid (Ou.mayN s n k = false → Ou.panR s n k = false ∧ Ou.nE s n k = 4) := hidD (fun h => ⟨if_neg (by simp [h]), if_neg (by simp [h])⟩)
  unfold Ou.pan at HC0
  generalize Ou.panR s n k = z at *
  generalize Ou.nE s n k = ze at *
  generalize Ou.mayN s n k = b at *
  obtain ⟨SW, SM, SL, SB, SX, SP, SC⟩ := s
  dsimp only at *
  have HB := hidD ((Below.refl w.heap.size w).alloc (Nat.le_refl _) (.cells #[.int .i64 SW, .int .i64 SM, .int .i64 SL, .int .i64 SB, .int .i64 SX, .int .i64 SP, .int .i64 SC] 25))
  have B0 := hidD (Bo.new w [.int .i64 SW, .int .i64 SM, .int .i64 SL, .int .i64 SB, .int .i64 SX, .int .i64 SP, .int .i64 SC] 25)
  have HS := hidD (World.size_alloc w (.cells #[.int .i64 SW, .int .i64 SM, .int .i64 SL, .int .i64 SB, .int .i64 SX, .int .i64 SP, .int .i64 SC] 25))
  obtain ⟨N, hN⟩ : ∃ N, N = w.heap.size := ⟨_, rfl⟩
  rw [← hN] at HB B0 HS ⊢
  go_enter Try.func20, Try.ntmps20
  go_wp2_with fail
  rw [← hN]
  clear hN
  generalize (w.alloc (.cells #[.int .i64 SW, .int .i64 SM, .int .i64 SL, .int .i64 SB, .int .i64 SX, .int .i64 SP, .int .i64 SC] 25)) = W0 at *
  with_reducible refine (c1 _).mono ?_
  rintro e w1 ⟨rfl, h1⟩
  have X0 := B0.out.below h1
  have hb1 := hidD (below_on HB.out (by have := HS.out; omega) h1)
  have q5 := X0.cell 5 rfl
  have q6 := X0.cell 6 rfl
  clear X0 B0 HB HS h1 c1
  cases b
  · obtain ⟨e1, e2⟩ := HC1.out rfl
    subst e1 e2
    clear HC0 HC1 HW
    go_wp2_with fail
    go_ret2
    exact ⟨rfl, hb1.out⟩
  · obtain ⟨e1, e2⟩ := HC0.out rfl
    subst e2
    obtain ⟨m0, m1, m2, m3⟩ := HW.out rfl
    have v1 : IntKind.i64.wrap (SC * n) = SC * n := wrap_ok (by omega) (by omega)
    have v2 : IntKind.i64.wrap (100 * k) = 100 * k := wrap_ok (by omega) (by omega)
    clear HC0 HC1 HW
    subst e1
    go_wp2_with fail
    go_ret2
    exact ⟨rfl, hb1.out⟩

set_option maxHeartbeats 2000000 in
theorem rroom_any (s : Ou.Se) (n k : Int) (w : World) : Calls Try.prog 19 #[vS s, .int .i64 n, .int .i64 k] w fun e w' => e = .returned (.tuple #[.int .i64 (Ou.roomR s n k), .int .i64 (Ou.nE s n k)]) ∧ Below w.heap.size w w' := by
  have c1 := fun W => rsets_any s W
  have c2 := fun v => rin_any n 0 32 v
  have c3 := fun v => rin_any k 0 n v
  have HW := hidD (fun h => Ou.room_wraps (s := s) (n := n) (k := k) h)
  have HC0 : Hid (Ou.mayN s n k = true → Ou.roomR s n k = Ou.room s n k ∧ Ou.nE s n k = 0) := hidD (fun h => ⟨if_pos h, if_pos h⟩)
  have HC1 : Hid (Ou.mayN s n k = false → Ou.roomR s n k = 0 ∧ Ou.nE s n k = 4) := hidD (fun h => ⟨if_neg (by simp [h]), if_neg (by simp [h])⟩)
  unfold Ou.room at HC0
  unfold Ou.mayN at HC0 HC1 HW
  generalize Ou.roomR s n k = z at *
  generalize Ou.nE s n k = ze at *
  generalize Ou.sets s = b1 at *
  generalize Ou.inn n 0 32 = b2 at *
  generalize Ou.inn k 0 n = b3 at *
  obtain ⟨SW, SM, SL, SB, SX, SP, SC⟩ := s
  dsimp only at *
  have HB := hidD ((Below.refl w.heap.size w).alloc (Nat.le_refl _) (.cells #[.int .i64 SW, .int .i64 SM, .int .i64 SL, .int .i64 SB, .int .i64 SX, .int .i64 SP, .int .i64 SC] 25))
  have B0 := hidD (Bo.new w [.int .i64 SW, .int .i64 SM, .int .i64 SL, .int .i64 SB, .int .i64 SX, .int .i64 SP, .int .i64 SC] 25)
  have HS := hidD (World.size_alloc w (.cells #[.int .i64 SW, .int .i64 SM, .int .i64 SL, .int .i64 SB, .int .i64 SX, .int .i64 SP, .int .i64 SC] 25))
  obtain ⟨N, hN⟩ : ∃ N, N = w.heap.size := ⟨_, rfl⟩
  rw [← hN] at HB B0 HS ⊢
  go_enter Try.func19, Try.ntmps19
  go_wp2_with fail
  rw [← hN]
  clear hN
  generalize (w.alloc (.cells #[.int .i64 SW, .int .i64 SM, .int .i64 SL, .int .i64 SB, .int .i64 SX, .int .i64 SP, .int .i64 SC] 25)) = W0 at *
  with_reducible refine (c1 _).mono ?_
  rintro e w1 ⟨rfl, h1⟩
  have X0 := B0.out.below h1
  have hb1 := hidD (below_on HB.out (by have := HS.out; omega) h1)
  have q5 := X0.cell 5 rfl
  have q6 := X0.cell 6 rfl
  clear X0 B0 HB HS h1 c1
  cases b1
  · obtain ⟨e1, e2⟩ := HC1.out (by simp)
    subst e1 e2
    clear HC0 HC1 HW
    go_wp2_with (go_at_call 31; (first | with_reducible refine (c2 _).mono ?_ | with_reducible refine (c3 _).mono ?_); rintro e w2 ⟨rfl, rfl⟩)
    go_ret2
    exact ⟨rfl, hb1.out⟩
  cases b2
  · obtain ⟨e1, e2⟩ := HC1.out (by simp)
    subst e1 e2
    clear HC0 HC1 HW
    go_wp2_with (go_at_call 31; (first | with_reducible refine (c2 _).mono ?_ | with_reducible refine (c3 _).mono ?_); rintro e w2 ⟨rfl, rfl⟩)
    go_ret2
    exact ⟨rfl, hb1.out⟩
  cases b3
  · obtain ⟨e1, e2⟩ := HC1.out (by simp)
    subst e1 e2
    clear HC0 HC1 HW
    go_wp2_with (go_at_call 31; (first | with_reducible refine (c2 _).mono ?_ | with_reducible refine (c3 _).mono ?_); rintro e w2 ⟨rfl, rfl⟩)
    go_ret2
    exact ⟨rfl, hb1.out⟩
  obtain ⟨e1, e2⟩ := HC0.out rfl
  subst e2
  obtain ⟨m0, m1, m2, m3, m4, m5, m6, m7⟩ := HW.out rfl
  have v1 : IntKind.i64.wrap (n * SP) = SP * n := by rw [Int.mul_comm]; exact wrap_ok (by omega) (by omega)
  have v2 : IntKind.i64.wrap (SP * n / 100) = SP * n / 100 := wrap_ok (by omega) (by omega)
  have v3 : IntKind.i64.wrap (SP * n / 100 - k) = SP * n / 100 - k := wrap_ok (by omega) (by omega)
  clear HC0 HC1 HW
  by_cases hd : 0 < SP * n / 100 - k
  · rw [if_pos (by omega)] at e1
    subst e1
    go_wp2_with (go_at_call 31; (first | with_reducible refine (c2 _).mono ?_ | with_reducible refine (c3 _).mono ?_); rintro e w2 ⟨rfl, rfl⟩)
    go_ret2
    exact ⟨rfl, hb1.out⟩
  · replace e1 : z = 0 := by
      rw [e1]; split <;> omega
    subst e1
    go_wp2_with (go_at_call 31; (first | with_reducible refine (c2 _).mono ?_ | with_reducible refine (c3 _).mono ?_); rintro e w2 ⟨rfl, rfl⟩)
    go_ret2
    exact ⟨rfl, hb1.out⟩

set_option maxHeartbeats 2000000 in
theorem rpan_any (s : Ou.Se) (n k : Int) (w : World) : Calls Try.prog 21 #[vS s, .int .i64 n, .int .i64 k] w fun e w' => e = .returned (.tuple #[.bool (Ou.panR s n k), .int .i64 (Ou.nE s n k)]) ∧ Below w.heap.size w w' := by
  have c1 := fun W => rsets_any s W
  have c2 := fun v => rin_any n 0 32 v
  have c3 := fun v => rin_any k 0 n v
  have HW := hidD (fun h => Ou.pan_wraps (s := s) (n := n) (k := k) h)
  have HC0 : Hid (Ou.mayN s n k = true → Ou.panR s n k = Ou.pan s n k ∧ Ou.nE s n k = 0) := hidD (fun h => ⟨if_pos h, if_pos h⟩)
  have HC1 : Hid (Ou.mayN s n k = false → Ou.panR s n k = false ∧ Ou.nE s n k = 4) := hidD (fun h => ⟨if_neg (by simp [h]), if_neg (by simp [h])⟩)
  unfold Ou.pan at HC0
  unfold Ou.mayN at HC0 HC1 HW
  generalize Ou.panR s n k = z at *
  generalize Ou.nE s n k = ze at *
  generalize Ou.sets s = b1 at *
  generalize Ou.inn n 0 32 = b2 at *
  generalize Ou.inn k 0 n = b3 at *
  obtain ⟨SW, SM, SL, SB, SX, SP, SC⟩ := s
  dsimp only at *
  have HB := hidD ((Below.refl w.heap.size w).alloc (Nat.le_refl _) (.cells #[.int .i64 SW, .int .i64 SM, .int .i64 SL, .int .i64 SB, .int .i64 SX, .int .i64 SP, .int .i64 SC] 25))
  have B0 := hidD (Bo.new w [.int .i64 SW, .int .i64 SM, .int .i64 SL, .int .i64 SB, .int .i64 SX, .int .i64 SP, .int .i64 SC] 25)
  have HS := hidD (World.size_alloc w (.cells #[.int .i64 SW, .int .i64 SM, .int .i64 SL, .int .i64 SB, .int .i64 SX, .int .i64 SP, .int .i64 SC] 25))
  obtain ⟨N, hN⟩ : ∃ N, N = w.heap.size := ⟨_, rfl⟩
  rw [← hN] at HB B0 HS ⊢
  go_enter Try.func21, Try.ntmps21
  go_wp2_with fail
  rw [← hN]
  clear hN
  generalize (w.alloc (.cells #[.int .i64 SW, .int .i64 SM, .int .i64 SL, .int .i64 SB, .int .i64 SX, .int .i64 SP, .int .i64 SC] 25)) = W0 at *
  with_reducible refine (c1 _).mono ?_
  rintro e w1 ⟨rfl, h1⟩
  have X0 := B0.out.below h1
  have hb1 := hidD (below_on HB.out (by have := HS.out; omega) h1)
  have q5 := X0.cell 5 rfl
  have q6 := X0.cell 6 rfl
  clear X0 B0 HB HS h1 c1
  cases b1
  · obtain ⟨e1, e2⟩ := HC1.out (by simp)
    subst e1 e2
    clear HC0 HC1 HW
    go_wp2_with (go_at_call 31; (first | with_reducible refine (c2 _).mono ?_ | with_reducible refine (c3 _).mono ?_); rintro e w2 ⟨rfl, rfl⟩)
    go_ret2
    exact ⟨rfl, hb1.out⟩
  cases b2
  · obtain ⟨e1, e2⟩ := HC1.out (by simp)
    subst e1 e2
    clear HC0 HC1 HW
    go_wp2_with (go_at_call 31; (first | with_reducible refine (c2 _).mono ?_ | with_reducible refine (c3 _).mono ?_); rintro e w2 ⟨rfl, rfl⟩)
    go_ret2
    exact ⟨rfl, hb1.out⟩
  cases b3
  · obtain ⟨e1, e2⟩ := HC1.out (by simp)
    subst e1 e2
    clear HC0 HC1 HW
    go_wp2_with (go_at_call 31; (first | with_reducible refine (c2 _).mono ?_ | with_reducible refine (c3 _).mono ?_); rintro e w2 ⟨rfl, rfl⟩)
    go_ret2
    exact ⟨rfl, hb1.out⟩
  obtain ⟨e1, e2⟩ := HC0.out rfl
  subst e2
  obtain ⟨m0, m1, m2, m3⟩ := HW.out rfl
  have v1 : IntKind.i64.wrap (SC * n) = SC * n := wrap_ok (by omega) (by omega)
  have v2 : IntKind.i64.wrap (100 * k) = 100 * k := wrap_ok (by omega) (by omega)
  clear HC0 HC1 HW
  subst e1
  go_wp2_with (go_at_call 31; (first | with_reducible refine (c2 _).mono ?_ | with_reducible refine (c3 _).mono ?_); rintro e w2 ⟨rfl, rfl⟩)
  go_ret2
  exact ⟨rfl, hb1.out⟩
end Go.Proofs.Ytfjcilkllgaimaa
