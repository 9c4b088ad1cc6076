/- backoff: what may be, by the program and by the reference. -/
import Derived.Test.YtekldjfmdapgpaaYP
import Derived.Test.YtekldjfmdapgpaaBX
import Derived.BigQuiet
import Derived.Deep.QuietTactic
namespace Go.Proofs.Ytekldjfmdapgpaa
open Go.RowKit
set_option linter.unusedVariables false
set_option maxRecDepth 20000

/-- Settings, as values. -/
abbrev vS (s : Bf.Se) : Value := .agg #[.int .i64 s.b, .int .i64 s.p, .int .i64 s.j]
abbrev sL (s : Bf.Se) : List Value := [.int .i64 s.b, .int .i64 s.p, .int .i64 s.j]
def Bf.inn (n a c : Int) : Bool := decide (a ≤ n) && decide (n ≤ c)
theorem Bf.inn_iff {n a c : Int} : Bf.inn n a c = true ↔ a ≤ n ∧ n ≤ c := by simp [Bf.inn]
def Bf.tryE (s : Bf.Se) (n a : Int) : Int := if Bf.chk s = 0 then (if Bf.inn n a 64 = true then 0 else 3) else Bf.chk s
theorem Bf.chk_zero {s : Bf.Se} : Bf.chk s = 0 ↔ Bf.sets s = true := by
  unfold Bf.chk
  split <;> simp_all
theorem Bf.sets_inn (s : Bf.Se) : Bf.sets s = (Bf.inn s.b 1 65536 && Bf.inn s.p s.b 1048576 && Bf.inn s.j 0 1000) := by
  simp [Bf.sets, Bf.inn, Bool.and_assoc]
theorem Bf.try_most (s : Bf.Se) (n : Int) : Bf.tryE s n 1 = Bf.mostE s n := by
  unfold Bf.tryE Bf.mostE Bf.chk
  by_cases h : Bf.sets s = true
  · rw [if_pos h, if_pos h, if_pos rfl]
    by_cases h2 : 1 ≤ n ∧ n ≤ 64
    · rw [if_pos (Bf.inn_iff.2 h2), if_pos h2]
    · rw [if_neg (fun e => h2 (Bf.inn_iff.1 e)), if_neg h2]
  · rw [if_neg h, if_neg h, if_neg (by decide)]
theorem Bf.try_row (s : Bf.Se) (n : Int) : Bf.tryE s n 0 = Bf.rowE s n := by
  unfold Bf.tryE Bf.rowE Bf.chk
  by_cases h : Bf.sets s = true
  · rw [if_pos h, if_pos h, if_pos rfl]
    by_cases h2 : 0 ≤ n ∧ n ≤ 64
    · rw [if_pos (Bf.inn_iff.2 h2), if_pos h2]
    · rw [if_neg (fun e => h2 (Bf.inn_iff.1 e)), if_neg h2]
  · rw [if_neg h, if_neg h, if_neg (by decide)]
theorem Bf.try_sum (s : Bf.Se) (l : List Int) : Bf.tryE s (l.length : Int) 0 = Bf.sumE s l := by
  rw [Bf.try_row]
  unfold Bf.rowE Bf.sumE
  by_cases h : Bf.sets s = true
  · rw [if_pos h, if_pos h]
    by_cases h2 : 64 < l.length
    · rw [if_neg (by omega), if_pos h2]
    · rw [if_pos (by omega), if_neg h2]
  · rw [if_neg h, if_neg h]

theorem below_on {B : Nat} {a b c : World} (h : Below B a b) (hB : B ≤ b.heap.size) (k : Below b.heap.size b c) : Below B a c :=
  ⟨k.os.trans h.os, k.tape.trans h.tape, k.output.trans h.output, Nat.le_trans h.size k.size, fun g hg => (k.block g (by omega)).trans (h.block g hg)⟩
theorem below_drewN {B : Nat} {w w' : World} (h : Below B w w') (m : Nat) : Below B w (w'.drewN m) := ⟨h.os, h.tape, h.output, h.size, h.block⟩
theorem wrap_ok {x : Int} (h1 : -9000000000000000000 ≤ x) (h2 : x ≤ 9000000000000000000) : IntKind.i64.wrap x = x := by
  rw [IntKind.wrap_i64]; omega

theorem within_any (n a c : Int) (w : World) : Calls Try.prog 27 #[.int .i64 n, .int .i64 a, .int .i64 c] w fun e w' => e = .returned (.bool (Bf.inn n a c)) ∧ w = w' := by
  unfold Bf.inn
  by_cases h : a ≤ n
  · go_enter Try.func27, Try.ntmps27
    go_wp2
    go_ret
    exact ⟨by rw [decide_eq_true h]; rfl, rfl⟩
  · go_enter Try.func27, Try.ntmps27
    go_wp2
    go_ret
    exact ⟨by rw [decide_eq_false (by omega)]; rfl, rfl⟩

set_option maxHeartbeats 2000000 in
theorem bcheck_any (s : Bf.Se) (w : World) : Calls Try.prog 19 #[vS s] w fun e w' => e = .returned (.int .i64 (Bf.chk s)) ∧ Below w.heap.size w w' := by
  unfold Bf.chk
  rw [Bf.sets_inn]
  obtain ⟨B, P, J⟩ := s
  have c0 := fun v => within_any B 1 65536 v
  have c1 := fun v => within_any P B 1048576 v
  have c2 := fun v => within_any J 0 1000 v
  have hb : ∀ o, Below w.heap.size w (w.alloc o) := fun o => (Below.refl _ _).alloc (Nat.le_refl _) o
  unfold vS
  dsimp only
  generalize Bf.inn B 1 65536 = b0 at *
  generalize Bf.inn P B 1048576 = b1 at *
  generalize Bf.inn J 0 1000 = b2 at *
  cases b0
  · skip
    go_enter Try.func19, Try.ntmps19
    go_wp2_with (go_at_call 27; (first | with_reducible refine (c0 _).mono ?_ | with_reducible refine (c1 _).mono ?_ | with_reducible refine (c2 _).mono ?_); rintro e w1 ⟨rfl, rfl⟩)
    go_ret
    exact ⟨by first | rfl | simp, hb _⟩
  cases b1
  · skip
    go_enter Try.func19, Try.ntmps19
    go_wp2_with (go_at_call 27; (first | with_reducible refine (c0 _).mono ?_ | with_reducible refine (c1 _).mono ?_ | with_reducible refine (c2 _).mono ?_); rintro e w1 ⟨rfl, rfl⟩)
    go_ret
    exact ⟨by first | rfl | simp, hb _⟩
  cases b2
  · skip
    go_enter Try.func19, Try.ntmps19
    go_wp2_with (go_at_call 27; (first | with_reducible refine (c0 _).mono ?_ | with_reducible refine (c1 _).mono ?_ | with_reducible refine (c2 _).mono ?_); rintro e w1 ⟨rfl, rfl⟩)
    go_ret
    exact ⟨by first | rfl | simp, hb _⟩
  go_enter Try.func19, Try.ntmps19
  go_wp2_with (go_at_call 27; (first | with_reducible refine (c0 _).mono ?_ | with_reducible refine (c1 _).mono ?_ | with_reducible refine (c2 _).mono ?_); rintro e w1 ⟨rfl, rfl⟩)
  go_ret
  exact ⟨by first | rfl | simp, hb _⟩

theorem Bf.sets_no {s : Bf.Se} (h : ¬ (1 ≤ s.b ∧ s.b ≤ 65536 ∧ s.b ≤ s.p ∧ s.p ≤ 1048576 ∧ 0 ≤ s.j ∧ s.j ≤ 1000)) : Bf.sets s = false := by
  cases hb : Bf.sets s with
  | false => rfl
  | true => exact absurd (Bf.sets_iff.1 hb) h
set_option maxHeartbeats 2000000 in
theorem rcheck_any (s : Bf.Se) (w : World) : Calls Try.prog 20 #[vS s] w fun e w' => e = .returned (.int .i64 (Bf.chk s)) ∧ Below w.heap.size w w' := by
  have hb : ∀ o, Below w.heap.size w (w.alloc o) := fun o => (Below.refl _ _).alloc (Nat.le_refl _) o
  have HN := hidD (@Bf.sets_no s)
  have HY := hidD (@Bf.sets_iff s)
  unfold Bf.chk
  generalize Bf.sets s = z at *
  obtain ⟨B, P, J⟩ := s
  unfold vS
  dsimp only at *
  by_cases h0 : 1 ≤ B
  · skip
    by_cases h1 : B ≤ 65536
    · skip
      by_cases h2 : B ≤ P
      · skip
        by_cases h3 : P ≤ 1048576
        · skip
          by_cases h4 : 0 ≤ J
          · skip
            by_cases h5 : J ≤ 1000
            · skip
              have hz : z = true := HY.out.2 ⟨h0, h1, h2, h3, h4, h5⟩
              subst hz
              clear HN HY
              go_enter Try.func20, Try.ntmps20
              go_wp2
              go_ret
              exact ⟨rfl, hb _⟩
            · have hz : z = false := HN.out (fun e => by omega)
              subst hz
              clear HN HY
              go_enter Try.func20, Try.ntmps20
              go_wp2
              go_ret
              exact ⟨rfl, hb _⟩
          · have hz : z = false := HN.out (fun e => by omega)
            subst hz
            clear HN HY
            go_enter Try.func20, Try.ntmps20
            go_wp2
            go_ret
            exact ⟨rfl, hb _⟩
        · have hz : z = false := HN.out (fun e => by omega)
          subst hz
          clear HN HY
          go_enter Try.func20, Try.ntmps20
          go_wp2
          go_ret
          exact ⟨rfl, hb _⟩
      · have hz : z = false := HN.out (fun e => by omega)
        subst hz
        clear HN HY
        go_enter Try.func20, Try.ntmps20
        go_wp2
        go_ret
        exact ⟨rfl, hb _⟩
    · have hz : z = false := HN.out (fun e => by omega)
      subst hz
      clear HN HY
      go_enter Try.func20, Try.ntmps20
      go_wp2
      go_ret
      exact ⟨rfl, hb _⟩
  · have hz : z = false := HN.out (fun e => by omega)
    subst hz
    clear HN HY
    go_enter Try.func20, Try.ntmps20
    go_wp2
    go_ret
    exact ⟨rfl, hb _⟩

set_option maxHeartbeats 1000000 in
theorem mayTry_any (s : Bf.Se) (n a : Int) (w : World) : Calls Try.prog 22 #[vS s, .int .i64 n, .int .i64 a] w fun e w' => e = .returned (.int .i64 (Bf.tryE s n a)) ∧ Below w.heap.size w w' := by
  have c1 := fun W => bcheck_any s W
  have c2 := fun W => within_any n a 64 W
  unfold Bf.tryE
  generalize Bf.chk s = k at *
  generalize Bf.inn n a 64 = b2 at *
  have HB := hidD ((Below.refl w.heap.size w).alloc (Nat.le_refl _) (.cells (sL s).toArray 23))
  have HS : Hid (w.heap.size ≤ (w.alloc (.cells (sL s).toArray 23)).heap.size) := hidD (by rw [World.size_alloc]; omega)
  obtain ⟨W0, hW0⟩ : ∃ W0, W0 = w.alloc (.cells (sL s).toArray 23) := ⟨_, rfl⟩
  obtain ⟨N, hN⟩ : ∃ N, N = w.heap.size := ⟨_, rfl⟩
  rw [← hW0] at HB HS
  rw [← hN] at HB HS ⊢
  simp only [sL] at hW0
  go_enter Try.func22, Try.ntmps22
  go_wp2_with fail
  rw [← hN, ← hW0]
  clear hW0 hN
  with_reducible refine (c1 _).mono ?_
  rintro e w1 ⟨rfl, h1⟩
  have hb1 := hidD (below_on HB.out HS.out h1)
  clear HB HS h1 c1
  by_cases hk : k = 0
  · subst hk
    cases b2
    · go_wp2_with fail
      with_reducible refine (c2 _).mono ?_
      rintro e w2 ⟨rfl, rfl⟩
      go_wp2_with fail
      go_ret
      exact ⟨rfl, hb1.out⟩
    · go_wp2_with fail
      with_reducible refine (c2 _).mono ?_
      rintro e w2 ⟨rfl, rfl⟩
      go_wp2_with fail
      go_ret
      exact ⟨rfl, hb1.out⟩
  · have hk1 : (k != 0) = true := by simp [hk]
    clear c2
    go_wp2_with fail
    go_ret
    exact ⟨rfl, hb1.out⟩
end Go.Proofs.Ytekldjfmdapgpaa
