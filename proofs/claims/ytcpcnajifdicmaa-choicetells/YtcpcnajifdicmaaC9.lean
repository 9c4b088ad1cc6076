/- choice: the reference's Two. -/
import Derived.Test.YtcpcnajifdicmaaC8
namespace Go.Proofs.Ytcpcnajifdicmaa
open Go.RowKit Go.Sort
set_option linter.unusedVariables false
set_option maxRecDepth 20000

theorem lrtwo_bad (s : Nat) (v : Value) (l : List Rp.Pt) (w : World) (hv : PSeg .i64 w v l) (hE : Lo.peopledE l ≠ 0) :
    Calls Try.prog 13 #[.int .u64 s, v] w fun e w' => e = .returned (.tuple #[.int .u64 0, .int .i64 0, .int .i64 (Lo.peopledE l)]) ∧ Below w.heap.size w w' := by
  have c := lrcheck_any v l w hv
  obtain ⟨a, cap, rfl, h1, h2, h3, h4⟩ := id hv
  clear hv h3 h4
  by_cases hc : Lo.checkE l = 0
  · have h0 : l.length = 0 := by
      unfold Lo.peopledE at hE
      rw [if_neg (by simp [hc])] at hE
      by_cases h : l.length = 0
      · exact h
      · rw [if_neg h] at hE; exact absurd rfl hE
    have hE2 : Lo.peopledE l = 71 := by unfold Lo.peopledE; rw [if_neg (by simp [hc]), if_pos h0]
    rw [hE2, h0]
    rw [hc, h0] at c
    clear hE hE2 hc
    go_enter Try.func13, Try.ntmps13
    go_wp2_with fail
    with_reducible refine c.mono ?_
    rintro e w' ⟨rfl, b1⟩
    go_wp2
    go_ret3
    exact ⟨rfl, b1⟩
  · have hE2 : Lo.peopledE l = Lo.checkE l := by unfold Lo.peopledE; rw [if_pos hc]
    rw [hE2]
    clear hE2 hE
    generalize Lo.checkE l = E at *
    have hb0 : (E == 0) = false := by simp [hc]
    go_enter Try.func13, Try.ntmps13
    go_wp2_with fail
    with_reducible refine c.mono ?_
    rintro e w' ⟨rfl, b1⟩
    go_wp2
    go_ret3
    exact ⟨rfl, b1⟩
theorem lrtwo_one (s : Nat) (g off cap : Nat) (x : Int) (w : World) (h1 : 1 ≤ cap) (h2 : cap ≤ maxLen) (hg : g < w.heap.size) (Q : w.cell? ⟨g, off, none⟩ = some (.int .i64 x))
    (c : Calls Try.prog 21 #[.slice (some ⟨g, off, none⟩) 1 cap] w fun e w' => e = .returned (.int .i64 0) ∧ Below w.heap.size w w') :
    Calls Try.prog 13 #[.int .u64 s, .slice (some ⟨g, off, none⟩) 1 cap] w fun e w' => e = .returned (.tuple #[.int .u64 s, .int .i64 x, .int .i64 0]) ∧ Below w.heap.size w w' := by
  unfold maxLen at h2
  go_enter Try.func13, Try.ntmps13
  go_wp2_with fail
  with_reducible refine c.mono ?_
  rintro e w1 ⟨rfl, b1⟩
  have Q1 := (b1.cell (p := ⟨g, off, none⟩) hg).trans Q
  clear c
  go_wp2_with fail
  go_quiet (fail)
  go_wp2
  go_ret3
  exact ⟨rfl, belowD_drewN b1 _⟩
set_option maxHeartbeats 2000000 in
theorem lrtwo_v (s S N A B PP g off cap : Nat) (x y z : Int) (w : World) (h1 : N ≤ cap) (h2 : cap ≤ 9223372036854775807) (h00 : N ≠ 0) (h11 : N ≠ 1) (hA : (A : Int) < (N : Int)) (hB : (B : Int) < (N : Int)) (hg : g < w.heap.size) (hP : PP = if y < x then B else A)
    (QA2 : w.cell? ⟨g, off + A * 2 + 1, none⟩ = some (.int .i64 x)) (QB2 : w.cell? ⟨g, off + B * 2 + 1, none⟩ = some (.int .i64 y)) (QP : w.cell? ⟨g, off + PP * 2, none⟩ = some (.int .i64 z))
    (c : Calls Try.prog 21 #[.slice (some ⟨g, off, none⟩) N cap] w fun e w' => e = .returned (.int .i64 0) ∧ Below w.heap.size w w')
    (c2 : ∀ W : World, Calls Try.prog 31 #[.int .u64 s, .int .i64 N] W fun e w' => e = .returned (.tuple #[.int .u64 (S : Nat), .int .i64 (A : Nat), .int .i64 (B : Nat), .int .i64 0]) ∧ W = w') :
    Calls Try.prog 13 #[.int .u64 s, .slice (some ⟨g, off, none⟩) N cap] w fun e w' => e = .returned (.tuple #[.int .u64 S, .int .i64 z, .int .i64 0]) ∧ Below w.heap.size w w' := by
  have hb0 : ((N : Int) == 1) = false := by simp; omega
  have hb1 : ((N : Int) == 0) = false := by simp; omega
  go_enter Try.func13, Try.ntmps13
  go_wp2_with fail
  with_reducible refine c.mono ?_
  rintro e w1 ⟨rfl, b1⟩
  have c3 := c2 w1
  have R1 := (b1.cell (p := ⟨g, off + A * 2 + 1, none⟩) hg).trans QA2
  have R2 := (b1.cell (p := ⟨g, off + B * 2 + 1, none⟩) hg).trans QB2
  have R3 := (b1.cell (p := ⟨g, off + PP * 2, none⟩) hg).trans QP
  clear c c2 QA2 QB2 QP
  go_wp2_with fail
  with_reducible refine c3.mono ?_
  rintro e w2 ⟨rfl, rfl⟩
  clear c3
  by_cases hxy : y < x
  · rw [if_pos hxy] at hP
    subst hP
    as_aux_lemma =>
      go_wp2_with fail
      go_quiet (fail)
      go_wp2_with fail
      go_quiet (fail)
      go_wp2
      go_ret3
      exact ⟨rfl, belowD_drewN (belowD_drewN b1 _) _⟩
  · rw [if_neg hxy] at hP
    subst hP
    as_aux_lemma =>
      go_wp2_with fail
      go_quiet (fail)
      go_wp2_with fail
      go_quiet (fail)
      go_wp2
      go_ret3
      exact ⟨rfl, belowD_drewN (belowD_drewN b1 _) _⟩
theorem lrtwo_any (s : Nat) (v : Value) (l : List Rp.Pt) (w : World) (hv : PSeg .i64 w v l) :
    Calls Try.prog 13 #[.int .u64 s, v] w fun e w' => e = .returned (.tuple #[.int .u64 (if Lo.peopledE l = 0 then (Lo.pickS s l : Nat) else 0), .int .i64 (if Lo.peopledE l = 0 then Lo.id' l (Lo.pickP s l) else 0), .int .i64 (Lo.peopledE l)]) ∧ Below w.heap.size w w' := by
  by_cases hE : Lo.peopledE l = 0
  · rw [if_pos hE, if_pos hE, hE]
    obtain ⟨hc, h0⟩ := Lo.people_ok hE
    have h32 := (Lo.check_ok hc).1
    have c := lrcheck_any v l w hv
    rw [hc] at c
    have hp := Lo.pick_lt (s := s) h0
    obtain ⟨g, off, cap, rfl, h1, h2, hg, hcell⟩ := pseg_cell hv h0
    by_cases h11 : l.length = 1
    · have hP := Lo.pickP_one (s := s) h11
      rw [Lo.pickS_one h11, hP, h11]
      rw [h11] at h1 c
      have Q := (hcell 0 h0).1
      rw [Nat.zero_mul, Nat.add_zero] at Q
      exact lrtwo_one s g off cap _ w h1 h2 hg Q c
    · have c2 := fun W => rtwo_any s (l.length : Int) W
      rw [if_pos (by omega)] at c2
      have hB := (Hp.two_ok (s := s) (n := (l.length : Int)) (by omega)).2
      have hA := Hp.twoA_lt (s := s) (n := (l.length : Int)) (by omega)
      rw [Lo.pickS_two h11]
      unfold maxLen at h2
      exact lrtwo_v s _ l.length _ _ _ g off cap _ _ _ w h1 (by omega) (by omega) h11 hA hB hg (Lo.pickP_two h11) (hcell _ (by omega)).2 (hcell _ (by omega)).2 (hcell _ hp).1 c c2
  · rw [if_neg hE, if_neg hE]
    exact lrtwo_bad s v l w hv hE
end Go.Proofs.Ytcpcnajifdicmaa
