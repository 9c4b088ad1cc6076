/- choice: pick, Two. -/
import Derived.Test.YtcpcnajifdicmaaC3
namespace Go.Proofs.Ytcpcnajifdicmaa
open Go.RowKit Go.Sort
set_option linter.unusedVariables false
set_option maxRecDepth 20000

theorem pseg_cell {k : IntKind} {w : World} {v : Value} {l : List Rp.Pt} (h : PSeg k w v l) (h0 : 0 < l.length) : ∃ g off cap, v = .slice (some ⟨g, off, none⟩) l.length cap ∧ l.length ≤ cap ∧ cap ≤ maxLen ∧ g < w.heap.size ∧ ∀ i, i < l.length → w.cell? ⟨g, off + i * 2, none⟩ = some (.int k (l.getD i (0, 0)).1) ∧ w.cell? ⟨g, off + i * 2 + 1, none⟩ = some (.int .i64 (l.getD i (0, 0)).2) := by
  obtain ⟨a, cap, rfl, h1, h2, h3, h4⟩ := h
  obtain ⟨g, off, rfl, hg, hcell⟩ := pseg_at h0 h3 h4
  exact ⟨g, off, cap, rfl, h1, h2, hg, hcell⟩

theorem lpick_one (s : Nat) (g off cap : Nat) (w : World) (h1 : 1 ≤ cap) (h2 : cap ≤ 9223372036854775807) :
    Calls Try.prog 30 #[.int .u64 s, .slice (some ⟨g, off, none⟩) 1 cap] w fun e w' => e = .returned (.tuple #[.int .u64 s, .int .i64 0]) ∧ ∃ q, w' = w.drewN q := by
  go_enter Try.func30, Try.ntmps30
  go_wp2
  go_ret2
  exact ⟨rfl, 0, rfl⟩
set_option maxHeartbeats 2000000 in
theorem lpick_v (s S N A B g off cap : Nat) (x y : Int) (w : World) (h1 : N ≤ cap) (h2 : cap ≤ 9223372036854775807) (h11 : N ≠ 1) (hA : (A : Int) < (N : Int)) (hB : (B : Int) < (N : Int)) (h32 : N ≤ 32) (hg : g < w.heap.size)
    (QA2 : w.cell? ⟨g, off + A * 2 + 1, none⟩ = some (.int .i64 x)) (QB2 : w.cell? ⟨g, off + B * 2 + 1, none⟩ = some (.int .i64 y))
    (c : Calls Try.prog 45 #[.int .u64 s, .int .i64 N] w fun e w' => e = .returned (.tuple #[.int .u64 (S : Nat), .int .i64 (A : Nat), .int .i64 (B : Nat), .int .i64 0]) ∧ w = w') :
    Calls Try.prog 30 #[.int .u64 s, .slice (some ⟨g, off, none⟩) N cap] w fun e w' => e = .returned (.tuple #[.int .u64 S, .int .i64 ((if y < x then B else A : Nat) : Int)]) ∧ ∃ q, w' = w.drewN q := by
  have hb0 : ((N : Int) == 1) = false := by simp; omega
  by_cases hxy : y < x
  · rw [if_pos hxy]
    go_enter Try.func30, Try.ntmps30
    go_wp2_with fail
    with_reducible refine c.mono ?_
    rintro e w1 ⟨rfl, rfl⟩
    clear c
    as_aux_lemma =>
      go_wp2_with fail
      go_quiet (fail)
      go_wp2
      go_ret2
      exact ⟨rfl, _, rfl⟩
  · rw [if_neg hxy]
    go_enter Try.func30, Try.ntmps30
    go_wp2_with fail
    with_reducible refine c.mono ?_
    rintro e w1 ⟨rfl, rfl⟩
    clear c
    as_aux_lemma =>
      go_wp2_with fail
      go_quiet (fail)
      go_wp2
      go_ret2
      exact ⟨rfl, _, rfl⟩
theorem Lo.pickS_one {s : Nat} {l : List Rp.Pt} (h : l.length = 1) : Lo.pickS s l = s := by unfold Lo.pickS; rw [if_pos h]
theorem Lo.pickP_one {s : Nat} {l : List Rp.Pt} (h : l.length = 1) : Lo.pickP s l = 0 := by unfold Lo.pickP; rw [if_pos h]
theorem Lo.pickS_two {s : Nat} {l : List Rp.Pt} (h : l.length ≠ 1) : Lo.pickS s l = Hp.nx (Hp.nx s) := by unfold Lo.pickS; rw [if_neg h]
theorem Lo.pickP_two {s : Nat} {l : List Rp.Pt} (h : l.length ≠ 1) : Lo.pickP s l = if Lo.bu l (Hp.twoB s l.length) < Lo.bu l (Hp.twoA s l.length) then Hp.twoB s l.length else Hp.twoA s l.length := by unfold Lo.pickP; rw [if_neg h]
theorem lpick_any (s : Nat) (v : Value) (l : List Rp.Pt) (w : World) (hv : PSeg .i64 w v l) (h0 : 0 < l.length) (h32 : l.length ≤ 32) :
    Calls Try.prog 30 #[.int .u64 s, v] w fun e w' => e = .returned (.tuple #[.int .u64 (Lo.pickS s l : Nat), .int .i64 (Lo.pickP s l : Nat)]) ∧ ∃ q, w' = w.drewN q := by
  obtain ⟨g, off, cap, rfl, h1, h2, hg, hcell⟩ := pseg_cell hv h0
  unfold maxLen at h2
  by_cases h11 : l.length = 1
  · rw [Lo.pickS_one h11, Lo.pickP_one h11, h11]
    rw [h11] at h1
    exact lpick_one s g off cap w h1 (by omega)
  · rw [Lo.pickS_two h11, Lo.pickP_two h11]
    have c := two_any s (l.length : Int) w
    rw [if_pos (by omega)] at c
    have hB := (Hp.two_ok (s := s) (n := (l.length : Int)) (by omega)).2
    have hA := Hp.twoA_lt (s := s) (n := (l.length : Int)) (by omega)
    exact lpick_v s _ l.length _ _ g off cap _ _ w h1 (by omega) h11 hA hB h32 hg (hcell _ (by omega)).2 (hcell _ (by omega)).2 c

theorem lbelow_drewN (w : World) (q : Nat) : Below w.heap.size w (w.drewN q) := belowD_drewN (Below.refl _ _) q
set_option maxHeartbeats 2000000 in
theorem ltwo_any (s : Nat) (v : Value) (l : List Rp.Pt) (w : World) (hv : PSeg .i64 w v l) :
    Calls Try.prog 12 #[.int .u64 s, v] w fun e w' => e = .returned (.tuple #[.int .u64 (if Lo.peopledE l = 0 then (Lo.pickS s l : Nat) else 0), .int .i64 (if Lo.peopledE l = 0 then Lo.id' l (Lo.pickP s l) else 0), .int .i64 (Lo.peopledE l)]) ∧ Below w.heap.size w w' := by
  have c := lpeopled_any v l w hv
  by_cases hE : Lo.peopledE l = 0
  · rw [if_pos hE, if_pos hE, hE]
    rw [hE] at c
    obtain ⟨hc, h0⟩ := Lo.people_ok hE
    have h32 := (Lo.check_ok hc).1
    have hp := Lo.pick_lt (s := s) h0
    have c2 := fun W (h : Below w.heap.size w W) => lpick_any s v l W (hv.below h) h0 h32
    obtain ⟨g, off, cap, rfl, h1, h2, hg, hcell⟩ := pseg_cell hv h0
    unfold maxLen at h2
    have Q0 := (hcell _ hp).1
    rw [show (l.getD (Lo.pickP s l) (0, 0)).1 = Lo.id' l (Lo.pickP s l) from rfl] at Q0
    generalize Lo.id' l (Lo.pickP s l) = X at *
    generalize Lo.pickP s l = PP at *
    generalize Lo.pickS s l = SS at *
    clear hcell hv hE hc
    generalize l.length = N at *
    have i1 : (PP : Int) < (N : Int) := by omega
    go_enter Try.func12, Try.ntmps12
    go_wp2_with fail
    with_reducible refine c.mono ?_
    rintro e w1 ⟨rfl, b1⟩
    have c3 := c2 w1 b1
    clear c2 c
    go_wp2_with fail
    with_reducible refine c3.mono ?_
    rintro e w2 ⟨rfl, q, rfl⟩
    have b2 := Below.step b1 (lbelow_drewN w1 q)
    have Q1 := (b2.cell (p := ⟨g, off + PP * 2, none⟩) hg).trans Q0
    clear c3 b1 Q0
    generalize w1.drewN q = w3 at *
    go_wp2_with fail
    go_quiet (fail)
    go_wp2
    go_ret3
    exact ⟨rfl, belowD_drewN b2 _⟩
  · rw [if_neg hE, if_neg hE]
    obtain ⟨a, cap, rfl, h1, h2, h3, h4⟩ := id hv
    clear hv h3 h4
    generalize Lo.peopledE l = E at *
    have hb0 : (E == 0) = false := by simp [hE]
    go_enter Try.func12, Try.ntmps12
    go_wp2_with fail
    with_reducible refine c.mono ?_
    rintro e w' ⟨rfl, b1⟩
    go_wp2
    go_ret3
    exact ⟨rfl, b1⟩
end Go.Proofs.Ytcpcnajifdicmaa
