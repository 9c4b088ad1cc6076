/- choice: the reference's Least and Ring. -/
import Derived.Test.YtcpcnajifdicmaaCB4
namespace Go.Proofs.Ytcpcnajifdicmaa
open Go.RowKit Go.Sort
set_option linter.unusedVariables false
set_option maxRecDepth 20000

theorem lrleast_bad (v : Value) (l : List Rp.Pt) (w : World) (hv : PSeg .i64 w v l) (hE : Lo.peopledE l ≠ 0) :
    Calls Try.prog 11 #[v] w fun e w' => e = .returned (.tuple #[.int .i64 0, .int .i64 (Lo.peopledE l)]) ∧ Below w.heap.size w w' := by
  have c := lrcheck_any v l w hv
  obtain ⟨a, cap, rfl, h1, h2, h3, h4⟩ := id hv
  clear hv h3 h4
  by_cases hc : Lo.checkE l = 0
  · have h0 : l.length = 0 := by
      unfold Lo.peopledE at hE
      rw [if_neg (by simp [hc])] at hE
      by_cases h : l.length = 0
      · exact h
      · rw [if_neg h] at hE; exact absurd rfl hE
    have hE2 : Lo.peopledE l = 71 := by unfold Lo.peopledE; rw [if_neg (by simp [hc]), if_pos h0]
    rw [hE2, h0]
    rw [hc, h0] at c
    clear hE hE2 hc
    go_enter Try.func11, Try.ntmps11
    go_wp2_with fail
    with_reducible refine c.mono ?_
    rintro e w' ⟨rfl, b1⟩
    go_wp2
    go_ret2
    exact ⟨rfl, b1⟩
  · have hE2 : Lo.peopledE l = Lo.checkE l := by unfold Lo.peopledE; rw [if_pos hc]
    rw [hE2]
    clear hE2 hE
    generalize Lo.checkE l = E at *
    have hb0 : (E == 0) = false := by simp [hc]
    go_enter Try.func11, Try.ntmps11
    go_wp2_with fail
    with_reducible refine c.mono ?_
    rintro e w' ⟨rfl, b1⟩
    go_wp2
    go_ret2
    exact ⟨rfl, b1⟩

set_option maxHeartbeats 2000000 in
theorem lrleast_good (v : Value) (l : List Rp.Pt) (w : World) (hv : PSeg .i64 w v l) (hE : Lo.peopledE l = 0) :
    Calls Try.prog 11 #[v] w fun e w' => e = .returned (.tuple #[.int .i64 (Lo.id' l (Lo.least l)), .int .i64 0]) ∧ Below w.heap.size w w' := by
  have c := lrcheck_any v l w hv
  obtain ⟨hc, h0⟩ := Lo.people_ok hE
  rw [hc] at c
  obtain ⟨g, off, cap, rfl, h1, h2, hg, hcell⟩ := pseg_cell hv h0
  unfold maxLen at h2
  have HC := hidD hcell
  have HLL : Hid (Lo.least l = Lo.best l (l.length - 1)) := hidD rfl
  have HBL : Hid (∀ k, Lo.best l k ≤ k) := hidD (Lo.best_le l)
  obtain ⟨N, hN⟩ : ∃ N, N = l.length := ⟨_, rfl⟩
  have HN := hidD hN
  rw [← hN] at h0 h1 c HLL ⊢
  clear hv hcell hE hc hN
  have hb0 : ((N : Int) == 0) = false := by simp; omega
  go_enter Try.func11, Try.ntmps11
  go_wp2_with fail
  with_reducible refine c.mono ?_
  rintro e w1 ⟨rfl, b1⟩
  clear c
  go_wp2_with fail
  go_loopw [5, 6] (fun b i wr => ∃ k : Nat, 1 ≤ k ∧ k ≤ N ∧ i = .int .i64 k ∧ b = .int .i64 (Lo.best l (k - 1) : Nat) ∧ Below w.heap.size w wr) (fun _ i _ => N - (intOf i).toNat)
  case atStart => exact ⟨1, by omega, by omega, rfl, rfl, b1⟩
  case round =>
    clear b1
    obtain ⟨k, hk1, hk2, rfl, rfl, hbl⟩ := hrel
    have hbk := HBL.out (k - 1)
    by_cases hlt : k < N
    · have HS : Hid (Lo.best l k = if (l.getD k (0, 0)).2 < (l.getD (Lo.best l (k - 1)) (0, 0)).2 then k else Lo.best l (k - 1)) := hidD (by
        obtain ⟨m, rfl⟩ : ∃ m, k = m + 1 := ⟨k - 1, by omega⟩
        rfl)
      have Q1 := (hbl.cell (p := ⟨g, off + k * 2 + 1, none⟩) hg).trans (HC.out k (by have := HN.out; omega)).2
      have Q2 := (hbl.cell (p := ⟨g, off + Lo.best l (k - 1) * 2 + 1, none⟩) hg).trans (HC.out (Lo.best l (k - 1)) (by have := HN.out; omega)).2
      generalize (l.getD k (0, 0)).2 = x at *
      generalize (l.getD (Lo.best l (k - 1)) (0, 0)).2 = y at *
      generalize Lo.best l (k - 1) = B at *
      have i1 : (k : Int) < (N : Int) := by omega
      have i2 : (B : Int) < (N : Int) := by omega
      by_cases hxy : x < y
      · have hB : Hid (Lo.best l k = k) := hidD (by rw [HS.out, if_pos hxy])
        clear HS
        go_wp2_with fail
        go_quiet (fail)
        go_wp2
        exact ⟨⟨k + 1, by omega, by omega, by go_num, by rw [Nat.add_sub_cancel, hB.out], belowD_drewN hbl _⟩, by simp [intOf]; omega⟩
      · have hB : Hid (Lo.best l k = B) := hidD (by rw [HS.out, if_neg hxy])
        have d1 : decide (x < y) = false := decide_eq_false hxy
        clear HS
        go_wp2_with fail
        go_quiet (fail)
        go_wp2
        exact ⟨⟨k + 1, by omega, by omega, by go_num, by rw [Nat.add_sub_cancel, hB.out], belowD_drewN hbl _⟩, by simp [intOf]; omega⟩
    · obtain rfl : k = N := by omega
      rw [← HLL.out] at hbk ⊢
      have Q1 := (hbl.cell (p := ⟨g, off + Lo.least l * 2, none⟩) hg).trans (HC.out (Lo.least l) (by have := HN.out; omega)).1
      have HX : Hid (Lo.id' l (Lo.least l) = (l.getD (Lo.least l) (0, 0)).1) := hidD rfl
      generalize (l.getD (Lo.least l) (0, 0)).1 = x at *
      have i2 : ((Lo.least l : Nat) : Int) < (k : Int) := by omega
      clear HLL
      go_wp2
      go_ret2
      exact ⟨(by rw [HX.out]; rfl), hbl⟩
theorem lrleast_any (v : Value) (l : List Rp.Pt) (w : World) (hv : PSeg .i64 w v l) :
    Calls Try.prog 11 #[v] w fun e w' => e = .returned (.tuple #[.int .i64 (if Lo.peopledE l = 0 then Lo.id' l (Lo.least l) else 0), .int .i64 (Lo.peopledE l)]) ∧ Below w.heap.size w w' := by
  by_cases h : Lo.peopledE l = 0
  · rw [if_pos h, h]; exact lrleast_good v l w hv h
  · rw [if_neg h]; exact lrleast_bad v l w hv h
end Go.Proofs.Ytcpcnajifdicmaa
