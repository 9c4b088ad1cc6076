/- choice, plainly: so many choices, one behind the other. -/
import Derived.Test.YtcpcnajifdicmaaC4
namespace Go.Proofs.Ytcpcnajifdicmaa
open Go.RowKit Go.Sort
set_option linter.unusedVariables false

namespace Lo
theorem run_zero (s : Nat) (l : List Rp.Pt) : run s l 0 = (s, l) := rfl
theorem run_succ (s : Nat) (l : List Rp.Pt) (k : Nat) : run s l (k + 1) = (pickS (run s l k).1 (run s l k).2, bump (run s l k).2 (pickP (run s l k).1 (run s l k).2)) := rfl
theorem run_length (s : Nat) (l : List Rp.Pt) (k : Nat) : (run s l k).2.length = l.length := by
  induction k with
  | zero => rfl
  | succ k ih => rw [run_succ]; show (bump _ _).length = _; rw [bump_length, ih]
theorem run_pick (s : Nat) {l : List Rp.Pt} (h : 0 < l.length) (k : Nat) : pickP (run s l k).1 (run s l k).2 < l.length := by
  have := pick_lt (s := (run s l k).1) (l := (run s l k).2) (by rw [run_length]; exact h)
  rw [run_length] at this
  exact this
theorem run_id (s : Nat) {l : List Rp.Pt} (h : 0 < l.length) (k j : Nat) : id' (run s l k).2 j = id' l j := by
  induction k with
  | zero => rfl
  | succ k ih => rw [run_succ]; show id' (bump _ _) j = _; rw [bump_id _ _ _ (by rw [run_length]; exact run_pick s h k), ih]
theorem run_bu (s : Nat) {l : List Rp.Pt} (h : 0 < l.length) (k j : Nat) : bu l j ≤ bu (run s l k).2 j ∧ bu (run s l k).2 j ≤ bu l j + k := by
  induction k with
  | zero => exact ⟨Int.le_refl _, by show bu l j ≤ bu l j + ((0 : Nat) : Int); omega⟩
  | succ k ih =>
    rw [run_succ]
    show bu l j ≤ bu (bump _ _) j ∧ bu (bump _ _) j ≤ _
    rw [bump_bu _ _ _ (by rw [run_length]; exact run_pick s h k)]
    split
    · omega
    · omega
theorem check_of {l : List Rp.Pt} (h1 : l.length ≤ 32) (h2 : ∀ j, j < l.length → 0 ≤ id' l j ∧ id' l j ≤ 2147483647 ∧ 0 ≤ bu l j ∧ bu l j ≤ 1048576) (h3 : ∀ i, 0 < i → i < l.length → id' l (i - 1) < id' l i) : checkE l = 0 := by
  unfold checkE
  have ho : ¬ l.any outside = true := by
    rw [List.any_eq_true]
    rintro ⟨x, hx, hox⟩
    obtain ⟨j, hj, rfl⟩ := List.mem_iff_getElem.1 hx
    rw [out_iff] at hox
    have h := h2 j hj
    unfold id' bu at h
    rw [pgetD_at hj] at h
    omega
  rw [if_neg (by omega), if_neg ho, if_pos (rises_all h3)]
theorem spread_ok {n : Int} {l : List Rp.Pt} (h : spreadE n l = 0) : peopledE l = 0 ∧ 0 ≤ n ∧ n ≤ 4096 ∧ ∀ j, j < l.length → bu l j ≤ 1048576 - n := by
  unfold spreadE at h
  by_cases hp : peopledE l = 0
  · rw [if_neg (by simp [hp])] at h
    by_cases hn : n < 0 ∨ 4096 < n
    · rw [if_pos hn] at h; cases h
    · rw [if_neg hn] at h
      by_cases ha : l.any (fun x => decide (1048576 - n < x.2)) = true
      · rw [if_pos ha] at h; cases h
      · refine ⟨hp, by omega, by omega, fun j hj => ?_⟩
        rcases Int.lt_or_le (1048576 - n) (bu l j) with h1 | h1
        · exact absurd (List.any_eq_true.2 ⟨_, at_mem hj, decide_eq_true h1⟩) ha
        · exact h1
  · rw [if_pos hp] at h; exact absurd h hp
theorem run_check (s : Nat) {n : Int} {l : List Rp.Pt} (h : spreadE n l = 0) (k : Nat) (hk : (k : Int) ≤ n) : checkE (run s l k).2 = 0 := by
  obtain ⟨hp, h0, h1, h2⟩ := spread_ok h
  obtain ⟨hc, hl⟩ := people_ok hp
  obtain ⟨c1, c2, c3⟩ := check_ok hc
  refine check_of (by rw [run_length]; exact c1) (fun j hj => ?_) (fun i hi hil => ?_)
  · rw [run_length] at hj
    have := at_ok hc hj
    have := h2 j hj
    have := run_bu s hl k j
    rw [run_id s hl]
    omega
  · rw [run_length] at hil
    rw [run_id s hl, run_id s hl]
    exact rise_step c3 hi hil
theorem run_people (s : Nat) {n : Int} {l : List Rp.Pt} (h : spreadE n l = 0) (k : Nat) (hk : (k : Int) ≤ n) : peopledE (run s l k).2 = 0 := by
  unfold peopledE
  have hl := (people_ok (spread_ok h).1).2
  rw [run_check s h k hk, if_neg (by simp), if_neg (by rw [run_length]; omega)]
end Lo
end Go.Proofs.Ytcpcnajifdicmaa
