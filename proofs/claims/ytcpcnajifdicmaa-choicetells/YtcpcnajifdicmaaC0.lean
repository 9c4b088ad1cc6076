/- choice, plainly: loads, the least, two, so many choices, the first on a ring. -/
import Derived.Test.YtcpcnajifdicmaaRP
import Derived.Test.YtcpcnajifdicmaaDA
namespace Go.Proofs.Ytcpcnajifdicmaa
open Go.RowKit
set_option maxRecDepth 20000

namespace Lo
abbrev Pt := Rp.Pt
def outside (b : Pt) : Bool := decide (b.1 < 0) || decide (2147483647 < b.1) || decide (b.2 < 0) || decide (1048576 < b.2)
theorem out_iff (x : Pt) : outside x = true ↔ x.1 < 0 ∨ 2147483647 < x.1 ∨ x.2 < 0 ∨ 1048576 < x.2 := by simp [outside, or_assoc]
def checkE (l : List Pt) : Int := if 32 < l.length then 3 else if l.any outside then 4 else if Rp.rises l then 0 else 6
def peopledE (l : List Pt) : Int := if checkE l ≠ 0 then checkE l else if l.length = 0 then 71 else 0
def id' (l : List Pt) (i : Nat) : Int := (l.getD i (0, 0)).1
def bu (l : List Pt) (i : Nat) : Int := (l.getD i (0, 0)).2
/-- Where the least of the first ones stands. -/
def best (l : List Pt) : Nat → Nat
  | 0 => 0
  | k + 1 => if bu l (k + 1) < bu l (best l k) then k + 1 else best l k
def least (l : List Pt) : Nat := best l (l.length - 1)
def pickS (s : Nat) (l : List Pt) : Nat := if l.length = 1 then s else Hp.nx (Hp.nx s)
def pickP (s : Nat) (l : List Pt) : Nat := if l.length = 1 then 0 else if bu l (Hp.twoB s l.length) < bu l (Hp.twoA s l.length) then Hp.twoB s l.length else Hp.twoA s l.length
def bump (l : List Pt) (i : Nat) : List Pt := l.set i (id' l i, bu l i + 1)
def run (s : Nat) (l : List Pt) : Nat → Nat × List Pt
  | 0 => (s, l)
  | k + 1 => (pickS (run s l k).1 (run s l k).2, bump (run s l k).2 (pickP (run s l k).1 (run s l k).2))
def spreadE (n : Int) (l : List Pt) : Int := if peopledE l ≠ 0 then peopledE l else if n < 0 ∨ 4096 < n then 4 else if l.any (fun x => decide (1048576 - n < x.2)) then 4 else 0
def spread (s : Nat) (n : Int) (l : List Pt) : List Pt := if spreadE n l = 0 then (run s l n.toNat).2 else []
/-- How busy an ID is; -1 of none. -/
def busy (l : List Pt) (x : Int) : Int := match l.find? (fun p => p.1 == x) with
  | some p => p.2
  | none => -1
def has (l : List Pt) (x : Int) : Bool := l.any fun p => p.1 == x
def first (r : List Pt) (h : Int) (l : List Pt) : Option Int := (Rp.walkL r h).find? (has l)
def ringE (r : List Pt) (h : Int) (l : List Pt) : Int := if checkE l ≠ 0 then checkE l else if Rp.wholeE r ≠ 0 then Rp.wholeE r else if (first r h l).isSome then 0 else 71
def ringI (r : List Pt) (h : Int) (l : List Pt) : Int := if ringE r h l = 0 then (first r h l).getD 0 else 0

theorem people_ok {l : List Pt} (h : peopledE l = 0) : checkE l = 0 ∧ 0 < l.length := by
  unfold peopledE at h
  by_cases hc : checkE l = 0
  · rw [if_neg (by simp [hc])] at h
    by_cases h0 : l.length = 0
    · rw [if_pos h0] at h; cases h
    · exact ⟨hc, by omega⟩
  · rw [if_pos hc] at h; exact absurd h hc
theorem check_ok {l : List Pt} (h : checkE l = 0) : l.length ≤ 32 ∧ (∀ x ∈ l, 0 ≤ x.1 ∧ x.1 ≤ 2147483647 ∧ 0 ≤ x.2 ∧ x.2 ≤ 1048576) ∧ Rp.rises l = true := by
  unfold checkE at h
  by_cases h1 : 32 < l.length
  · rw [if_pos h1] at h; cases h
  · rw [if_neg h1] at h
    by_cases h2 : l.any outside = true
    · rw [if_pos h2] at h; cases h
    · rw [if_neg h2] at h
      by_cases h3 : Rp.rises l = true
      · refine ⟨by omega, fun x hx => ?_, h3⟩
        have : ¬ outside x = true := fun e => h2 (List.any_eq_true.2 ⟨x, hx, e⟩)
        rw [out_iff] at this
        omega
      · rw [if_neg h3] at h; cases h
theorem at_mem {l : List Pt} {i : Nat} (h : i < l.length) : l.getD i (0, 0) ∈ l := by
  simp [List.getD, h]
theorem at_ok {l : List Pt} (h : checkE l = 0) {i : Nat} (hi : i < l.length) : 0 ≤ id' l i ∧ id' l i ≤ 2147483647 ∧ 0 ≤ bu l i ∧ bu l i ≤ 1048576 := (check_ok h).2.1 _ (at_mem hi)
theorem rise_step {l : List Pt} (h : Rp.rises l = true) {i : Nat} (h0 : 0 < i) (hi : i < l.length) : id' l (i - 1) < id' l i := by
  unfold Rp.rises at h
  rw [List.all_eq_true] at h
  have := h i (List.mem_range.2 hi)
  simp only [Bool.or_eq_true, decide_eq_true_eq] at this
  rcases this with h1 | h1
  · omega
  · exact h1
theorem rise_all {l : List Pt} (h : Rp.rises l = true) {i j : Nat} (hij : i < j) (hj : j < l.length) : id' l i < id' l j := by
  obtain ⟨d, rfl⟩ : ∃ d, j = i + d + 1 := ⟨j - i - 1, by omega⟩
  clear hij
  induction d with
  | zero => exact rise_step h (i := i + 1) (by omega) hj
  | succ d ih =>
    have := rise_step h (i := i + (d + 1) + 1) (by omega) hj
    have h2 := ih (by omega)
    rw [show i + (d + 1) + 1 - 1 = i + d + 1 from by omega] at this
    omega
theorem id_inj {l : List Pt} (h : Rp.rises l = true) {i j : Nat} (hi : i < l.length) (hj : j < l.length) (e : id' l i = id' l j) : i = j := by
  rcases Nat.lt_trichotomy i j with h1 | h1 | h1
  · have := rise_all h h1 hj; omega
  · exact h1
  · have := rise_all h h1 hi; omega

theorem best_le (l : List Pt) (k : Nat) : best l k ≤ k := by
  induction k with
  | zero => exact Nat.le_refl _
  | succ k ih =>
    rw [best]
    split
    · exact Nat.le_refl _
    · omega
/-- None is less busy than the least, and of those ahead of it none as little. -/
theorem best_is (l : List Pt) (k : Nat) : ∀ j, j ≤ k → bu l (best l k) ≤ bu l j ∧ (bu l j = bu l (best l k) → best l k ≤ j) := by
  induction k with
  | zero => intro j hj; obtain rfl : j = 0 := (by omega); exact ⟨Int.le_refl _, fun _ => Nat.le_refl _⟩
  | succ k ih =>
    intro j hj
    rw [best]
    by_cases hlt : bu l (k + 1) < bu l (best l k)
    · rw [if_pos hlt]
      by_cases hjk : j = k + 1
      · subst hjk; exact ⟨Int.le_refl _, fun _ => Nat.le_refl _⟩
      · have := (ih j (by omega)).1
        exact ⟨by omega, fun e => by omega⟩
    · rw [if_neg hlt]
      by_cases hjk : j = k + 1
      · subst hjk
        have hb := best_le l k
        exact ⟨by omega, fun _ => by omega⟩
      · exact ih j (by omega)
theorem least_lt {l : List Pt} (h : 0 < l.length) : least l < l.length := by
  have := best_le l (l.length - 1)
  unfold least
  omega

/-- How busy the one at a place is, looked for by its ID. -/
theorem busy_at {l : List Pt} (h : Rp.rises l = true) {i : Nat} (hi : i < l.length) : busy l (id' l i) = bu l i := by
  unfold busy
  have hf : l.find? (fun p => p.1 == id' l i) = some (l.getD i (0, 0)) := by
    rw [List.find?_eq_some_iff_getElem]
    refine ⟨by simp [id'], i, hi, by simp [List.getD, hi], fun j hj => ?_⟩
    have := rise_all h hj hi
    simp only [Bool.not_eq_true', beq_eq_false_iff_ne, ne_eq]
    intro e
    have e2 : id' l j = l[j].1 := by simp [id', List.getD, (by omega : j < l.length)]
    omega
  rw [hf]
  rfl
theorem has_iff (l : List Pt) (x : Int) : has l x = true ↔ ∃ p ∈ l, p.1 = x := by
  unfold has; rw [List.any_eq_true]; simp
theorem busy_has {l : List Pt} (h : ∀ p ∈ l, 0 ≤ p.2) (x : Int) : decide (0 ≤ busy l x) = has l x := by
  unfold busy
  cases hf : l.find? (fun p => p.1 == x) with
  | some p =>
    have h1 := List.find?_some hf
    have h2 := List.mem_of_find?_eq_some hf
    rw [decide_eq_true (h p h2)]
    exact ((has_iff l x).2 ⟨p, h2, by simpa using h1⟩).symm
  | none =>
    have : has l x = false := by
      rw [List.find?_eq_none] at hf
      rw [← Bool.not_eq_true, has_iff]
      rintro ⟨p, hp, e⟩
      exact hf p hp (by simp [e])
    rw [this]
    rfl

theorem pick_lt {s : Nat} {l : List Pt} (h : 0 < l.length) : pickP s l < l.length := by
  unfold pickP
  by_cases h1 : l.length = 1
  · rw [if_pos h1]; exact h
  · rw [if_neg h1]
    have h2 := Hp.two_ok (s := s) (n := (l.length : Int)) (by omega)
    have h3 := Hp.twoA_lt (s := s) (n := (l.length : Int)) (by omega)
    split
    · have := h2.2; omega
    · omega
theorem bump_length (l : List Pt) (i : Nat) : (bump l i).length = l.length := by simp [bump]
theorem bump_id (l : List Pt) (i j : Nat) (hi : i < l.length) : id' (bump l i) j = id' l j := by
  unfold bump id'
  by_cases h : i = j
  · subst h; simp [List.getD, hi]
  · simp [List.getD, List.getElem?_set_ne h]
theorem bump_bu (l : List Pt) (i j : Nat) (hi : i < l.length) : bu (bump l i) j = if i = j then bu l j + 1 else bu l j := by
  unfold bump bu
  by_cases h : i = j
  · subst h; simp [List.getD, hi]
  · simp [List.getD, List.getElem?_set_ne h, h]
end Lo
end Go.Proofs.Ytcpcnajifdicmaa
