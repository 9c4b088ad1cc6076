/- backoff, plainly: how long a retry waits. -/
import Derived.Test.YtekldjfmdapgpaaHB
namespace Go.Proofs.Ytekldjfmdapgpaa
set_option linter.unusedVariables false

structure Bf.Se where
  b : Int
  p : Int
  j : Int

def Bf.sets (s : Bf.Se) : Bool := decide (1 ≤ s.b) && decide (s.b ≤ 65536) && decide (s.b ≤ s.p) && decide (s.p ≤ 1048576) && decide (0 ≤ s.j) && decide (s.j ≤ 1000)
def Bf.chk (s : Bf.Se) : Int := if Bf.sets s = true then 0 else 4
/-- The most, k times doubled. -/
def Bf.d (s : Bf.Se) : Nat → Int
  | 0 => s.b
  | k + 1 => if Bf.d s k + Bf.d s k ≤ s.p then Bf.d s k + Bf.d s k else s.p
def Bf.mostE (s : Bf.Se) (n : Int) : Int := if Bf.sets s = true then (if 1 ≤ n ∧ n ≤ 64 then 0 else 3) else 4
def Bf.mostR (s : Bf.Se) (n : Int) : Int := if Bf.mostE s n = 0 then Bf.d s (n - 1).toNat else 0
/-- Below what a draw is shared. -/
def Bf.to (s : Bf.Se) (d : Int) : Int := if 1 + d * s.j / 1000 ≤ 1048576 then 1 + d * s.j / 1000 else 1048576
/-- A delay: its most is d, the draw x. -/
def Bf.one (s : Bf.Se) (d : Int) (x : Nat) : Int := if 1 ≤ d - Hp.shK x (Bf.to s d) then d - Hp.shK x (Bf.to s d) else 1
def Bf.delayR (s : Bf.Se) (n : Int) (x : Nat) : Int := if Bf.mostE s n = 0 then Bf.one s (Bf.d s (n - 1).toNat) x else 0
def Bf.sum (s : Bf.Se) (l : List Int) : Nat → Int
  | 0 => 0
  | k + 1 => Bf.sum s l k + Bf.one s (Bf.d s k) (l.getD k 0).toNat
def Bf.sumE (s : Bf.Se) (l : List Int) : Int := if Bf.sets s = true then (if 64 < l.length then 3 else 0) else 4
def Bf.sumR (s : Bf.Se) (l : List Int) : Int := if Bf.sumE s l = 0 then Bf.sum s l l.length else 0
def Bf.row (s : Bf.Se) (n : Nat) : List Int := (List.range n).map (Bf.d s)
def Bf.rowE (s : Bf.Se) (n : Int) : Int := if Bf.sets s = true then (if 0 ≤ n ∧ n ≤ 64 then 0 else 3) else 4
def Bf.rowR (s : Bf.Se) (n : Int) : List Int := if Bf.rowE s n = 0 then Bf.row s n.toNat else []

theorem Bf.sets_iff {s : Bf.Se} : Bf.sets s = true ↔ 1 ≤ s.b ∧ s.b ≤ 65536 ∧ s.b ≤ s.p ∧ s.p ≤ 1048576 ∧ 0 ≤ s.j ∧ s.j ≤ 1000 := by
  simp [Bf.sets, and_assoc]
theorem Bf.d_range {s : Bf.Se} (h : Bf.sets s = true) (k : Nat) : s.b ≤ Bf.d s k ∧ Bf.d s k ≤ s.p := by
  obtain ⟨h1, h2, h3, h4, _, _⟩ := Bf.sets_iff.1 h
  induction k with
  | zero => exact ⟨Int.le_refl _, h3⟩
  | succ k ih =>
    obtain ⟨a, c⟩ := ih
    show s.b ≤ (if Bf.d s k + Bf.d s k ≤ s.p then Bf.d s k + Bf.d s k else s.p) ∧ (if Bf.d s k + Bf.d s k ≤ s.p then Bf.d s k + Bf.d s k else s.p) ≤ s.p
    split <;> omega
/-- In numbers. -/
theorem Bf.d_num {s : Bf.Se} (h : Bf.sets s = true) (k : Nat) : 1 ≤ Bf.d s k ∧ Bf.d s k ≤ 1048576 := by
  obtain ⟨h1, h2, h3, h4, _, _⟩ := Bf.sets_iff.1 h
  obtain ⟨a, c⟩ := Bf.d_range h k
  omega
theorem Bf.d_next {s : Bf.Se} (h : Bf.sets s = true) (k : Nat) : Bf.d s k ≤ Bf.d s (k + 1) ∧ (Bf.d s (k + 1) = 2 * Bf.d s k ∨ Bf.d s (k + 1) = s.p) := by
  obtain ⟨h1, h2, h3, h4, _, _⟩ := Bf.sets_iff.1 h
  obtain ⟨a, c⟩ := Bf.d_range h k
  show Bf.d s k ≤ (if Bf.d s k + Bf.d s k ≤ s.p then Bf.d s k + Bf.d s k else s.p) ∧ ((if Bf.d s k + Bf.d s k ≤ s.p then Bf.d s k + Bf.d s k else s.p) = 2 * Bf.d s k ∨ (if Bf.d s k + Bf.d s k ≤ s.p then Bf.d s k + Bf.d s k else s.p) = s.p)
  split <;> omega
theorem Bf.to_range {s : Bf.Se} {d : Int} (h : Bf.sets s = true) (h1 : 1 ≤ d) (h2 : d ≤ 1048576) : (1 ≤ Bf.to s d ∧ Bf.to s d ≤ 1048576) ∧ Bf.to s d ≤ d + 1 ∧ (0 ≤ d * s.j ∧ d * s.j ≤ 1048576000) := by
  obtain ⟨_, _, _, _, j0, j1⟩ := Bf.sets_iff.1 h
  have m0 : 0 ≤ d * s.j := Int.mul_nonneg (by omega) j0
  have m1 : d * s.j ≤ d * 1000 := Int.mul_le_mul_of_nonneg_left j1 (by omega)
  unfold Bf.to
  split <;> omega
/-- A share is below what it is of, and grows with the draw. -/
theorem Bf.share_range {x : Nat} {n : Int} (hx : x < 18446744073709551616) (h1 : 1 ≤ n) (h2 : n ≤ 1048576) : 0 ≤ Hp.shK x n ∧ Hp.shK x n ≤ n - 1 := by
  rw [Hp.shK_in ⟨h1, h2⟩]
  have a1 : 0 ≤ (x : Int) / 4294967296 := by omega
  have a2 : (x : Int) / 4294967296 ≤ 4294967295 := by omega
  have b1 : 0 ≤ (x : Int) / 4294967296 * n := Int.mul_nonneg a1 (by omega)
  have b2 : (x : Int) / 4294967296 * n ≤ 4294967295 * n := Int.mul_le_mul_of_nonneg_right a2 (by omega)
  omega
theorem Bf.share_up {x y : Nat} {n : Int} (h : x ≤ y) (h1 : 1 ≤ n) (h2 : n ≤ 1048576) : Hp.shK x n ≤ Hp.shK y n := by
  rw [Hp.shK_in ⟨h1, h2⟩, Hp.shK_in ⟨h1, h2⟩]
  have a1 : (x : Int) / 4294967296 ≤ (y : Int) / 4294967296 := by omega
  have b1 : (x : Int) / 4294967296 * n ≤ (y : Int) / 4294967296 * n := Int.mul_le_mul_of_nonneg_right a1 (by omega)
  omega
theorem Bf.one_range {s : Bf.Se} {d : Int} {x : Nat} (h : Bf.sets s = true) (h1 : 1 ≤ d) (h2 : d ≤ 1048576) (hx : x < 18446744073709551616) : 1 ≤ Bf.one s d x ∧ Bf.one s d x ≤ d := by
  obtain ⟨⟨a1, a2⟩, a3, _⟩ := Bf.to_range h h1 h2
  obtain ⟨b1, b2⟩ := Bf.share_range hx a1 a2
  unfold Bf.one
  split <;> omega
/-- Without jitter it is the most. -/
theorem Bf.one_plain {s : Bf.Se} {d : Int} {x : Nat} (h : Bf.sets s = true) (h1 : 1 ≤ d) (h2 : d ≤ 1048576) (hx : x < 18446744073709551616) (hj : s.j = 0) : Bf.one s d x = d := by
  have e : Bf.to s d = 1 := by
    unfold Bf.to
    rw [hj, Int.mul_zero]
    decide
  obtain ⟨b1, b2⟩ := Bf.share_range (n := 1) hx (by decide) (by decide)
  unfold Bf.one
  rw [e]
  split <;> omega
/-- A greater draw waits no longer. -/
theorem Bf.one_down {s : Bf.Se} {d : Int} {x y : Nat} (h : Bf.sets s = true) (h1 : 1 ≤ d) (h2 : d ≤ 1048576) (hxy : x ≤ y) : Bf.one s d y ≤ Bf.one s d x := by
  obtain ⟨⟨a1, a2⟩, a3, _⟩ := Bf.to_range h h1 h2
  have := Bf.share_up hxy a1 a2
  unfold Bf.one
  split <;> split <;> omega
theorem Bf.mostE_zero {s : Bf.Se} {n : Int} (h : Bf.mostE s n = 0) : Bf.sets s = true ∧ 1 ≤ n ∧ n ≤ 64 := by
  unfold Bf.mostE at h
  split at h
  · rename_i h1
    split at h
    · rename_i h2
      exact ⟨h1, h2.1, h2.2⟩
    · cases h
  · cases h
theorem Bf.mostE_good {s : Bf.Se} {n : Int} (h : Bf.sets s = true) (h1 : 1 ≤ n) (h2 : n ≤ 64) : Bf.mostE s n = 0 := by
  unfold Bf.mostE
  rw [if_pos h, if_pos ⟨h1, h2⟩]
/-- P18.3. -/
theorem Bf.bounds {s : Bf.Se} {n : Int} {x : Nat} (h : Bf.mostE s n = 0) (hx : x < 18446744073709551616) : 1 ≤ Bf.delayR s n x ∧ Bf.delayR s n x ≤ Bf.mostR s n ∧ s.b ≤ Bf.mostR s n ∧ Bf.mostR s n ≤ s.p ∧ (0 < s.j ∨ Bf.delayR s n x = Bf.mostR s n) := by
  obtain ⟨hs, _, _⟩ := Bf.mostE_zero h
  obtain ⟨_, _, _, _, j0, j1⟩ := Bf.sets_iff.1 hs
  have e1 : Bf.delayR s n x = Bf.one s (Bf.d s (n - 1).toNat) x := if_pos h
  have e2 : Bf.mostR s n = Bf.d s (n - 1).toNat := if_pos h
  rw [e1, e2]
  obtain ⟨a1, a2⟩ := Bf.d_num hs (n - 1).toNat
  obtain ⟨b1, b2⟩ := Bf.d_range hs (n - 1).toNat
  obtain ⟨c1, c2⟩ := Bf.one_range hs a1 a2 hx
  refine ⟨c1, c2, b1, b2, ?_⟩
  by_cases hj : 0 < s.j
  · exact .inl hj
  · exact .inr (Bf.one_plain hs a1 a2 hx (by omega))
theorem Bf.bad {s : Bf.Se} {n : Int} {x : Nat} (h : ¬ Bf.mostE s n = 0) : Bf.delayR s n x = 0 ∧ Bf.mostR s n = 0 := ⟨if_neg h, if_neg h⟩
/-- The next one. -/
theorem Bf.grows {s : Bf.Se} {n : Int} (h : Bf.sets s = true) (h1 : 1 ≤ n) (h2 : n ≤ 63) : Bf.mostE s n = 0 ∧ Bf.mostE s (n + 1) = 0 ∧ Bf.mostR s n ≤ Bf.mostR s (n + 1) ∧ (Bf.mostR s (n + 1) = 2 * Bf.mostR s n ∨ Bf.mostR s (n + 1) = s.p) ∧ (1 ≤ Bf.mostR s n ∧ Bf.mostR s n ≤ 1048576) := by
  have e1 := Bf.mostE_good (n := n) h h1 (by omega)
  have e2 := Bf.mostE_good (n := n + 1) h (by omega) (by omega)
  have e3 : Bf.mostR s n = Bf.d s (n - 1).toNat := if_pos e1
  have e4 : Bf.mostR s (n + 1) = Bf.d s ((n - 1).toNat + 1) := by
    rw [show (n - 1).toNat + 1 = (n + 1 - 1).toNat from by omega]
    exact if_pos e2
  obtain ⟨a1, a2⟩ := Bf.d_next h (n - 1).toNat
  rw [e3, e4]
  exact ⟨e1, e2, a1, a2, Bf.d_num h _⟩
theorem Bf.grows_bad {s : Bf.Se} {n : Int} (h : ¬ Bf.sets s = true) : Bf.mostE s n = 4 ∧ Bf.mostR s n = 0 := by
  have e : Bf.mostE s n = 4 := if_neg h
  exact ⟨e, if_neg (by rw [e]; decide)⟩
theorem Bf.sum_range {s : Bf.Se} {l : List Int} (h : Bf.sets s = true) (hl : ∀ k, k < l.length → (l.getD k 0).toNat < 18446744073709551616) (k : Nat) (hk : k ≤ l.length) : (k : Int) ≤ Bf.sum s l k ∧ Bf.sum s l k ≤ k * 1048576 := by
  induction k with
  | zero => exact ⟨Int.le_refl 0, Int.le_refl 0⟩
  | succ k ih =>
    obtain ⟨a, c⟩ := ih (by omega)
    obtain ⟨d1, d2⟩ := Bf.d_num h k
    obtain ⟨e1, e2⟩ := Bf.one_range h d1 d2 (hl k (by omega))
    show ((k + 1 : Nat) : Int) ≤ Bf.sum s l k + Bf.one s (Bf.d s k) (l.getD k 0).toNat ∧ Bf.sum s l k + Bf.one s (Bf.d s k) (l.getD k 0).toNat ≤ ((k + 1 : Nat) : Int) * 1048576
    omega
/-- The k-th delay, as Delay tells it. -/
theorem Bf.delay_at {s : Bf.Se} (h : Bf.sets s = true) (k : Nat) (hk : k < 64) (x : Nat) : Bf.mostE s ((k : Int) + 1) = 0 ∧ Bf.delayR s ((k : Int) + 1) x = Bf.one s (Bf.d s k) x ∧ Bf.mostR s ((k : Int) + 1) = Bf.d s k := by
  have e := Bf.mostE_good (n := (k : Int) + 1) h (by omega) (by omega)
  have e2 : ((k : Int) + 1 - 1).toNat = k := by omega
  refine ⟨e, ?_, ?_⟩
  · unfold Bf.delayR
    rw [if_pos e, e2]
  · unfold Bf.mostR
    rw [if_pos e, e2]
theorem Bf.row_len (s : Bf.Se) (n : Nat) : (Bf.row s n).length = n := by simp [Bf.row]
theorem Bf.row_at (s : Bf.Se) (n k : Nat) (h : k < n) : (Bf.row s n).getD k 0 = Bf.d s k := by simp [Bf.row, List.getD, h]
theorem Bf.row_next (s : Bf.Se) (n : Nat) : Bf.row s (n + 1) = Bf.row s n ++ [Bf.d s n] := by simp [Bf.row, List.range_succ]
theorem Bf.row_take (s : Bf.Se) (n k : Nat) (h : k ≤ n) : (Bf.row s n).take k = Bf.row s k := by
  unfold Bf.row
  rw [← List.map_take, List.take_range]
  rw [Nat.min_eq_left h]
end Go.Proofs.Ytekldjfmdapgpaa
