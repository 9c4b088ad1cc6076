/- Draws as natural numbers: the next state, shares, two, orders; an order has each number once. -/
import Derived.Test.YtcjopphefmogiaaHP
namespace Go.Proofs.Ytcjopphefmogiaa
namespace Hp

/-- The next state. -/
def nx (s : Nat) : Nat := (s + 11400714819323198485) % 18446744073709551616
theorem nx_is (s : Nat) : nx s = (s + 11400714819323198485) % 18446744073709551616 := rfl
theorem nx_lt (s : Nat) : nx s < 18446744073709551616 := mod_lt' _
/-- The draw. -/
def dr (s : Nat) : Nat := mix (nx s)
theorem dr_is (s : Nat) : dr s = mix (nx s) := rfl
theorem dr_lt (s : Nat) : dr s < 18446744073709551616 := mix_lt _
/-- A share. -/
def sh (x n : Nat) : Nat := x / 4294967296 * n / 4294967296
theorem sh_is (x n : Nat) : sh x n = x / 4294967296 * n / 4294967296 := rfl
theorem sh_lt {x n : Nat} (h : x < 18446744073709551616) (hn : 1 ≤ n) : sh x n < n := by
  have h1 : x / 4294967296 ≤ 4294967295 := by omega
  have h2 := Nat.mul_le_mul_right n h1
  unfold sh
  omega
theorem sh_mono {x n m : Nat} (h : n ≤ m) : sh x n ≤ sh x m := by
  have := Nat.mul_le_mul_left (x / 4294967296) h
  unfold sh
  omega
/-- One below a number. -/
def one (s n : Nat) : Nat := sh (dr s) n
theorem one_is (s n : Nat) : one s n = sh (dr s) n := rfl
theorem one_lt (s : Nat) {n : Nat} (hn : 1 ≤ n) : one s n < n := sh_lt (dr_lt s) hn

/-- The state behind n draws. -/
def skip (s n : Nat) : Nat := (s + n * 11400714819323198485) % 18446744073709551616
theorem skip_is (s n : Nat) : skip s n = (s + n * 11400714819323198485) % 18446744073709551616 := rfl
theorem skip_zero {s : Nat} (h : s < 18446744073709551616) : skip s 0 = s := by unfold skip; omega
theorem skip_succ (s n : Nat) : skip s (n + 1) = nx (skip s n) := by unfold skip nx; omega
theorem skip_nx (s n : Nat) : skip (nx s) n = skip s (n + 1) := by unfold skip nx; omega
theorem skip_lt (s n : Nat) : skip s n < 18446744073709551616 := mod_lt' _

/-- Draws below numbers, one behind the other. -/
def belows : Nat → List Nat → List Nat
  | _, [] => []
  | s, n :: l => one s n :: belows (nx s) l
theorem belows_nil (s : Nat) : belows s [] = [] := rfl
theorem belows_cons (s n : Nat) (l : List Nat) : belows s (n :: l) = one s n :: belows (nx s) l := rfl
theorem belows_length (l : List Nat) : ∀ s, (belows s l).length = l.length := by
  induction l with
  | nil => intro s; rfl
  | cons n l ih => intro s; rw [belows_cons, List.length_cons, List.length_cons, ih]
theorem belows_snoc (l : List Nat) (n : Nat) : ∀ s, s < 18446744073709551616 → belows s (l ++ [n]) = belows s l ++ [one (skip s l.length) n] := by
  induction l with
  | nil => intro s hs; rw [List.nil_append, belows_cons, belows_nil, belows_nil, List.nil_append, List.length_nil, skip_zero hs]
  | cons m l ih => intro s hs; rw [List.cons_append, belows_cons, ih _ (nx_lt s), belows_cons, List.cons_append, List.length_cons, skip_nx]
theorem belows_get (l : List Nat) : ∀ s i (h : i < l.length), s < 18446744073709551616 → (belows s l)[i]? = some (one (skip s i) l[i]) := by
  induction l with
  | nil => intro s i h; simp at h
  | cons m l ih =>
    intro s i h hs
    cases i with
    | zero => rw [belows_cons, List.getElem?_cons_zero, skip_zero hs]; rfl
    | succ i => rw [belows_cons, List.getElem?_cons_succ, ih (nx s) i (by simpa using h) (nx_lt s), skip_nx]; rfl

/-- Two places of a list changed with one another. -/
def swp (l : List Nat) (i k : Nat) : List Nat := (l.set i (l.getD k 0)).set k (l.getD i 0)
theorem swp_length (l : List Nat) (i k : Nat) : (swp l i k).length = l.length := by unfold swp; simp
theorem swp_perm {l : List Nat} {i k : Nat} (hi : i < l.length) (hk : k < l.length) : (swp l i k).Perm l := by
  have e1 : l.getD i 0 = l[i] := by simp [List.getD, hi]
  have e2 : l.getD k 0 = l[k] := by simp [List.getD, hk]
  unfold swp
  rw [e1, e2]
  exact List.set_set_perm hi hk

/-- From place i down to the second, each changed with one that is drawn. -/
def shuf : Nat → Nat → List Nat → List Nat
  | 0, _, l => l
  | i + 1, s, l => shuf i (nx s) (swp l (i + 1) (one s (i + 2)))
theorem shuf_zero (s : Nat) (l : List Nat) : shuf 0 s l = l := rfl
theorem shuf_succ (i s : Nat) (l : List Nat) : shuf (i + 1) s l = shuf i (nx s) (swp l (i + 1) (one s (i + 2))) := rfl
theorem shuf_length (i : Nat) : ∀ s l, (shuf i s l).length = l.length := by
  induction i with
  | zero => intro s l; rfl
  | succ i ih => intro s l; rw [shuf_succ, ih, swp_length]
theorem shuf_perm (i : Nat) : ∀ s l, i < l.length ∨ i = 0 → (shuf i s l).Perm l := by
  induction i with
  | zero => intro s l _; rw [shuf_zero]
  | succ i ih =>
    intro s l h
    have hl : i + 1 < l.length := by omega
    have hk := one_lt s (n := i + 2) (by omega)
    rw [shuf_succ]
    exact (ih _ _ (by rw [swp_length]; omega)).trans (swp_perm hl (by omega))
/-- An order of n. -/
def order (s n : Nat) : List Nat := shuf (n - 1) s (List.range n)
theorem order_length (s n : Nat) : (order s n).length = n := by unfold order; rw [shuf_length, List.length_range]
theorem order_perm (s n : Nat) : (order s n).Perm (List.range n) := shuf_perm _ _ _ (by rw [List.length_range]; omega)
theorem order_lt {s n z : Nat} (h : z ∈ order s n) : z < n := List.mem_range.1 ((order_perm s n).mem_iff.1 h)
theorem order_nodup (s n : Nat) : (order s n).Nodup := (order_perm s n).nodup_iff.2 List.nodup_range

/-- Two numbers are two. -/
theorem two_apart {a b n : Nat} (ha : a < n) (hb : b < n - 1) : a ≠ (if a ≤ b then b + 1 else b) ∧ (if a ≤ b then b + 1 else b) < n := by
  split <;> omega
end Hp
end Go.Proofs.Ytcjopphefmogiaa
