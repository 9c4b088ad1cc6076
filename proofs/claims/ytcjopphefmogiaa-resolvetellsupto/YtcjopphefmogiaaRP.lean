/- ring, plainly: points, backends, the order, what is built, looked up, walked, shared. -/
import Derived.Test.YtcjopphefmogiaaHD
namespace Go.Proofs.Ytcjopphefmogiaa
open Go.RowKit
set_option maxRecDepth 20000

namespace Rp
abbrev Pt := Int × Int
def lt (x y : Pt) : Bool := decide (x.1 < y.1) || (decide (x.1 = y.1) && decide (x.2 < y.2))
def le (x y : Pt) : Bool := !lt y x
theorem lt_iff (x y : Pt) : lt x y = true ↔ x.1 < y.1 ∨ x.1 = y.1 ∧ x.2 < y.2 := by simp [lt]
theorem lt_false (x y : Pt) : lt x y = false ↔ y.1 < x.1 ∨ y.1 = x.1 ∧ y.2 ≤ x.2 := by
  rw [← Bool.not_eq_true, lt_iff]; omega
theorem le_iff (x y : Pt) : le x y = true ↔ x.1 < y.1 ∨ x.1 = y.1 ∧ x.2 ≤ y.2 := by
  unfold le; rw [Bool.not_eq_true', lt_false]
theorem le_trans (x y z : Pt) (h : le x y = true) (k : le y z = true) : le x z = true := by rw [le_iff] at *; omega
theorem le_total (x y : Pt) : (le x y || le y x) = true := by rw [Bool.or_eq_true, le_iff, le_iff]; omega
theorem le_anti (x y : Pt) (h : le x y = true) (k : le y x = true) : x = y := by
  rw [le_iff] at h k
  exact Prod.ext (by omega) (by omega)

/-- Sorted lists of the same points are one. -/
theorem sorted_one {a b : List Pt} (ha : a.Pairwise (fun x y => le x y = true)) (hb : b.Pairwise (fun x y => le x y = true)) (hp : a.Perm b) : a = b :=
  hp.eq_of_pairwise (fun x y _ _ h k => le_anti x y h k) ha hb

def outside (b : Pt) : Bool := decide (b.1 < 0) || decide (2147483647 < b.1) || decide (b.2 < 1) || decide (16 < b.2)
def rises (l : List Pt) : Bool := (List.range l.length).all fun i => decide (i = 0) || decide ((l.getD (i - 1) (0, 0)).1 < (l.getD i (0, 0)).1)
def checkE (l : List Pt) : Int := if 32 < l.length then 3 else if l.any outside then 4 else if rises l then 0 else 6
def each (n : Int) (b : Pt) : Nat := (b.2 * n).toNat
def hsh (id : Int) (k : Nat) : Nat := Hp.ints 1 [id, (k : Int)]
def ptsOf (n : Int) (b : Pt) : List Pt := (List.range (each n b)).map fun k => ((hsh b.1 k : Int), b.1)
def size (n : Int) (l : List Pt) : Nat := (l.map (each n)).sum
def pts (n : Int) (l : List Pt) : List Pt := l.flatMap (ptsOf n)
def buildE (n : Int) (l : List Pt) : Int := if checkE l ≠ 0 then checkE l else if n < 1 ∨ 64 < n then 4 else if 1024 < size n l then 5 else 0
def ring (n : Int) (l : List Pt) : List Pt := if buildE n l = 0 then (pts n l).mergeSort le else []

def sorted (r : List Pt) : Bool := (List.range r.length).all fun i => decide (i = 0) || !lt (r.getD i (0, 0)) (r.getD (i - 1) (0, 0))
def wholeE (r : List Pt) : Int := if 1024 < r.length then 3 else if r.any (fun p => decide (p.2 < 0)) || !sorted r then 9 else 0
def peopledE (r : List Pt) : Int := if wholeE r ≠ 0 then wholeE r else if r.length = 0 then 71 else 0
def from' (r : List Pt) (h : Int) : Nat := (r.takeWhile fun p => decide (p.1 < h)).length
def place (r : List Pt) (h : Int) : Nat := from' r h % r.length
def owner (r : List Pt) (h : Int) : Int := (r.getD (place r h) (0, 0)).2
def roundL (r : List Pt) (h : Int) : List Int := (List.range r.length).map fun i => (r.getD ((place r h + i) % r.length) (0, 0)).2
def meet (acc : List Int) (x : Int) : List Int := if x ∈ acc then acc else acc ++ [x]
def uniq (l : List Int) : List Int := l.foldl meet []
def walkL (r : List Pt) (h : Int) : List Int := if peopledE r = 0 then uniq (roundL r h) else []
def lookI (r : List Pt) (h : Int) : Int := if peopledE r = 0 then owner r h else 0

theorem sorted_of {r : List Pt} (h : sorted r = true) : r.Pairwise (fun x y => le x y = true) := by
  rw [List.pairwise_iff_getElem]
  intro i j hi hj hij
  unfold sorted at h
  rw [List.all_eq_true] at h
  have step : ∀ k (hk : k + 1 < r.length), le r[k] r[k + 1] = true := by
    intro k hk
    have := h (k + 1) (List.mem_range.2 hk)
    simp only [Nat.add_one_ne_zero, decide_false, Bool.false_or, Nat.add_sub_cancel] at this
    rw [List.getD_eq_getElem?_getD, List.getD_eq_getElem?_getD, List.getElem?_eq_getElem hk, List.getElem?_eq_getElem (by omega : k < r.length)] at this
    exact this
  have go : ∀ d (hd : i + d + 1 < r.length), le r[i] r[i + d + 1] = true := by
    intro d
    induction d with
    | zero => intro hd; exact step i hd
    | succ d ih => intro hd; exact le_trans _ _ _ (ih (by omega)) (step (i + d + 1) hd)
  obtain ⟨d, rfl⟩ : ∃ d, j = i + d + 1 := ⟨j - i - 1, by omega⟩
  exact go d hj
theorem sorted_to {r : List Pt} (h : r.Pairwise (fun x y => le x y = true)) : sorted r = true := by
  unfold sorted
  rw [List.all_eq_true]
  intro i hi
  rw [List.mem_range] at hi
  rcases Nat.eq_zero_or_pos i with rfl | h0
  · simp
  · rw [List.pairwise_iff_getElem] at h
    have := h (i - 1) i (by omega) hi (by omega)
    rw [List.getD_eq_getElem?_getD, List.getD_eq_getElem?_getD, List.getElem?_eq_getElem hi, List.getElem?_eq_getElem (by omega : i - 1 < r.length)]
    simp only [Option.getD_some, Bool.or_eq_true]
    exact .inr this
end Rp
end Go.Proofs.Ytcjopphefmogiaa
