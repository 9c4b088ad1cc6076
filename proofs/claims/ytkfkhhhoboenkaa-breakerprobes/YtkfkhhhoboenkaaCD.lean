/- breaker: rows of acts of one's own; acts that are all good. -/
import Derived.Test.YtkfkhhhoboenkaaCA
namespace Go.Proofs.Ytkfkhhhoboenkaa
open Go.RowKit
set_option linter.unusedVariables false
set_option maxRecDepth 20000

def rowA (xs : List Br.Ac) : List Value := xs.flatMap fun x => [.int .i64 x.k, .int .i64 x.t, .bool x.p, .bool x.g]
theorem rowA_append (xs ys : List Br.Ac) : rowA (xs ++ ys) = rowA xs ++ rowA ys := by simp [rowA]
theorem rowA_get (xs : List Br.Ac) (i : Nat) (h : i < xs.length) : (rowA xs)[i * 4]? = some (.int .i64 (xs.getD i Br.ac0).k) ∧ (rowA xs)[i * 4 + 1]? = some (.int .i64 (xs.getD i Br.ac0).t) ∧ (rowA xs)[i * 4 + 2]? = some (.bool (xs.getD i Br.ac0).p) ∧ (rowA xs)[i * 4 + 3]? = some (.bool (xs.getD i Br.ac0).g) := by
  induction xs generalizing i with
  | nil => simp at h
  | cons x r ih =>
    match i with
    | 0 => exact ⟨rfl, rfl, rfl, rfl⟩
    | i + 1 =>
      have := ih i (by simp at h; omega)
      rw [show (i + 1) * 4 = i * 4 + 4 by omega]
      exact this
theorem aseg_of_rowA {W : World} {n₀ : Nat} {v : Value} {d : List Br.Ac} (h : W.ownsRow n₀ 55 4 v d.length (rowA d)) : ASeg W v d := by
  have hx := h
  rcases h.2 with ⟨rfl, h0⟩ | ⟨g, cap, cur, rfl, _, hgb, hle, hmx, hsz, htk⟩
  · have : d = [] := List.length_eq_zero_iff.1 h0
    subst this
    exact ASeg.nil _
  · refine ⟨_, cap, rfl, hle, hmx, (fun h => by cases h), fun g' off ar ha h0 => ?_⟩
    cases ha
    refine ⟨rfl, (Array.getElem?_eq_some_iff.1 hgb).1, fun i hi => ?_⟩
    obtain ⟨r1, r2, r3, r4⟩ := rowA_get d i hi
    unfold AAt
    rw [Nat.zero_add]
    exact ⟨by rw [hx.cellAt (i * 4) (by omega)]; exact r1, by rw [hx.cellAt (i * 4 + 1) (by omega)]; exact r2, by rw [hx.cellAt (i * 4 + 2) (by omega)]; exact r3, by rw [hx.cellAt (i * 4 + 3) (by omega)]; exact r4⟩
theorem Try.infoA : (Try.prog.info? 55).map (fun i => (i.zero, i.size, i.bytes)) = some (some (.agg #[.int .i64 0, .int .i64 0, .bool false, .bool false]), 4, 24) := by kernel_rfl

/-- One of three, of any number. -/
def Br.three (k : Int) : Int := 1 + Int.tmod (Int.tmod k 3 + 3) 3
theorem Br.three_range (k : Int) : 1 ≤ Br.three k ∧ Br.three k ≤ 3 := by
  unfold Br.three
  have h1 := Int.tmod_nonneg (a := Int.tmod k 3 + 3) 3 (by have := Int.lt_tmod_of_pos k (show (0:Int) < 3 by decide); omega)
  have h2 := Int.tmod_lt_of_pos (Int.tmod k 3 + 3) (show (0:Int) < 3 by decide)
  omega
theorem Br.three_wraps (k : Int) : IntKind.i64.wrap (Int.tmod k 3 + 3) = Int.tmod k 3 + 3 ∧ IntKind.i64.wrap (1 + Int.tmod (Int.tmod k 3 + 3) 3) = Br.three k := by
  have h0 := Int.lt_tmod_of_pos k (show (0:Int) < 3 by decide)
  have h1 := Int.tmod_lt_of_pos k (show (0:Int) < 3 by decide)
  have h2 := Br.three_range k
  unfold Br.three at h2 ⊢
  exact ⟨wrap_ok (by omega) (by omega), wrap_ok (by omega) (by omega)⟩

/-- An act made good, at its place. -/
def Br.gd (l : List Br.Ac) (i : Nat) : Br.Ac := ⟨Br.three (l.getD i Br.ac0).k, i, false, true⟩
def Br.gds (l : List Br.Ac) (k : Nat) : List Br.Ac := (List.range k).map (Br.gd l)
theorem Br.gds_length (l : List Br.Ac) (k : Nat) : (Br.gds l k).length = k := by simp [Br.gds]
theorem Br.gds_succ (l : List Br.Ac) (k : Nat) : Br.gds l (k + 1) = Br.gds l k ++ [Br.gd l k] := by simp [Br.gds, List.range_succ]
theorem Br.gds_get (l : List Br.Ac) (k i : Nat) (h : i < k) : (Br.gds l k).getD i Br.ac0 = Br.gd l i := by
  simp [Br.gds, List.getD, h]
theorem Br.gds_runE (s : Br.Se) (l : List Br.Ac) (k : Nat) (hk : k ≤ 200) : Br.runE s (Br.gds l k) = if Br.sets s = true then 0 else 4 := by
  have h1 : Br.kdE (Br.gds l k) = false := by
    unfold Br.kdE
    rw [List.any_eq_false]
    intro i hi
    rw [List.mem_range, Br.gds_length] at hi
    have := Br.three_range (l.getD i Br.ac0).k
    unfold Br.kd
    rw [Br.gds_get l k i hi, show Br.inn (Br.gd l i).k 1 3 = true from Br.inn_iff.2 this]
    decide
  have h2 : Br.tkE (Br.gds l k) = false := by
    unfold Br.tkE
    rw [List.any_eq_false]
    intro i hi
    rw [List.mem_range, Br.gds_length] at hi
    unfold Br.tk
    have hp : Br.pv (Br.gds l k) i ≤ i := by
      unfold Br.pv
      split
      · omega
      · rw [Br.gds_get l k (i - 1) (by omega)]
        show ((i - 1 : Nat) : Int) ≤ i
        omega
    rw [Br.gds_get l k i hi, show Br.inn (Br.gd l i).t (Br.pv (Br.gds l k) i) 536870912 = true from Br.inn_iff.2 ⟨hp, by show ((i : Nat) : Int) ≤ _; omega⟩]
    decide
  unfold Br.runE
  rw [h1, if_neg (by decide), if_neg (by rw [Br.gds_length]; omega), h2]
  cases Br.sets s <;> simp
theorem Br.gd_step (s : Br.Se) (l : List Br.Ac) (i : Nat) : Br.step s Br.zero (Br.gd l i) = (Br.zero, 0) := by
  unfold Br.step
  split
  · rfl
  · split
    · rfl
    · rfl
theorem Br.gds_st (s : Br.Se) (l : List Br.Ac) (k i : Nat) (h : i ≤ k) : Br.st s (Br.gds l k) i = Br.zero := by
  induction i with
  | zero => rfl
  | succ i ih =>
    rw [Br.st_succ s _ i (by rw [Br.gds_length]; omega), ih (by omega), Br.gds_get l k i (by omega), Br.gd_step]
theorem Br.gds_told (s : Br.Se) (l : List Br.Ac) (k : Nat) : Br.tolds s (Br.gds l k) k = List.replicate k 0 := by
  unfold Br.tolds
  rw [List.eq_replicate_iff]
  refine ⟨by simp, fun b hb => ?_⟩
  obtain ⟨i, hi, rfl⟩ := List.mem_map.1 hb
  rw [List.mem_range] at hi
  rw [Br.gds_st s l k i (by omega), Br.gds_get l k i hi, Br.gd_step]
end Go.Proofs.Ytkfkhhhoboenkaa
