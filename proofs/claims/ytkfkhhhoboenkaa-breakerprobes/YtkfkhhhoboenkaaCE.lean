/- breaker, plainly: probes that are out. -/
import Derived.Test.YtkfkhhhoboenkaaCD
namespace Go.Proofs.Ytkfkhhhoboenkaa
open Go.RowKit
set_option maxRecDepth 20000
set_option linter.unusedVariables false

/-- An act as the law makes it. -/
def Br.pb (a : Br.Ac) (i : Nat) (out : Int) : Br.Ac := ⟨Br.three a.k, ((i / 2 : Nat) : Int), a.p && decide (0 < out), a.g⟩
def Br.dl (a : Br.Ac) (r : Int) : Int := if a.k = 2 ∧ r = 1 then 1 else if a.k = 3 ∧ a.p = true then -1 else 0
def Br.pr (s : Br.Se) (l : List Br.Ac) : Nat → List Br.Ac × Int
  | 0 => ([], 0)
  | k + 1 => ((Br.pr s l k).1 ++ [Br.pb (l.getD k Br.ac0) k (Br.pr s l k).2],
      (Br.pr s l k).2 + Br.dl (Br.pb (l.getD k Br.ac0) k (Br.pr s l k).2) (Br.step s (Br.st s (Br.pr s l k).1 k) (Br.pb (l.getD k Br.ac0) k (Br.pr s l k).2)).2)
theorem Br.pr_length (s : Br.Se) (l : List Br.Ac) (k : Nat) : (Br.pr s l k).1.length = k := by
  induction k with
  | zero => rfl
  | succ k ih => simp [Br.pr, ih]
theorem Br.pr_get (s : Br.Se) (l : List Br.Ac) (k i : Nat) (h : i < k) : (Br.pr s l k).1.getD i Br.ac0 = Br.pb (l.getD i Br.ac0) i (Br.pr s l i).2 := by
  induction k with
  | zero => omega
  | succ k ih =>
    have hl := Br.pr_length s l k
    by_cases hik : i < k
    · rw [← ih hik]
      simp only [Br.pr, List.getD]
      rw [List.getElem?_append_left (by omega)]
    · have : i = k := by omega
      subst this
      simp only [Br.pr, List.getD]
      rw [List.getElem?_append_right (by omega), hl]
      simp
theorem Br.pr_runE (s : Br.Se) (l : List Br.Ac) (k : Nat) (hk : k ≤ 200) : Br.runE s (Br.pr s l k).1 = if Br.sets s = true then 0 else 4 := by
  have hl := Br.pr_length s l k
  have h1 : Br.kdE (Br.pr s l k).1 = false := by
    unfold Br.kdE
    rw [List.any_eq_false]
    intro i hi
    rw [List.mem_range, hl] at hi
    unfold Br.kd
    rw [Br.pr_get s l k i hi, show Br.inn (Br.pb (l.getD i Br.ac0) i (Br.pr s l i).2).k 1 3 = true from Br.inn_iff.2 (Br.three_range _)]
    decide
  have h2 : Br.tkE (Br.pr s l k).1 = false := by
    unfold Br.tkE
    rw [List.any_eq_false]
    intro i hi
    rw [List.mem_range, hl] at hi
    unfold Br.tk
    have hp : Br.pv (Br.pr s l k).1 i ≤ ((i / 2 : Nat) : Int) := by
      unfold Br.pv
      split
      · omega
      · rw [Br.pr_get s l k (i - 1) (by omega)]
        show (((i - 1) / 2 : Nat) : Int) ≤ _
        omega
    rw [Br.pr_get s l k i hi, show Br.inn (Br.pb (l.getD i Br.ac0) i (Br.pr s l i).2).t (Br.pv (Br.pr s l k).1 i) 536870912 = true from Br.inn_iff.2 ⟨hp, by show ((i / 2 : Nat) : Int) ≤ _; omega⟩]
    decide
  unfold Br.runE
  rw [h1, if_neg (by decide), if_neg (by rw [hl]; omega), h2]
  cases Br.sets s <;> simp
theorem Br.pr_st (s : Br.Se) (l : List Br.Ac) (k : Nat) : Br.st s (Br.pr s l (k + 1)).1 k = Br.st s (Br.pr s l k).1 k := by
  unfold Br.st
  have hl := Br.pr_length s l k
  simp only [Br.pr]
  rw [List.take_append_of_le_length (by omega)]
theorem Br.pr_st1 (s : Br.Se) (l : List Br.Ac) (k : Nat) : Br.st s (Br.pr s l (k + 1)).1 (k + 1) = (Br.step s (Br.st s (Br.pr s l k).1 k) (Br.pb (l.getD k Br.ac0) k (Br.pr s l k).2)).1 := by
  rw [Br.st_succ s _ k (by rw [Br.pr_length]; omega), Br.pr_st, Br.pr_get s l (k + 1) k (by omega)]
theorem Br.pr_told (s : Br.Se) (l : List Br.Ac) (k : Nat) : (Br.tolds s (Br.pr s l (k + 1)).1 (k + 1)).getD k 0 = (Br.step s (Br.st s (Br.pr s l k).1 k) (Br.pb (l.getD k Br.ac0) k (Br.pr s l k).2)).2 := by
  rw [← Br.pr_st s l k, ← Br.pr_get s l (k + 1) k (by omega)]
  simp [Br.tolds, List.getD]
theorem Br.step_p {s : Br.Se} {b : Br.St} {a : Br.Ac} (hk : a.k = 1 ∨ a.k = 2 ∨ a.k = 3) (h0 : 0 ≤ b.p) (h1 : b.p ≤ s.p) (hp : a.p = true → 0 < b.p) (hs : 1 ≤ s.p) : (Br.step s b a).1.p = b.p + Br.dl a (Br.step s b a).2 ∧ 0 ≤ (Br.step s b a).1.p ∧ (Br.step s b a).1.p ≤ s.p := by
  have key : (Br.step s b a).1.p = b.p + Br.dl a (Br.step s b a).2 ∧ (a.k = 2 ∧ (Br.step s b a).2 = 1 → b.p < s.p) := by
    obtain ⟨K, t, p, g⟩ := a
    dsimp only at hk hp
    rcases hk with rfl | rfl | rfl
    · refine ⟨?_, by rintro ⟨h, _⟩; cases h⟩
      show (Br.tick b t).p = b.p + Br.dl ⟨1, t, p, g⟩ 0
      unfold Br.tick Br.dl
      split <;> simp
    · have hst : Br.step s b ⟨2, t, p, g⟩ = if Br.allows b s = true then (Br.beg b, if b.m = 2 then 1 else 0) else (b, 2) := by
        unfold Br.step; rw [if_neg (show ¬ (2 : Int) = 1 by decide), if_pos rfl]
      rw [hst]
      cases ha : Br.allows b s with
      | false => exact ⟨by simp [Br.dl], by simp⟩
      | true =>
        by_cases hm : b.m = 2
        · refine ⟨by simp [Br.dl, Br.beg, hm], fun _ => ?_⟩
          unfold Br.allows at ha
          simp [hm] at ha
          exact ha
        · exact ⟨by simp [Br.dl, Br.beg, hm], by simp [hm]⟩
    · refine ⟨?_, by rintro ⟨h, _⟩; cases h⟩
      show (Br.fin b s t p g).p = b.p + Br.dl ⟨3, t, p, g⟩ 0
      have hd : (Br.dn b p).p = b.p + (if p = true then -1 else 0) := by
        unfold Br.dn
        cases p with
        | false => simp
        | true => rw [if_pos ⟨rfl, hp rfl⟩]; simp; omega
      have hc : ∀ b' : Br.St, (Br.count b' s t g).p = b'.p := by
        intro b'; unfold Br.count Br.trip; split
        · rfl
        · split <;> rfl
      have hw : ∀ b' : Br.St, (Br.weigh b' s t g).p = b'.p := by
        intro b'; unfold Br.weigh Br.trip; split
        · split <;> rfl
        · rfl
      have hf : (Br.fin b s t p g).p = (Br.dn b p).p := by
        unfold Br.fin; split
        · exact hc _
        · split
          · exact hw _
          · rfl
      rw [hf, hd]
      unfold Br.dl
      rw [if_neg (show ¬ ((3 : Int) = 2 ∧ (0 : Int) = 1) by decide)]
      cases p <;> simp
  refine ⟨key.1, ?_⟩
  have h2 := key.2
  rw [key.1]
  unfold Br.dl
  split
  · rename_i h; have := h2 h; omega
  · split
    · rename_i h; have := hp h.2; omega
    · omega
theorem Br.pr_out (s : Br.Se) (l : List Br.Ac) (hs : Br.sets s = true) (k : Nat) : (Br.st s (Br.pr s l k).1 k).p = (Br.pr s l k).2 ∧ 0 ≤ (Br.pr s l k).2 ∧ (Br.pr s l k).2 ≤ s.p := by
  have h3 := Br.sets_iff.1 hs
  induction k with
  | zero => exact ⟨rfl, Int.le_refl _, by show (0 : Int) ≤ _; omega⟩
  | succ k ih =>
    obtain ⟨i1, i2, i3⟩ := ih
    have hk : (Br.pb (l.getD k Br.ac0) k (Br.pr s l k).2).k = 1 ∨ (Br.pb (l.getD k Br.ac0) k (Br.pr s l k).2).k = 2 ∨ (Br.pb (l.getD k Br.ac0) k (Br.pr s l k).2).k = 3 := by
      have := Br.three_range (l.getD k Br.ac0).k
      show Br.three _ = 1 ∨ Br.three _ = 2 ∨ Br.three _ = 3
      omega
    have hp : (Br.pb (l.getD k Br.ac0) k (Br.pr s l k).2).p = true → 0 < (Br.st s (Br.pr s l k).1 k).p := by
      intro h
      rw [i1]
      simp only [Br.pb, Bool.and_eq_true, decide_eq_true_eq] at h
      exact h.2
    obtain ⟨q1, q2, q3⟩ := Br.step_p (s := s) hk (by omega) (by omega) hp (by omega)
    rw [Br.pr_st1]
    have e : (Br.pr s l (k + 1)).2 = (Br.step s (Br.st s (Br.pr s l k).1 k) (Br.pb (l.getD k Br.ac0) k (Br.pr s l k).2)).1.p := by
      rw [q1, i1]
      rfl
    rw [e]
    exact ⟨rfl, q2, q3⟩
theorem Br.zero_chk {s : Br.Se} (h : Br.sets s = false) : Br.chk Br.zero s 0 = 4 := by
  unfold Br.chk
  rw [h]
  rfl
end Go.Proofs.Ytkfkhhhoboenkaa
