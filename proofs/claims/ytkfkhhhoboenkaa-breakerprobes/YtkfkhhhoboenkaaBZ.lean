/- breaker, plainly: acts one by one. -/
import Derived.Test.YtkfkhhhoboenkaaBY
import Derived.Test.YtkfkhhhoboenkaaBU
namespace Go.Proofs.Ytkfkhhhoboenkaa
open Go.RowKit
set_option maxRecDepth 20000
set_option linter.unusedVariables false

def Br.st (s : Br.Se) (l : List Br.Ac) (k : Nat) : Br.St := (l.take k).foldl (fun b a => (Br.step s b a).1) Br.zero
def Br.tolds (s : Br.Se) (l : List Br.Ac) (k : Nat) : List Int := (List.range k).map (fun i => (Br.step s (Br.st s l i) (l.getD i Br.ac0)).2)
def Br.endR2 (s : Br.Se) (l : List Br.Ac) : Br.St := if Br.runE s l = 0 then Br.st s l l.length else Br.zero
def Br.toldR (s : Br.Se) (l : List Br.Ac) : List Int := if Br.runE s l = 0 then Br.tolds s l l.length else []

theorem Br.st_succ (s : Br.Se) (l : List Br.Ac) (k : Nat) (h : k < l.length) : Br.st s l (k + 1) = (Br.step s (Br.st s l k) (l.getD k Br.ac0)).1 := by
  unfold Br.st
  rw [List.take_succ_eq_append_getElem h, List.foldl_append]
  simp [h]
theorem Br.told_succ (s : Br.Se) (l : List Br.Ac) (k : Nat) : Br.tolds s l (k + 1) = Br.tolds s l k ++ [(Br.step s (Br.st s l k) (l.getD k Br.ac0)).2] := by
  simp [Br.tolds, List.range_succ]
theorem Br.told_length (s : Br.Se) (l : List Br.Ac) (k : Nat) : (Br.tolds s l k).length = k := by simp [Br.tolds]

theorem any_false {n : Nat} {f : Nat → Bool} (h : (List.range n).any f = false) {k : Nat} (hk : k < n) : f k = false := by
  cases hf : f k with
  | false => rfl
  | true =>
    rw [rany_at f n k hk hf] at h
    cases h
theorem Br.runE_zero {s : Br.Se} {l : List Br.Ac} (h : Br.runE s l = 0) : Br.sets s = true ∧ l.length ≤ 512 ∧ (∀ k, k < l.length → Br.inn (l.getD k Br.ac0).k 1 3 = true) ∧ (∀ k, k < l.length → Br.inn (l.getD k Br.ac0).t (Br.pv l k) 536870912 = true) := by
  unfold Br.runE at h
  cases hk : Br.kdE l with
  | true => rw [hk, if_pos rfl] at h; cases h
  | false =>
    rw [hk, if_neg (by decide)] at h
    by_cases hl : 512 < l.length
    · rw [if_pos hl] at h; cases h
    · rw [if_neg hl] at h
      by_cases hs : Br.sets s = true ∧ Br.tkE l = false
      · refine ⟨hs.1, by omega, fun k hkl => ?_, fun k hkl => ?_⟩
        · have := any_false hk hkl
          unfold Br.kd at this
          simpa using this
        · have := any_false hs.2 hkl
          unfold Br.tk at this
          simpa using this
      · rw [if_neg hs] at h; cases h
theorem Br.tick_range {l : List Br.Ac} (h : ∀ k, k < l.length → Br.inn (l.getD k Br.ac0).t (Br.pv l k) 536870912 = true) (k : Nat) (hk : k < l.length) : 0 ≤ (l.getD k Br.ac0).t ∧ (l.getD k Br.ac0).t ≤ 536870912 := by
  induction k with
  | zero =>
    have := Br.inn_iff.1 (h 0 hk)
    simpa [Br.pv] using this
  | succ k ih =>
    have h1 := Br.inn_iff.1 (h (k + 1) hk)
    have h2 := ih (by omega)
    rw [show Br.pv l (k + 1) = (l.getD k Br.ac0).t from by simp [Br.pv]] at h1
    omega
theorem Br.kind_range {l : List Br.Ac} (h : ∀ k, k < l.length → Br.inn (l.getD k Br.ac0).k 1 3 = true) (k : Nat) (hk : k < l.length) : (l.getD k Br.ac0).k = 1 ∨ (l.getD k Br.ac0).k = 2 ∨ (l.getD k Br.ac0).k = 3 := by
  have := Br.inn_iff.1 (h k hk)
  omega
theorem Br.step_may {s : Br.Se} {b : Br.St} {a : Br.Ac} (hs : Br.sets s = true) (h : Br.may b = true) (h1 : 0 ≤ a.t) (h2 : a.t ≤ 536870912) : Br.may (Br.step s b a).1 = true := by
  unfold Br.step
  split
  · exact Br.tick_may h
  · split
    · split
      · rename_i ha
        show Br.may (Br.beg b) = true
        unfold Br.beg
        split
        · rename_i hm
          have h3 := Br.sets_iff.1 hs
          rw [Br.may_iff] at h ⊢
          unfold Br.allows at ha
          simp only [Bool.or_eq_true, Bool.and_eq_true, decide_eq_true_eq] at ha
          dsimp only
          omega
        · exact h
      · exact h
    · exact Br.fin_may h hs h1 h2
theorem Br.st_may {s : Br.Se} {l : List Br.Ac} (h : Br.runE s l = 0) (k : Nat) (hk : k ≤ l.length) : Br.may (Br.st s l k) = true := by
  obtain ⟨h1, _, _, h4⟩ := Br.runE_zero h
  induction k with
  | zero => rfl
  | succ k ih =>
    rw [Br.st_succ s l k (by omega)]
    have := Br.tick_range h4 k (by omega)
    exact Br.step_may h1 (ih (by omega)) this.1 this.2
theorem Br.st_chk {s : Br.Se} {l : List Br.Ac} (h : Br.runE s l = 0) (k : Nat) (hk : k < l.length) : Br.chk (Br.st s l k) s (l.getD k Br.ac0).t = 0 := by
  obtain ⟨h1, _, _, h4⟩ := Br.runE_zero h
  have := Br.tick_range h4 k hk
  exact Br.chk_good h1 this.1 this.2 (Br.st_may h k (by omega))
theorem own_cg {C : Nat} {e : TypeId} {z : Nat} {w w' : World} {v : Value} {k : Nat} {xs : List Value} (h : w.ownsRow (C + 1) e z v k xs) (hc : Cg C w w') : w'.ownsRow (C + 1) e z v k xs := by
  refine h.kept (row := some C) ⟨hc.os, hc.tape, hc.output, hc.size, fun b hb hne => hc.block b hb (fun e => hne (by rw [e]))⟩ ?_
  cases hv : v.ownBlock with
  | none => exact .inl rfl
  | some b => exact .inr (fun e => by have := (h.lt b hv).1; cases e; omega)
theorem keep4 {D : Nat} {W W' : World} {v0 v1 v2 v3 : Value} (h : W.cell? ⟨D, 0, none⟩ = some v0 ∧ W.cell? ⟨D, 1, none⟩ = some v1 ∧ W.cell? ⟨D, 2, none⟩ = some v2 ∧ W.cell? ⟨D, 3, none⟩ = some v3) (e : W'.heap[D]? = W.heap[D]?) : W'.cell? ⟨D, 0, none⟩ = some v0 ∧ W'.cell? ⟨D, 1, none⟩ = some v1 ∧ W'.cell? ⟨D, 2, none⟩ = some v2 ∧ W'.cell? ⟨D, 3, none⟩ = some v3 := by
  simp only [World.cell?] at h ⊢
  rw [e]
  exact h
end Go.Proofs.Ytkfkhhhoboenkaa
