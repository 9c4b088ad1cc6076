/- All numbers of octets. -/
import Derived.Test.YthakifpjdpknhaaPlainC
import Derived.Test.YthakifpjdpknhaaCallsB
namespace Go.Proofs.Ythakifpjdpknhaa.Pl

def allS : Nat → List Int → Int → List Int → List Int × Int
  | 0, _, _, acc => (acc, 0)
  | f + 1, l, p, acc =>
    if p < (l.length : Int) then
      (if (getI l p).2.2 = 0 then (if acc.length = 4096 then ([], 3) else allS f l (getI l p).2.1 (acc ++ [(getI l p).1])) else ([], (getI l p).2.2))
    else (acc, 0)

def allI (l : List Int) : List Int × Int := allS (l.length + 1) l 0 []

theorem allS_end (f : Nat) (l : List Int) (p : Int) (acc : List Int) (h : (l.length : Int) ≤ p) : allS f l p acc = (acc, 0) := by
  cases f with
  | zero => rfl
  | succ f => simp only [allS]; rw [if_neg (by omega)]

theorem allS_err (f : Nat) (l : List Int) (p : Int) (acc : List Int) (h : p < (l.length : Int)) (he : (getI l p).2.2 ≠ 0) : allS (f + 1) l p acc = ([], (getI l p).2.2) := by
  simp only [allS]; rw [if_pos h, if_neg he]

theorem allS_full (f : Nat) (l : List Int) (p : Int) (acc : List Int) (h : p < (l.length : Int)) (he : (getI l p).2.2 = 0) (hf : acc.length = 4096) : allS (f + 1) l p acc = ([], 3) := by
  simp only [allS]; rw [if_pos h, if_pos he, if_pos hf]

theorem allS_next (f : Nat) (l : List Int) (p : Int) (acc : List Int) (h : p < (l.length : Int)) (he : (getI l p).2.2 = 0) (hf : ¬ acc.length = 4096) : allS (f + 1) l p acc = allS f l (getI l p).2.1 (acc ++ [(getI l p).1]) := by
  simp only [allS]; rw [if_pos h, if_pos he, if_neg hf]

theorem encs_snoc (acc : List Int) (n : Int) : encs (acc ++ [n]) = encs acc ++ enc 9 n := by simp [encs]

theorem allS_good (f : Nat) (l : List Int) (p : Int) (acc : List Int) (ho : ∀ z ∈ l, 0 ≤ z ∧ z ≤ 255) (h0 : 0 ≤ p) (h1 : p ≤ l.length) (hf : (l.length : Int) - p < f) (he : encs acc = l.take p.toNat) (hb : ∀ n ∈ acc, 0 ≤ n ∧ n ≤ 18446744073709551615) (hl : acc.length ≤ 4096) :
    ((allS f l p acc).2 ≠ 0 → (allS f l p acc).1 = []) ∧ ((allS f l p acc).2 = 0 → encs (allS f l p acc).1 = l) ∧ (∀ n ∈ (allS f l p acc).1, 0 ≤ n ∧ n ≤ 18446744073709551615) ∧ (allS f l p acc).1.length ≤ 4096 := by
  induction f generalizing p acc with
  | zero => omega
  | succ f ih =>
    by_cases hp : p < (l.length : Int)
    · by_cases hg : (getI l p).2.2 = 0
      · by_cases h4 : acc.length = 4096
        · rw [allS_full f l p acc hp hg h4]
          simp
        · rw [allS_next f l p acc hp hg h4]
          obtain ⟨n, q, e, hgi⟩ : ∃ n q e, getI l p = (n, q, e) := ⟨_, _, _, rfl⟩
          rw [hgi] at hg ⊢
          simp only at hg
          subst hg
          obtain ⟨_, hn0, hn1, hpq, hql, r, hd, hq⟩ := getI_ok l p n q ho hgi
          refine ih q (acc ++ [n]) (by omega) hql (by omega) ?_ ?_ (by simp; omega)
          · rw [encs_snoc, he]
            have hsplit := List.take_append_drop p.toNat l
            rw [hd] at hsplit
            have hlt : (l.take p.toNat).length = p.toNat := by rw [List.length_take]; omega
            have hqn : q.toNat = p.toNat + (enc 9 n).length := by omega
            rw [hqn]
            conv => rhs; rw [← hsplit]
            rw [← List.append_assoc]
            rw [List.take_left' (by rw [List.length_append, hlt])]
          · intro m hm
            rcases List.mem_append.1 hm with hm | hm
            · exact hb m hm
            · simp at hm; omega
      · rw [allS_err f l p acc hp hg]
        simp [hg]
    · rw [allS_end _ l p acc (by omega)]
      refine ⟨fun h => absurd rfl h, fun _ => ?_, hb, hl⟩
      rw [he, List.take_of_length_le (by omega)]

theorem allI_good (l : List Int) (ho : ∀ z ∈ l, 0 ≤ z ∧ z ≤ 255) :
    ((allI l).2 ≠ 0 → (allI l).1 = []) ∧ ((allI l).2 = 0 → encs (allI l).1 = l) ∧ (∀ n ∈ (allI l).1, 0 ≤ n ∧ n ≤ 18446744073709551615) ∧ (allI l).1.length ≤ 4096 :=
  allS_good (l.length + 1) l 0 [] ho (by omega) (by omega) (by omega) (by simp [encs]) (fun n hn => by cases hn) (by simp)
end Go.Proofs.Ythakifpjdpknhaa.Pl
