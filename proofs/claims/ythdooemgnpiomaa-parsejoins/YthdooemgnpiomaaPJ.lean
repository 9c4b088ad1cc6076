/- Declarations one behind the other. -/
import Derived.Test.YthdooemgnpiomaaPP
namespace Go.Proofs.Ythdooemgnpiomaa.Pl

theorem decls_ahead (k : Nat) : ∀ l1 d1, declsP k l1 = .ok d1 [] → ∀ l2, declsP k (l1 ++ l2) = (declsP (k - d1.length) l2).bind fun as r => .ok (d1 ++ as) r := by
  induction k with
  | zero =>
    intro l1 d1 h l2
    cases l1 with
    | nil =>
      cases h
      simp only [List.nil_append, List.length_nil, Nat.sub_zero]
      cases declsP 0 l2 <;> rfl
    | cons t r => simp only [declsP] at h; split at h <;> cases h
  | succ k ih =>
    intro l1 d1 h l2
    cases l1 with
    | nil =>
      cases h
      simp only [List.nil_append, List.length_nil, Nat.sub_zero]
      cases declsP (k + 1) l2 <;> rfl
    | cons t r =>
      obtain ⟨a, as, c, u, r1, hd, rfl, rfl, he, _, _, h3⟩ := decls_cons k t r d1 [] h
      have := ih r1 as h3 l2
      have e1 : (c ++ u :: r1) ++ l2 = (c ++ [u]) ++ (r1 ++ l2) := by simp
      rw [List.cons_append, e1]
      simp only [declsP, if_pos hd, he.all, Res.bind]
      rw [this]
      simp only [List.length_cons, Nat.reduceSubDiff]
      cases declsP (k - as.length) l2 <;> rfl

theorem decls_less (k : Nat) : ∀ l d, declsP k l = .ok d [] → ∀ j, declsP j l = .ok d [] ∨ ∃ r, declsP j l = .bad r 3 := by
  induction k with
  | zero =>
    intro l d h j
    cases l with
    | nil => cases h; exact .inl (by cases j <;> rfl)
    | cons t r => simp only [declsP] at h; split at h <;> cases h
  | succ k ih =>
    intro l d h j
    cases l with
    | nil => cases h; exact .inl (by cases j <;> rfl)
    | cons t r =>
      obtain ⟨a, as, c, u, r1, hd, rfl, rfl, he, _, _, h3⟩ := decls_cons k t r d [] h
      cases j with
      | zero => exact .inr ⟨t :: (c ++ u :: r1), by simp only [declsP, if_pos hd]⟩
      | succ j =>
        have e1 : c ++ u :: r1 = (c ++ [u]) ++ r1 := by simp
        rw [e1]
        simp only [declsP, if_pos hd, he.all, Res.bind]
        rcases ih r1 as h3 j with h4 | ⟨q, h4⟩
        · rw [h4]
          exact .inl rfl
        · rw [h4]
          exact .inr ⟨q, rfl⟩

/-- Two rows of declarations, one behind the other: both, or too many. -/
theorem decls_join (l1 l2 : List Kt) (d1 d2 : List Decl) (h1 : declsP 64 l1 = .ok d1 []) (h2 : declsP 64 l2 = .ok d2 []) : declsP 64 (l1 ++ l2) = .ok (d1 ++ d2) [] ∨ ∃ r, declsP 64 (l1 ++ l2) = .bad r 3 := by
  rw [decls_ahead 64 l1 d1 h1]
  rcases decls_less 64 l2 d2 h2 (64 - d1.length) with h | ⟨r, h⟩
  · rw [h]
    exact .inl rfl
  · rw [h]
    exact .inr ⟨r, rfl⟩
end Go.Proofs.Ythdooemgnpiomaa.Pl
