/- Tokens that may be: of a text, and alone. -/
import Derived.Test.YthdooemgnpiomaaLPlainB
namespace Go.Proofs.Ythdooemgnpiomaa.Pl

theorem takeWhile_all (p : Nat → Bool) (l : List Nat) (h : ∀ c ∈ l, p c = true) : l.takeWhile p = l ∧ l.dropWhile p = [] := by
  induction l with
  | nil => exact ⟨rfl, rfl⟩
  | cons c l ih =>
    have h1 := ih (fun d hd => h d (by simp [hd]))
    rw [List.takeWhile_cons, if_pos (h c (by simp)), List.dropWhile_cons, if_pos (h c (by simp)), h1.1, h1.2]
    exact ⟨rfl, rfl⟩
theorem all_of_length (p : Nat → Bool) (l : List Nat) (h : (l.takeWhile p).length = l.length) : l.takeWhile p = l ∧ ∀ c ∈ l, p c = true := by
  induction l with
  | nil => exact ⟨rfl, fun c hc => by cases hc⟩
  | cons c l ih =>
    rw [List.takeWhile_cons] at h ⊢
    by_cases hp : p c = true
    · rw [if_pos hp] at h ⊢
      simp only [List.length_cons, Nat.add_right_cancel_iff] at h
      obtain ⟨h1, h2⟩ := ih h
      rw [h1]
      refine ⟨rfl, fun d hd => ?_⟩
      rcases List.mem_cons.1 hd with rfl | hd
      · exact hp
      · exact h2 d hd
    · rw [if_neg hp] at h
      simp at h

theorem sign_kind (c : Nat) (h : isSign c = true) : isLetter c = false ∧ isDigit c = false := by
  simp only [isSign, List.contains_eq_mem, List.mem_cons, List.not_mem_nil, or_false, decide_eq_true_eq] at h
  refine ⟨?_, ?_⟩
  · simp only [isLetter, Bool.or_eq_false_iff, Bool.and_eq_false_iff, decide_eq_false_iff_not]
    omega
  · simp only [isDigit, Bool.and_eq_false_iff, decide_eq_false_iff_not]
    omega

theorem ok_next (t : Tok) (h : okTok t) : nextP t.text = (t.kind, t.text.length, 0) := by
  obtain ⟨k, x, ln⟩ := t
  rcases h with ⟨h1, c, h2, h3⟩ | ⟨h1, h2, h3⟩
  · simp only at h1 h2
    subst h1 h2
    obtain ⟨q1, q2⟩ := sign_kind c h3
    simp [nextP, q1, q2, h3]
  · simp only at h1 h2 h3
    cases x with
    | nil => exact absurd rfl h1
    | cons c r =>
      obtain ⟨p1, p2⟩ := takeWhile_all isPart (c :: r) h2
      simp only [wordE] at h3
      simp only [nextP]
      by_cases hl : isLetter c = true
      · rw [if_pos hl] at h3 ⊢
        rw [p1]
        by_cases h32 : 32 < (c :: r).length
        · rw [if_pos h32] at h3
          simp at h3
        · rw [if_neg h32] at h3 ⊢
          simp only [Prod.mk.injEq] at h3
          rw [h3.1]
      · rw [if_neg hl] at h3 ⊢
        by_cases hd : isDigit c = true
        · rw [if_neg (by simp [hd])] at h3
          rw [if_pos hd]
          by_cases ha : (c :: r).all isDigit = true
          · rw [if_neg (by simp [ha])] at h3
            obtain ⟨d1, d2⟩ := takeWhile_all isDigit (c :: r) (by simpa using ha)
            rw [d1, d2]
            by_cases h9 : 9 < (c :: r).length ∨ (c = 48 ∧ 1 < (c :: r).length)
            · rw [if_pos h9] at h3
              simp at h3
            · rw [if_neg h9] at h3
              simp only [Prod.mk.injEq] at h3
              rw [if_neg (by
                rintro (h | h | h)
                · exact h9 (.inl h)
                · exact h9 (.inr ⟨h.2, h.1⟩)
                · simp [seesB] at h), h3.1]
          · rw [if_pos (by cases hq : (c :: r).all isDigit; rfl; exact absurd hq ha)] at h3
            simp at h3
        · rw [if_pos (by simpa using hd)] at h3
          simp at h3

theorem next_ok (x : List Nat) (k ln : Nat) (h : nextP x = (k, x.length, 0)) : okTok ⟨k, x, ln⟩ := by
  cases x with
  | nil => simp [nextP] at h
  | cons c r =>
    simp only [nextP] at h
    by_cases hl : isLetter c = true
    · rw [if_pos hl] at h
      by_cases h32 : 32 < ((c :: r).takeWhile isPart).length
      · rw [if_pos h32] at h
        simp at h
      · rw [if_neg h32] at h
        simp only [Prod.mk.injEq] at h
        obtain ⟨rfl, h2, _⟩ := h
        obtain ⟨p1, p2⟩ := all_of_length isPart (c :: r) h2
        refine .inr ⟨by simp, p2, ?_⟩
        rw [p1] at h32
        simp only [wordE]
        rw [if_pos hl, if_neg h32]
    · rw [if_neg hl] at h
      by_cases hd : isDigit c = true
      · rw [if_pos hd] at h
        by_cases hb : 9 < ((c :: r).takeWhile isDigit).length ∨ (1 < ((c :: r).takeWhile isDigit).length ∧ c = 48) ∨ seesB isJoin ((c :: r).dropWhile isDigit) = true
        · rw [if_pos hb] at h
          simp at h
        · rw [if_neg hb] at h
          simp only [Prod.mk.injEq] at h
          obtain ⟨rfl, h2, _⟩ := h
          obtain ⟨p1, p2⟩ := all_of_length isDigit (c :: r) h2
          refine .inr ⟨by simp, fun d hd' => ?_, ?_⟩
          · rw [part_split, p2 d hd']
            rfl
          · rw [p1] at hb
            have ha : (c :: r).all isDigit = true := List.all_eq_true.2 p2
            simp only [wordE]
            rw [if_neg hl, if_neg (by simp [hd]), if_neg (by rw [ha]; simp), if_neg (by
              rintro (h | h)
              · exact hb (.inl h)
              · exact hb (.inr (.inl ⟨h.2, h.1⟩)))]
      · rw [if_neg hd] at h
        by_cases hs : isSign c = true
        · rw [if_pos hs] at h
          simp only [Prod.mk.injEq, List.length_cons] at h
          obtain ⟨rfl, h2, _⟩ := h
          have : r = [] := List.length_eq_zero_iff.1 (by omega)
          subst this
          exact .inl ⟨rfl, c, rfl, hs⟩
        · rw [if_neg hs] at h
          simp at h

theorem ok_kind (t : Tok) (h : okTok t) : 1 ≤ t.kind ∧ t.kind ≤ 3 ∧ 1 ≤ t.text.length ∧ t.text.length ≤ 32 := by
  have hn := ok_next t h
  obtain ⟨k, x, ln⟩ := t
  simp only at hn ⊢
  cases x with
  | nil => simp [nextP] at hn
  | cons c r =>
    refine ⟨?_, ?_, by simp, ?_⟩
    all_goals
      simp only [nextP] at hn
      split at hn
      · split at hn
        · simp at hn
        · simp only [Prod.mk.injEq] at hn
          omega
      · split at hn
        · split at hn
          · simp at hn
          · rename_i hb
            simp only [Prod.mk.injEq] at hn
            have : ¬ 9 < ((c :: r).takeWhile isDigit).length := fun h => hb (.inl h)
            omega
        · split at hn
          · simp only [Prod.mk.injEq] at hn
            omega
          · simp at hn

theorem mem_cons {t u : Tok} {x : List Tok × Nat × Int} (h : u ∈ (tokCons t x).1) : u = t ∨ u ∈ x.1 := by
  unfold tokCons at h
  split at h
  · simpa using h
  · cases h

theorem part_take (c : Nat) (r : List Nat) (h : isPart c = true) : (c :: r).takeWhile isPart ≠ [] ∧ ∀ d ∈ (c :: r).takeWhile isPart, isPart d = true := by
  refine ⟨?_, ?_⟩
  · rw [List.takeWhile_cons, if_pos h]
    simp
  · generalize c :: r = l
    induction l with
    | nil => intro d hd; cases hd
    | cons e l ih =>
      intro d hd
      rw [List.takeWhile_cons] at hd
      split at hd
      · rcases List.mem_cons.1 hd with rfl | hd
        · assumption
        · exact ih d hd
      · cases hd

/-- The tokens of a text may be. -/
theorem tok_ok (f : Nat) : ∀ (l : List Nat) (ln : Nat), ∀ t ∈ (tokS f l ln).1, okTok t := by
  induction f with
  | zero => intro l ln t ht; cases ht
  | succ f ih =>
    intro l ln t ht
    cases l with
    | nil => cases ht
    | cons c r =>
      simp only [tokS] at ht
      split at ht
      · exact ih _ _ t ht
      · split at ht
        · exact ih _ _ t ht
        · split at ht
          · exact ih _ _ t ht
          · split at ht
            · rename_i hs
              rcases mem_cons ht with rfl | ht
              · exact .inl ⟨rfl, c, rfl, hs⟩
              · exact ih _ _ t ht
            · split at ht
              · rename_i hp
                split at ht
                · rename_i hw
                  rcases mem_cons ht with rfl | ht
                  · obtain ⟨q1, q2⟩ := part_take c r hp
                    exact .inr ⟨q1, q2, by ext <;> simp [hw]⟩
                  · exact ih _ _ t ht
                · cases ht
              · cases ht

theorem rises_mono {a b : Nat} {l : List Tok} (h : rises a l) (hb : b ≤ a) : rises b l := by
  cases l with
  | nil => trivial
  | cons t r => exact ⟨Nat.le_trans hb h.1, h.2⟩
theorem rises_cons {t : Tok} {x : List Tok × Nat × Int} (h : rises t.line x.1) : rises t.line (tokCons t x).1 := by
  unfold tokCons
  split
  · exact ⟨Nat.le_refl _, h⟩
  · trivial
/-- Lines of a text's tokens do not fall. -/
theorem tok_rises (f : Nat) : ∀ (l : List Nat) (ln : Nat), rises ln (tokS f l ln).1 := by
  induction f with
  | zero => intro l ln; trivial
  | succ f ih =>
    intro l ln
    cases l with
    | nil => trivial
    | cons c r =>
      simp only [tokS]
      split
      · exact rises_mono (ih _ _) (by omega)
      · split
        · exact ih _ _
        · split
          · exact ih _ _
          · split
            · exact rises_cons (t := ⟨3, [c], ln⟩) (ih _ _)
            · split
              · split
                · exact rises_cons (t := ⟨_, _, ln⟩) (ih _ _)
                · trivial
              · trivial
theorem rises_at {a : Nat} {l : List Tok} (h : rises a l) : ∀ i t u, l[i]? = some t → l[i + 1]? = some u → t.line ≤ u.line := by
  induction l generalizing a with
  | nil => intro i t u ht; simp at ht
  | cons x r ih =>
    intro i t u ht hu
    cases i with
    | zero =>
      simp at ht
      subst ht
      cases r with
      | nil => simp at hu
      | cons y r =>
        simp at hu
        subst hu
        exact h.2.1
    | succ i =>
      rw [List.getElem?_cons_succ] at ht hu
      exact ih h.2 i t u ht hu
theorem rises_of (l : List Tok) : ∀ a, (∀ t, l[0]? = some t → a ≤ t.line) → (∀ i t u, l[i]? = some t → l[i + 1]? = some u → t.line ≤ u.line) → rises a l := by
  induction l with
  | nil => intro a _ _; trivial
  | cons x r ih =>
    intro a h0 h
    exact ⟨h0 x rfl, ih x.line (fun t ht => h 0 x t rfl (by simpa using ht)) (fun i t u ht hu => h (i + 1) t u (by simpa using ht) (by simpa using hu))⟩
end Go.Proofs.Ythdooemgnpiomaa.Pl
