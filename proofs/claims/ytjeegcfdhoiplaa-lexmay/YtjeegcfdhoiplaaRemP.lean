/- Texts as tokens: remarks and blanks change nothing. -/
import Derived.Test.YtjeegcfdhoiplaaLPlainB
namespace Go.Proofs.Ytjeegcfdhoiplaa.Pl

/-- A remark ahead of each newline, blanks behind it. -/
def mid (r : List Nat) : List Nat → List Nat
  | [] => []
  | c :: l => if c = 10 then 32 :: 35 :: (r ++ 10 :: 13 :: 32 :: mid r l) else c :: mid r l

/-- Does a text end within a remark? -/
def inF : Bool → List Nat → Bool
  | b, [] => b
  | b, c :: l => inF (if c = 35 then true else if c = 10 then false else b) l

def ends (r : List Nat) (b : Bool) (l : List Nat) : List Nat := if inF b l then [] else 32 :: 35 :: r
def weave (r : List Nat) (b : Bool) (l : List Nat) : List Nat := mid r l ++ ends r b l

theorem weave_nl (r : List Nat) (b : Bool) (l : List Nat) : weave r b (10 :: l) = 32 :: 35 :: (r ++ 10 :: 13 :: 32 :: weave r false l) := by
  simp [weave, mid, ends, inF]
theorem weave_hash (r : List Nat) (b : Bool) (l : List Nat) : weave r b (35 :: l) = 35 :: weave r true l := by
  simp [weave, mid, ends, inF]
theorem weave_other (r : List Nat) (b : Bool) (c : Nat) (l : List Nat) (h1 : c ≠ 10) (h2 : c ≠ 35) : weave r b (c :: l) = c :: weave r b l := by
  simp [weave, mid, ends, inF, h1, h2]

theorem drop_clean (r t : List Nat) (h : ∀ c ∈ r, c ≠ 10) : (r ++ 10 :: t).dropWhile (fun d => d != 10) = 10 :: t := by
  induction r with
  | nil => rfl
  | cons c r ih =>
    have h1 := h c (by simp)
    rw [List.cons_append, List.dropWhile_cons, if_pos (by simpa using h1)]
    exact ih (fun d hd => h d (by simp [hd]))
theorem drop_clean0 (r : List Nat) (h : ∀ c ∈ r, c ≠ 10) : r.dropWhile (fun d => d != 10) = [] := by
  induction r with
  | nil => rfl
  | cons c r ih =>
    have h1 := h c (by simp)
    rw [List.dropWhile_cons, if_pos (by simpa using h1)]
    exact ih (fun d hd => h d (by simp [hd]))

theorem weave_part (r : List Nat) (l : List Nat) : (weave r false l).takeWhile isPart = l.takeWhile isPart ∧ (weave r false l).dropWhile isPart = weave r false (l.dropWhile isPart) := by
  induction l with
  | nil => exact ⟨rfl, rfl⟩
  | cons c l ih =>
    by_cases h : isPart c = true
    · obtain ⟨n1, n2, n3, n4⟩ := part_not c h
      rw [weave_other r false c l n1 n3, List.takeWhile_cons, if_pos h, List.takeWhile_cons, if_pos h, List.dropWhile_cons, if_pos h, List.dropWhile_cons, if_pos h, ih.1, ih.2]
      exact ⟨rfl, rfl⟩
    · rw [List.takeWhile_cons, if_neg h, List.dropWhile_cons, if_neg h]
      by_cases h10 : c = 10
      · subst h10
        rw [weave_nl]
        exact ⟨rfl, rfl⟩
      · by_cases h35 : c = 35
        · subst h35
          rw [weave_hash]
          exact ⟨rfl, rfl⟩
        · rw [weave_other r false c l h10 h35, List.takeWhile_cons, if_neg h, List.dropWhile_cons, if_neg h]
          exact ⟨rfl, rfl⟩

theorem tok_weave (r : List Nat) (hr : ∀ c ∈ r, c ≠ 10) (n : Nat) : ∀ (l : List Nat), l.length ≤ n → ∀ ln, tok (weave r false l) ln = tok l ln ∧ tok ((weave r true l).dropWhile (fun d => d != 10)) ln = tok (l.dropWhile (fun d => d != 10)) ln := by
  induction n with
  | zero =>
    intro l hl ln
    have : l = [] := List.length_eq_zero_iff.1 (by omega)
    subst this
    refine ⟨?_, rfl⟩
    show tok (32 :: 35 :: r) ln = _
    rw [tok_blank 32 _ _ rfl, tok_remark, drop_clean0 r hr]
  | succ n ih =>
    intro l hl ln
    cases l with
    | nil =>
      refine ⟨?_, rfl⟩
      show tok (32 :: 35 :: r) ln = _
      rw [tok_blank 32 _ _ rfl, tok_remark, drop_clean0 r hr]
    | cons c l =>
      rw [List.length_cons] at hl
      have hln := fun ln => (ih l (by omega) ln).1
      by_cases h10 : c = 10
      · subst h10
        have key : ∀ ln, tok (10 :: 13 :: 32 :: weave r false l) ln = tok (10 :: l) ln := by
          intro ln
          rw [tok_nl, tok_blank 13 _ _ rfl, tok_blank 32 _ _ rfl, tok_nl]
          exact hln _
        refine ⟨?_, ?_⟩
        · rw [weave_nl, tok_blank 32 _ _ rfl, tok_remark, drop_clean r _ hr]
          exact key ln
        · rw [weave_nl, List.dropWhile_cons, if_pos (by rfl), List.dropWhile_cons, if_pos (by rfl), drop_clean r _ hr, List.dropWhile_cons, if_neg (by simp)]
          exact key ln
      · have hB : tok ((weave r true (c :: l)).dropWhile (fun d => d != 10)) ln = tok ((c :: l).dropWhile (fun d => d != 10)) ln := by
          have e : weave r true (c :: l) = c :: weave r true l := by
            by_cases h35 : c = 35
            · subst h35
              exact weave_hash r true l
            · exact weave_other r true c l h10 h35
          rw [e, List.dropWhile_cons, if_pos (by simpa using h10), List.dropWhile_cons, if_pos (by simpa using h10)]
          exact (ih l (by omega) ln).2
        refine ⟨?_, hB⟩
        by_cases h35 : c = 35
        · subst h35
          rw [weave_hash, tok_remark, tok_remark]
          exact (ih l (by omega) ln).2
        · by_cases hb : isBlank c = true
          · rw [weave_other r false c l h10 h35, tok_blank c _ _ hb, tok_blank c _ _ hb]
            exact hln ln
          · by_cases hs : isSign c = true
            · rw [weave_other r false c l h10 h35, tok_sign c _ _ hs, tok_sign c _ _ hs, hln]
            · by_cases hp : isPart c = true
              · have hw := weave_part r (c :: l)
                have hd := part_drop c l hp
                have hi := (ih ((c :: l).dropWhile isPart) (by omega) ln).1
                rw [weave_other r false c l h10 h35] at hw ⊢
                rw [tok_part c _ _ hp, tok_part c _ _ hp, hw.1, hw.2, hi]
              · rw [weave_other r false c l h10 h35, tok_else c _ _ h10 (by simpa using hb) h35 (by simpa using hs) (by simpa using hp), tok_else c _ _ h10 (by simpa using hb) h35 (by simpa using hs) (by simpa using hp)]

theorem mid_length (r l : List Nat) : (mid r l).length ≤ l.length * (r.length + 6) := by
  induction l with
  | nil => simp [mid]
  | cons c l ih =>
    simp only [mid, List.length_cons, Nat.add_mul]
    split
    · simp only [List.length_cons, List.length_append]
      omega
    · simp only [List.length_cons]
      omega
theorem mid_append (r l m : List Nat) : mid r (l ++ m) = mid r l ++ mid r m := by
  induction l with
  | nil => rfl
  | cons c l ih =>
    simp only [List.cons_append, mid]
    split
    · simp [ih]
    · simp [ih]
theorem inF_append (b : Bool) (l m : List Nat) : inF b (l ++ m) = inF (inF b l) m := by
  induction l generalizing b with
  | nil => rfl
  | cons c l ih => exact ih _
end Go.Proofs.Ytjeegcfdhoiplaa.Pl
