/- Texts as tokens: read, and printed; tokens come back from their text. -/
import Derived.Below
namespace Go.Proofs.YtmiohekmpjiloaaGreatDoor.Pl

structure Tok where
  kind : Nat
  text : List Nat
  line : Nat
deriving DecidableEq

def isDigit (c : Nat) : Bool := decide (48 ≤ c) && decide (c ≤ 57)
def isLetter (c : Nat) : Bool := (decide (97 ≤ c) && decide (c ≤ 122)) || (decide (65 ≤ c) && decide (c ≤ 90))
def isPart (c : Nat) : Bool := isDigit c || isLetter c || c == 95
def isSign (c : Nat) : Bool := [123, 125, 40, 41, 91, 93, 59, 58, 44, 61, 63].contains c
def isBlank (c : Nat) : Bool := c == 32 || c == 9 || c == 13

/-- The kind and the error of letters, digits and _. -/
def wordE (t : List Nat) : Nat × Int :=
  match t with
  | [] => (0, 32)
  | c :: r =>
    if isLetter c then (if 32 < (c :: r).length then (1, 31) else (1, 0))
    else if !isDigit c then (0, 32)
    else if !(c :: r).all isDigit then (2, 4)
    else if 9 < (c :: r).length ∨ (c = 48 ∧ 1 < (c :: r).length) then (2, 4)
    else (2, 0)

def tokCons (t : Tok) (x : List Tok × Nat × Int) : List Tok × Nat × Int := if x.2.2 = 0 then (t :: x.1, 0, 0) else ([], x.2)

def tokS : Nat → List Nat → Nat → List Tok × Nat × Int
  | 0, _, _ => ([], 0, 0)
  | _ + 1, [], _ => ([], 0, 0)
  | f + 1, c :: r, line =>
    if c = 10 then tokS f r (line + 1)
    else if isBlank c then tokS f r line
    else if c = 35 then tokS f (r.dropWhile (fun d => d != 10)) line
    else if isSign c then tokCons ⟨3, [c], line⟩ (tokS f r line)
    else if isPart c then
      (if (wordE ((c :: r).takeWhile isPart)).2 = 0 then tokCons ⟨(wordE ((c :: r).takeWhile isPart)).1, (c :: r).takeWhile isPart, line⟩ (tokS f ((c :: r).dropWhile isPart) line)
       else ([], line, (wordE ((c :: r).takeWhile isPart)).2))
    else ([], line, 32)

/-- A token that may be, but for its line. -/
def okTok (t : Tok) : Prop := (t.kind = 3 ∧ ∃ c, t.text = [c] ∧ isSign c = true) ∨ (t.text ≠ [] ∧ (∀ c ∈ t.text, isPart c = true) ∧ wordE t.text = (t.kind, 0))

def printS : Nat → Bool → List Tok → List Nat
  | _, first, [] => if first then [] else [10]
  | line, first, t :: r => (if t.line = line ∧ first = false then [32] else []) ++ List.replicate (t.line - line) 10 ++ t.text ++ printS t.line false r

/-- Lines do not fall. -/
def rises : Nat → List Tok → Prop
  | _, [] => True
  | line, t :: r => line ≤ t.line ∧ rises t.line r

theorem sign_not (c : Nat) (h : isSign c = true) : c ≠ 10 ∧ isBlank c = false ∧ c ≠ 35 := by
  simp only [isSign, List.contains_eq_mem, List.mem_cons, List.not_mem_nil, or_false, decide_eq_true_eq] at h
  refine ⟨by omega, ?_, by omega⟩
  simp [isBlank]
  omega
theorem part_not (c : Nat) (h : isPart c = true) : c ≠ 10 ∧ isBlank c = false ∧ c ≠ 35 ∧ isSign c = false := by
  simp only [isPart, isDigit, isLetter, Bool.or_eq_true, Bool.and_eq_true, decide_eq_true_eq, beq_iff_eq] at h
  refine ⟨by omega, ?_, by omega, ?_⟩
  · simp [isBlank]
    omega
  · simp only [isSign, List.contains_eq_mem, List.mem_cons, List.not_mem_nil, or_false, decide_eq_false_iff_not]
    omega

/-- What stands behind a token in its text begins with a blank or a newline. -/
theorem print_head (line : Nat) (l : List Tok) (hr : rises line l) : ∃ c r, printS line false l = c :: r ∧ (c = 32 ∨ c = 10) := by
  cases l with
  | nil => exact ⟨10, [], rfl, .inr rfl⟩
  | cons t r =>
    simp only [printS]
    by_cases h : t.line = line
    · rw [if_pos ⟨h, by first | trivial | rfl⟩]
      exact ⟨32, _, rfl, .inl rfl⟩
    · have h1 := hr.1
      obtain ⟨m, hm⟩ : ∃ m, t.line - line = m + 1 := ⟨t.line - line - 1, by omega⟩
      rw [if_neg (fun h' => h h'.1), hm, List.replicate_succ]
      exact ⟨10, _, rfl, .inr rfl⟩

theorem tok_newlines (f m : Nat) (r : List Nat) (line : Nat) : tokS (f + m) (List.replicate m 10 ++ r) line = tokS f r (line + m) := by
  induction m generalizing line with
  | zero => simp
  | succ m ih =>
    rw [List.replicate_succ, List.cons_append, ← Nat.add_assoc]
    simp only [tokS, if_true]
    rw [ih, show line + 1 + m = line + (m + 1) by omega]

theorem takeWhile_sep (t : List Nat) (c : Nat) (r : List Nat) (h : ∀ d ∈ t, isPart d = true) (hc : isPart c = false) : (t ++ c :: r).takeWhile isPart = t ∧ (t ++ c :: r).dropWhile isPart = c :: r := by
  induction t with
  | nil => simp [hc]
  | cons d t ih =>
    have h1 := ih (fun e he => h e (by simp [he]))
    have h2 := h d (by simp)
    simp [h2, h1.1, h1.2]

theorem tok_one (f : Nat) (t : Tok) (c : Nat) (r : List Nat) (h : okTok t) (hc : c = 32 ∨ c = 10) : tokS (f + 1) (t.text ++ c :: r) t.line = tokCons t (tokS f (c :: r) t.line) := by
  have hcp : isPart c = false := by rcases hc with rfl | rfl <;> rfl
  obtain ⟨k, x, ln⟩ := t
  rcases h with ⟨h1, d, h2, h3⟩ | ⟨h1, h2, h3⟩
  · simp only at h1 h2
    subst h1 h2
    obtain ⟨n1, n2, n3⟩ := sign_not d h3
    simp only [List.cons_append, List.nil_append, tokS]
    rw [if_neg n1, if_neg (by simp [n2]), if_neg n3, if_pos h3]
  · simp only at h1 h2 h3
    cases x with
    | nil => exact absurd rfl h1
    | cons d x =>
      obtain ⟨n1, n2, n3, n4⟩ := part_not d (h2 d (by simp))
      obtain ⟨s1, s2⟩ := takeWhile_sep (d :: x) c r h2 hcp
      rw [List.cons_append] at s1 s2 ⊢
      simp only [tokS]
      rw [if_neg n1, if_neg (by simp [n2]), if_neg n3, if_neg (by simp [n4]), if_pos (h2 d (by simp)), s1, s2, h3]
      simp

/-- Tokens come back from their text. -/
theorem tok_print (l : List Tok) (line f : Nat) (first : Bool) (ho : ∀ t ∈ l, okTok t) (hr : rises line l) (hf : (printS line first l).length < f) : tokS f (printS line first l) line = (l, 0, 0) := by
  induction l generalizing line f first with
  | nil =>
    cases f with
    | zero => omega
    | succ f =>
      cases first with
      | true => rfl
      | false =>
        simp only [printS, Bool.false_eq_true, if_false, tokS, if_true]
        cases f <;> rfl
  | cons t l ih =>
    have h1 := hr.1
    have hok := ho t (by simp)
    obtain ⟨c, r, hcr, hc⟩ := print_head t.line l hr.2
    have hi := fun g hg => ih t.line g false (fun u hu => ho u (by simp [hu])) hr.2 hg
    have main : ∀ g, (t.text ++ printS t.line false l).length < g → tokS g (t.text ++ printS t.line false l) t.line = (t :: l, 0, 0) := by
      intro g hg
      cases g with
      | zero => omega
      | succ g =>
        rw [hcr, tok_one g t c r hok hc, ← hcr]
        have htl : 1 ≤ t.text.length := by
          rcases hok with ⟨_, d, h2, _⟩ | ⟨h2, _⟩
          · rw [h2]
            simp
          · cases ht : t.text with
            | nil => exact absurd ht h2
            | cons a b => simp
        rw [hi g (by rw [List.length_append] at hg; omega)]
        rfl
    simp only [printS] at hf ⊢
    by_cases he : t.line = line ∧ first = false
    · rw [if_pos he] at hf ⊢
      rw [show t.line - line = 0 by omega] at hf ⊢
      simp only [List.replicate_zero, List.append_nil, List.cons_append, List.nil_append, List.length_cons] at hf ⊢
      cases f with
      | zero => omega
      | succ f =>
        simp only [tokS]
        rw [if_neg (by decide), if_pos (by rfl), ← he.1]
        exact main f (by omega)
    · rw [if_neg he] at hf ⊢
      simp only [List.nil_append, List.append_assoc, List.length_append, List.length_replicate] at hf ⊢
      obtain ⟨g, rfl⟩ : ∃ g, f = g + (t.line - line) := ⟨f - (t.line - line), by omega⟩
      rw [tok_newlines, show line + (t.line - line) = t.line by omega]
      exact main g (by rw [List.length_append]; omega)
end Go.Proofs.YtmiohekmpjiloaaGreatDoor.Pl

