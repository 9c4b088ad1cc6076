/- Texts as tokens: read, and printed; tokens come back from their text. -/
import Derived.Below
namespace Go.Proofs.YtmiohekmpjiloaaGreatDoor.Pl

structure Tok where
  kind : Nat
  text : List Nat
  line : Nat
deriving DecidableEq

def isDigit (c : Nat) : Bool := decide (48 ≤ c) && decide (c ≤ 57)
def isLetter (c : Nat) : Bool := (decide (97 ≤ c) && decide (c ≤ 122)) || (decide (65 ≤ c) && decide (c ≤ 90))
def isPart (c : Nat) : Bool := isDigit c || isLetter c || c == 95
def isSign (c : Nat) : Bool := [123, 125, 40, 41, 91, 93, 59, 58, 44, 61, 63].contains c
def isBlank (c : Nat) : Bool := c == 32 || c == 9 || c == 13

/-- The kind and the error of letters, digits and _. -/
def wordE (t : List Nat) : Nat × Int :=
  match t with
  | [] => (0, 32)
  | c :: r =>
    if isLetter c then (if 32 < (c :: r).length then (1, 31) else (1, 0))
    else if !isDigit c then (0, 32)
    else if !(c :: r).all isDigit then (2, 4)
    else if 9 < (c :: r).length ∨ (c = 48 ∧ 1 < (c :: r).length) then (2, 4)
    else (2, 0)

def tokCons (t : Tok) (x : List Tok × Nat × Int) : List Tok × Nat × Int := if x.2.2 = 0 then (t :: x.1, 0, 0) else ([], x.2)

def tokS : Nat → List Nat → Nat → List Tok × Nat × Int
  | 0, _, _ => ([], 0, 0)
  | _ + 1, [], _ => ([], 0, 0)
  | f + 1, c :: r, line =>
    if c = 10 then tokS f r (line + 1)
    else if isBlank c then tokS f r line
    else if c = 35 then tokS f (r.dropWhile (fun d => d != 10)) line
    else if isSign c then tokCons ⟨3, [c], line⟩ (tokS f r line)
    else if isPart c then
      (if (wordE ((c :: r).takeWhile isPart)).2 = 0 then tokCons ⟨(wordE ((c :: r).takeWhile isPart)).1, (c :: r).takeWhile isPart, line⟩ (tokS f ((c :: r).dropWhile isPart) line)
       else ([], line, (wordE ((c :: r).takeWhile isPart)).2))
    else ([], line, 32)

/-- A token that may be, but for its line. -/
def okTok (t : Tok) : Prop := (t.kind = 3 ∧ ∃ c, t.text = [c] ∧ isSign c = true) ∨ (t.text ≠ [] ∧ (∀ c ∈ t.text, isPart c = true) ∧ wordE t.text = (t.kind, 0))

theorem sign_not (c : Nat) (h : isSign c = true) : c ≠ 10 ∧ isBlank c = false ∧ c ≠ 35 := by
  simp only [isSign, List.contains_eq_mem, List.mem_cons, List.not_mem_nil, or_false, decide_eq_true_eq] at h
  refine ⟨by omega, ?_, by omega⟩
  simp [isBlank]
  omega
theorem part_not (c : Nat) (h : isPart c = true) : c ≠ 10 ∧ isBlank c = false ∧ c ≠ 35 ∧ isSign c = false := by
  simp only [isPart, isDigit, isLetter, Bool.or_eq_true, Bool.and_eq_true, decide_eq_true_eq, beq_iff_eq] at h
  refine ⟨by omega, ?_, by omega, ?_⟩
  · simp [isBlank]
    omega
  · simp only [isSign, List.contains_eq_mem, List.mem_cons, List.not_mem_nil, or_false, decide_eq_false_iff_not]
    omega

theorem takeWhile_sep (t : List Nat) (c : Nat) (r : List Nat) (h : ∀ d ∈ t, isPart d = true) (hc : isPart c = false) : (t ++ c :: r).takeWhile isPart = t ∧ (t ++ c :: r).dropWhile isPart = c :: r := by
  induction t with
  | nil => simp [hc]
  | cons d t ih =>
    have h1 := ih (fun e he => h e (by simp [he]))
    have h2 := h d (by simp)
    simp [h2, h1.1, h1.2]

end Go.Proofs.YtmiohekmpjiloaaGreatDoor.Pl

