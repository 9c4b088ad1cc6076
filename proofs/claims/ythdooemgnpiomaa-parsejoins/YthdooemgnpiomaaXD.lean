/- lex: tokens of a list without a count; skip. -/
import Derived.Test.YthdooemgnpiomaaXC
namespace Go.Proofs.Ythdooemgnpiomaa
open Go.RowKit
namespace Pl

theorem dropWhile_le (p : Nat → Bool) (l : List Nat) : (l.dropWhile p).length ≤ l.length := by
  induction l with
  | nil => exact Nat.le_refl _
  | cons c l ih =>
    rw [List.dropWhile_cons]
    split
    · simp only [List.length_cons]; omega
    · exact Nat.le_refl _

theorem part_drop (c : Nat) (r : List Nat) (h : isPart c = true) : ((c :: r).dropWhile isPart).length ≤ r.length := by
  rw [List.dropWhile_cons, if_pos h]
  exact dropWhile_le _ _

theorem tok_fuel (f : Nat) : ∀ (g : Nat) (l : List Nat) (line : Nat), l.length < f → l.length < g → tokS f l line = tokS g l line := by
  induction f with
  | zero => intro g l line h; omega
  | succ f ih =>
    intro g l line hf hg
    cases g with
    | zero => omega
    | succ g =>
      cases l with
      | nil => rfl
      | cons c r =>
        rw [List.length_cons] at hf hg
        simp only [tokS]
        rw [ih g r (line + 1) (by omega) (by omega), ih g r line (by omega) (by omega), ih g (r.dropWhile (fun d => d != 10)) line (by have := dropWhile_le (fun d => d != 10) r; omega) (by have := dropWhile_le (fun d => d != 10) r; omega)]
        by_cases hp : isPart c = true
        · have hd := part_drop c r hp
          rw [ih g ((c :: r).dropWhile isPart) line (by omega) (by omega)]
        · simp only [hp, Bool.false_eq_true, if_false]

/-- The tokens of a list. -/
def tok (l : List Nat) (line : Nat) : List Tok × Nat × Int := tokS (l.length + 1) l line

theorem tok_of (f : Nat) (l : List Nat) (line : Nat) (h : l.length < f) : tokS f l line = tok l line := tok_fuel f _ l line h (by omega)
theorem tok_nil (line : Nat) : tok [] line = ([], 0, 0) := rfl
theorem tok_nl (r : List Nat) (line : Nat) : tok (10 :: r) line = tok r (line + 1) := by
  unfold tok
  rw [List.length_cons]
  simp only [tokS, if_true]
theorem tok_blank (c : Nat) (r : List Nat) (line : Nat) (h : isBlank c = true) : tok (c :: r) line = tok r line := by
  have h1 : c ≠ 10 := by rintro rfl; simp [isBlank] at h
  unfold tok
  rw [List.length_cons]
  simp only [tokS, if_neg h1, if_pos h]
theorem tok_remark (r : List Nat) (line : Nat) : tok (35 :: r) line = tok (r.dropWhile (fun d => d != 10)) line := by
  have hd := dropWhile_le (fun d => d != 10) r
  have h1 : tok (35 :: r) line = tokS (r.length + 1) (r.dropWhile (fun d => d != 10)) line := by
    unfold tok
    rw [List.length_cons]
    simp [tokS, isBlank]
  rw [h1]
  exact tok_of _ _ _ (by omega)
theorem tok_sign (c : Nat) (r : List Nat) (line : Nat) (h : isSign c = true) : tok (c :: r) line = tokCons ⟨3, [c], line⟩ (tok r line) := by
  obtain ⟨n1, n2, n3⟩ := sign_not c h
  unfold tok
  rw [List.length_cons]
  simp only [tokS]
  rw [if_neg n1, if_neg (by simp [n2]), if_neg n3, if_pos h]
theorem tok_part (c : Nat) (r : List Nat) (line : Nat) (h : isPart c = true) : tok (c :: r) line =
    if (wordE ((c :: r).takeWhile isPart)).2 = 0 then tokCons ⟨(wordE ((c :: r).takeWhile isPart)).1, (c :: r).takeWhile isPart, line⟩ (tok ((c :: r).dropWhile isPart) line)
       else ([], line, (wordE ((c :: r).takeWhile isPart)).2) := by
  obtain ⟨n1, n2, n3, n4⟩ := part_not c h
  have hd := part_drop c r h
  rw [← tok_of (r.length + 1) ((c :: r).dropWhile isPart) line (by omega)]
  unfold tok
  rw [List.length_cons]
  simp only [tokS]
  rw [if_neg n1, if_neg (by simp [n2]), if_neg n3, if_neg (by simp [n4]), if_pos h]
theorem tok_else (c : Nat) (r : List Nat) (line : Nat) (h1 : c ≠ 10) (h2 : isBlank c = false) (h3 : c ≠ 35) (h4 : isSign c = false) (h5 : isPart c = false) : tok (c :: r) line = ([], line, 32) := by
  unfold tok
  rw [List.length_cons]
  simp only [tokS]
  rw [if_neg h1, if_neg (by simp [h2]), if_neg h3, if_neg (by simp [h4]), if_neg (by simp [h5])]

theorem tok_blanks (l : List Nat) (line : Nat) : tok l line = tok (l.dropWhile isBlank) line := by
  induction l with
  | nil => rfl
  | cons c r ih =>
    rw [List.dropWhile_cons]
    by_cases h : isBlank c = true
    · rw [if_pos h, tok_blank c r line h]
      exact ih
    · rw [if_neg h]
end Pl

theorem drop_endOf (p : Nat → Bool) (s : ByteArray) (a : Nat) : (bl s).drop (endOf p s a) = ((bl s).drop a).dropWhile p := by
  unfold endOf
  rw [← List.drop_drop]
  generalize (bl s).drop a = l
  induction l with
  | nil => rfl
  | cons c l ih =>
    rw [List.takeWhile_cons, List.dropWhile_cons]
    split
    · rw [List.length_cons, List.drop_succ_cons]
      exact ih
    · rfl

theorem set_blank : oneOf (bl { data := #[32, 9, 13] }) = Pl.isBlank := by
  funext c
  show [32, 9, 13].contains c = Pl.isBlank c
  simp only [List.contains_cons, List.contains_nil, Bool.or_false, Pl.isBlank, Bool.or_assoc]
theorem set_hash (c : Nat) : oneOf (bl { data := #[35] }) c = (c == 35) := by
  show [35].contains c = (c == 35)
  simp only [List.contains_cons, List.contains_nil, Bool.or_false]
theorem set_nl (c : Nat) : oneOf (bl { data := #[10] }) c = (c == 10) := by
  show [10].contains c = (c == 10)
  simp only [List.contains_cons, List.contains_nil, Bool.or_false]
theorem set_sign : oneOf (bl { data := #[123, 125, 40, 41, 91, 93, 59, 58, 44, 61, 63] }) = Pl.isSign := rfl

/-- What begins a token, or is a fault. -/
def Stop (l : List Nat) : Prop := match l with | [] => True | c :: _ => c ≠ 10 ∧ Pl.isBlank c = false ∧ c ≠ 35

theorem head_dropWhile (p : Nat → Bool) (l : List Nat) : match l.dropWhile p with | [] => True | c :: _ => p c = false := by
  induction l with
  | nil => trivial
  | cons c l ih =>
    rw [List.dropWhile_cons]
    by_cases h : p c = true
    · rw [if_pos h]; exact ih
    · rw [if_neg h]
      simpa using h

theorem sees_true {p : Nat → Bool} {l : List Nat} (h : seesB p l = true) : ∃ c r, l = c :: r ∧ p c = true := by
  cases l with
  | nil => simp [seesB] at h
  | cons c r => exact ⟨c, r, rfl, h⟩

/-- One step of skip ahead of its last test: blanks, then a remark. -/
theorem skip_two (s : ByteArray) (k ln : Nat) (hb : seesB (oneOf (bl { data := #[35] })) ((bl s).drop (endOf Pl.isBlank s k)) = true) :
    Pl.tok ((bl s).drop k) ln = Pl.tok ((bl s).drop (endOf notNl s (endOf Pl.isBlank s k))) ln := by
  rw [Pl.tok_blanks, ← drop_endOf]
  obtain ⟨c, r, hc, hp⟩ := sees_true hb
  rw [set_hash] at hp
  obtain rfl : c = 35 := by simpa using hp
  rw [drop_endOf notNl, hc, Pl.tok_remark, List.dropWhile_cons, if_pos (by rfl)]
  rfl
theorem skip_one (s : ByteArray) (k ln : Nat) : Pl.tok ((bl s).drop k) ln = Pl.tok ((bl s).drop (endOf Pl.isBlank s k)) ln := by
  rw [Pl.tok_blanks, ← drop_endOf]
theorem skip_nl (s : ByteArray) (k ln : Nat) (hb : seesB (oneOf (bl { data := #[10] })) ((bl s).drop k) = true) : k < s.size ∧ Pl.tok ((bl s).drop k) ln = Pl.tok ((bl s).drop (k + 1)) (ln + 1) := by
  have hlt := (endOf_step _ s k hb).1
  refine ⟨hlt, ?_⟩
  obtain ⟨c, r, hc, hp⟩ := sees_true hb
  rw [set_nl] at hp
  obtain rfl : c = 10 := by simpa using hp
  have hd := drop_at s k hlt
  rw [hc] at hd
  obtain ⟨_, h2⟩ := List.cons.inj hd
  rw [hc, Pl.tok_nl, h2]

theorem stop_one (s : ByteArray) (k : Nat) (hb : seesB (oneOf (bl { data := #[35] })) ((bl s).drop (endOf Pl.isBlank s k)) = false) (hn : seesB (oneOf (bl { data := #[10] })) ((bl s).drop (endOf Pl.isBlank s k)) = false) : Stop ((bl s).drop (endOf Pl.isBlank s k)) := by
  have h := head_dropWhile Pl.isBlank ((bl s).drop k)
  rw [← drop_endOf] at h
  cases hd : (bl s).drop (endOf Pl.isBlank s k) with
  | nil => trivial
  | cons c r =>
    rw [hd] at h hb hn
    simp only [seesB, set_hash, set_nl] at h hb hn
    exact ⟨by simpa using hn, h, by simpa using hb⟩
theorem stop_two (s : ByteArray) (k : Nat) (hn : seesB (oneOf (bl { data := #[10] })) ((bl s).drop (endOf notNl s k)) = false) : Stop ((bl s).drop (endOf notNl s k)) := by
  have h := head_dropWhile notNl ((bl s).drop k)
  rw [← drop_endOf] at h
  cases hd : (bl s).drop (endOf notNl s k) with
  | nil => trivial
  | cons c r =>
    rw [hd] at h hn
    simp only [seesB, set_nl] at h hn
    exfalso
    unfold notNl at h
    simp at h hn
    exact hn h
end Go.Proofs.Ythdooemgnpiomaa
