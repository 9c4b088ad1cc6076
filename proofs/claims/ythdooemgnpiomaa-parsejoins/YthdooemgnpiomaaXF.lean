/- lex: the next token. -/
import Derived.Test.YthdooemgnpiomaaXE
namespace Go.Proofs.Ythdooemgnpiomaa
open Go.RowKit
namespace Pl

/-- The next token at the head of a list: its kind, how many octets it has, its error. -/
def nextP : List Nat → Nat × Nat × Int
  | [] => (0, 0, 32)
  | c :: r =>
    if isLetter c then (if 32 < ((c :: r).takeWhile isPart).length then (0, ((c :: r).takeWhile isPart).length, 31) else (1, ((c :: r).takeWhile isPart).length, 0))
    else if isDigit c then (if 9 < ((c :: r).takeWhile isDigit).length ∨ (1 < ((c :: r).takeWhile isDigit).length ∧ c = 48) ∨ seesB isJoin ((c :: r).dropWhile isDigit) = true then (0, ((c :: r).takeWhile isDigit).length, 4) else (2, ((c :: r).takeWhile isDigit).length, 0))
    else if isSign c then (3, 1, 0) else (0, 0, 32)

theorem digit_not (c : Nat) (h : isDigit c = true) : isLetter c = false := by
  simp only [isDigit, Bool.and_eq_true, decide_eq_true_eq] at h
  simp only [isLetter, Bool.or_eq_false_iff, Bool.and_eq_false_iff, decide_eq_false_iff_not]
  omega
theorem part_split (c : Nat) : isPart c = (isDigit c || isJoin c) := by simp [isPart, isJoin, Bool.or_assoc]

theorem take_while (p : Nat → Bool) (l : List Nat) : l.take (l.takeWhile p).length = l.takeWhile p := by
  induction l with
  | nil => rfl
  | cons c l ih =>
    rw [List.takeWhile_cons]
    split
    · rw [List.length_cons, List.take_succ_cons, ih]
    · rfl
theorem drop_while (p : Nat → Bool) (l : List Nat) : l.drop (l.takeWhile p).length = l.dropWhile p := by
  induction l with
  | nil => rfl
  | cons c l ih =>
    rw [List.takeWhile_cons, List.dropWhile_cons]
    split
    · rw [List.length_cons, List.drop_succ_cons, ih]
    · rfl

/-- Digits, and what goes on behind them. -/
theorem digits_part (l : List Nat) : (seesB isJoin (l.dropWhile isDigit) = false → l.takeWhile isPart = l.takeWhile isDigit ∧ (l.takeWhile isPart).all isDigit = true) ∧ (seesB isJoin (l.dropWhile isDigit) = true → (l.takeWhile isPart).all isDigit = false) := by
  induction l with
  | nil => simp [seesB]
  | cons c l ih =>
    rw [List.takeWhile_cons, List.dropWhile_cons, List.takeWhile_cons]
    by_cases hd : isDigit c = true
    · have hp : isPart c = true := by rw [part_split, hd]; rfl
      rw [if_pos hd, if_pos hd, if_pos hp]
      refine ⟨fun h => ?_, fun h => ?_⟩
      · obtain ⟨h1, h2⟩ := ih.1 h
        rw [h1] at h2 ⊢
        exact ⟨rfl, by rw [List.all_cons, hd, h2]; rfl⟩
      · rw [List.all_cons, hd, ih.2 h]; rfl
    · have hd' : isDigit c = false := by simpa using hd
      rw [if_neg hd, if_neg hd]
      simp only [seesB]
      refine ⟨fun h => ?_, fun h => ?_⟩
      · have hp : isPart c = false := by rw [part_split, hd', h]; rfl
        rw [if_neg (by simp [hp])]
        exact ⟨rfl, rfl⟩
      · have hp : isPart c = true := by rw [part_split, h, Bool.or_true]
        rw [if_pos hp, List.all_cons, hd']; rfl

/-- What the next token makes of the tokens. -/
def nextT (l : List Nat) (ln : Nat) (x : Nat × Nat × Int) : List Tok × Nat × Int := if x.2.2 = 0 then tokCons ⟨x.1, l.take x.2.1, ln⟩ (tok (l.drop x.2.1) ln) else ([], ln, x.2.2)

theorem next_tok (l : List Nat) (ln : Nat) (hs : Stop l) (hne : l ≠ []) : tok l ln = nextT l ln (nextP l) := by
  cases l with
  | nil => exact absurd rfl hne
  | cons c r =>
    obtain ⟨n1, n2, n3⟩ := hs
    simp only [nextP]
    by_cases hl : isLetter c = true
    · have hp : isPart c = true := by rw [part_split]; simp [isJoin, hl]
      rw [if_pos hl, tok_part c r ln hp]
      have hT : (c :: r).takeWhile isPart = c :: r.takeWhile isPart := by rw [List.takeWhile_cons, if_pos hp]
      have hw : wordE ((c :: r).takeWhile isPart) = if 32 < ((c :: r).takeWhile isPart).length then (1, 31) else (1, 0) := by
        rw [hT]
        simp only [wordE, if_pos hl]
      rw [hw]
      by_cases h32 : 32 < ((c :: r).takeWhile isPart).length
      · rw [if_pos h32, if_pos h32]
        rfl
      · rw [if_neg h32, if_neg h32]
        simp only [nextT, if_true]
        rw [take_while, drop_while]
    · rw [if_neg hl]
      have hl' : isLetter c = false := by simpa using hl
      by_cases hd : isDigit c = true
      · have hp : isPart c = true := by rw [part_split, hd]; rfl
        rw [if_pos hd, tok_part c r ln hp]
        have hT : (c :: r).takeWhile isPart = c :: r.takeWhile isPart := by rw [List.takeWhile_cons, if_pos hp]
        have hw : wordE ((c :: r).takeWhile isPart) = if (!((c :: r).takeWhile isPart).all isDigit) = true then (2, 4) else if 9 < ((c :: r).takeWhile isPart).length ∨ (c = 48 ∧ 1 < ((c :: r).takeWhile isPart).length) then (2, 4) else (2, 0) := by
          rw [hT]
          simp only [wordE, hl', Bool.false_eq_true, if_false, hd, Bool.not_true]
        rw [hw]
        have hdp := digits_part (c :: r)
        have hds := drop_while isPart (c :: r)
        cases hj : seesB isJoin ((c :: r).dropWhile isDigit) with
        | true =>
          rw [hdp.2 hj]
          simp [nextT]
        | false =>
          obtain ⟨h1, h2⟩ := hdp.1 hj
          rw [h2]
          rw [h1] at hds ⊢
          by_cases hc : 9 < ((c :: r).takeWhile isDigit).length ∨ (c = 48 ∧ 1 < ((c :: r).takeWhile isDigit).length)
          · have hc2 : 9 < ((c :: r).takeWhile isDigit).length ∨ (1 < ((c :: r).takeWhile isDigit).length ∧ c = 48) ∨ false = true := by
              rcases hc with h | h
              · exact .inl h
              · exact .inr (.inl ⟨h.2, h.1⟩)
            rw [if_pos hc, if_pos hc2]
            simp [nextT]
          · have hc2 : ¬ (9 < ((c :: r).takeWhile isDigit).length ∨ (1 < ((c :: r).takeWhile isDigit).length ∧ c = 48) ∨ false = true) := by
              rintro (h | h | h)
              · exact hc (.inl h)
              · exact hc (.inr ⟨h.2, h.1⟩)
              · cases h
            rw [if_neg hc, if_neg hc2]
            simp only [nextT, Bool.not_true, Bool.false_eq_true, if_false, if_true]
            rw [take_while, hds]
      · rw [if_neg hd]
        have hd' : isDigit c = false := by simpa using hd
        by_cases hsg : isSign c = true
        · rw [if_pos hsg, tok_sign c r ln hsg]
          simp [nextT]
        · rw [if_neg hsg]
          have hsg' : isSign c = false := by simpa using hsg
          by_cases h95 : c = 95
          · subst h95
            have hT : (95 :: r).takeWhile isPart = 95 :: r.takeWhile isPart := by rw [List.takeWhile_cons, if_pos (by rfl)]
            rw [tok_part 95 r ln rfl]
            have hw : wordE ((95 :: r).takeWhile isPart) = (0, 32) := by rw [hT]; rfl
            rw [hw]
            rfl
          · have hp : isPart c = false := by
              rw [part_split, hd']
              simp [isJoin, hl', h95]
            rw [tok_else c r ln n1 n2 n3 hsg' hp]
            rfl
end Pl

theorem extract_size (s : ByteArray) (a b : Nat) (h1 : a ≤ b) (h2 : b ≤ s.size) : (s.extract a b).size = b - a := by
  rw [ByteArray.size_extract]
  omega

def empty : ByteArray := { data := #[] }

set_option maxHeartbeats 1000000 in
theorem takeWord_any (n : Nat) (T : TypeId) (rest : List Value) (w : World) (s : ByteArray) (a l : Nat) (h : At n T rest w s a l) (ha : a ≤ s.size) (hsz : s.size ≤ 9223372036854775807) :
    Calls Try.prog 70 #[.pointer (some ⟨n, 0, none⟩)] w fun e w' => e = .returned (if 32 < (((bl s).drop a).takeWhile Pl.isPart).length then .tuple #[.int .i64 0, .string empty, .int .i64 31] else .tuple #[.int .i64 1, .string (s.extract a (endOf Pl.isPart s a)), .int .i64 0]) ∧ At n T rest w' s (endOf Pl.isPart s a) l ∧ w.grownBy w' (some n) := by
  have hE1 := endOf_le Pl.isPart s a ha
  have hE2 := endOf_ge Pl.isPart s a
  have hE3 : (((bl s).drop a).takeWhile Pl.isPart).length = endOf Pl.isPart s a - a := by unfold endOf; omega
  have hes := extract_size s a _ hE2 hE1
  rw [hE3]
  have htk := take_any n T rest w s a l h ha hsz _ _ _ (fits_part n w)
  clear hE3
  generalize endOf Pl.isPart s a = E at *
  by_cases h32 : 32 < E - a
  · rw [if_pos h32]
    go_enter Try.func70, Try.ntmps70
    go_wp2_with fail
    refine htk.mono ?_
    rintro e w2 ⟨rfl, hA2, hg2⟩
    have hsx : (32 : Int) < ((s.extract a E).size : Int) := by rw [hes]; omega
    clear hes
    generalize hxx : s.extract a E = x at hsx ⊢
    go_wp2
    go_returns
    subst hxx
    exact ⟨rfl, hA2, hg2⟩
  · rw [if_neg h32]
    go_enter Try.func70, Try.ntmps70
    go_wp2_with fail
    refine htk.mono ?_
    rintro e w2 ⟨rfl, hA2, hg2⟩
    have hsx : ¬ (32 : Int) < ((s.extract a E).size : Int) := by rw [hes]; omega
    clear hes
    generalize hxx : s.extract a E = x at hsx ⊢
    go_wp2
    go_returns
    subst hxx
    exact ⟨rfl, hA2, hg2⟩

/-- Why a number is none. -/
def badNum (l : List Nat) : Prop := 9 < (l.takeWhile Pl.isDigit).length ∨ (1 < (l.takeWhile Pl.isDigit).length ∧ l.head? = some 48) ∨ seesB isJoin (l.dropWhile Pl.isDigit) = true
instance (l : List Nat) : Decidable (badNum l) := inferInstanceAs (Decidable (_ ∨ _))

set_option maxHeartbeats 1000000 in
theorem takeNumber_any (n : Nat) (T : TypeId) (rest : List Value) (w : World) (s : ByteArray) (a l : Nat) (h : At n T rest w s a l) (ha : a ≤ s.size) (hsz : s.size ≤ 9223372036854775807) :
    Calls Try.prog 72 #[.pointer (some ⟨n, 0, none⟩)] w fun e w' => e = .returned (if badNum ((bl s).drop a) then .tuple #[.int .i64 0, .string empty, .int .i64 4] else .tuple #[.int .i64 2, .string (s.extract a (endOf Pl.isDigit s a)), .int .i64 0]) ∧ At n T rest w' s (endOf Pl.isDigit s a) l ∧ w.grownBy w' (some n) := by
  have hE1 := endOf_le Pl.isDigit s a ha
  have hE2 := endOf_ge Pl.isDigit s a
  have hE3 : (((bl s).drop a).takeWhile Pl.isDigit).length = endOf Pl.isDigit s a - a := by unfold endOf; omega
  have hE4 := drop_endOf Pl.isDigit s a
  have hes := extract_size s a _ hE2 hE1
  have htk := take_any n T rest w s a l h ha hsz _ _ _ (fits_digit n w)
  have hbad : badNum ((bl s).drop a) = (9 < endOf Pl.isDigit s a - a ∨ (1 < endOf Pl.isDigit s a - a ∧ ((bl s).drop a).head? = some 48) ∨ seesB isJoin ((bl s).drop (endOf Pl.isDigit s a)) = true) := by
    unfold badNum
    rw [hE3, ← hE4]
  have h0 : ∀ x, x = s.extract a (endOf Pl.isDigit s a) → (hx : 1 < x.size) → ((bl s).drop a).head? = some x[0].toNat := by
    intro x hx hlt
    have hlt2 : a < s.size := by rw [hx, hes] at hlt; omega
    rw [drop_at s a hlt2]
    subst hx
    simp [ByteArray.getElem_extract]
  by_cases hb : badNum ((bl s).drop a)
  · rw [if_pos hb]
    rw [hbad] at hb
    clear hbad hE3 hE4
    generalize endOf Pl.isDigit s a = E at *
    go_enter Try.func72, Try.ntmps72
    go_wp2_with fail
    refine htk.mono ?_
    rintro e w2 ⟨rfl, hA2, hg2⟩
    have hsee := sees_any n T rest w2 s E l hA2 hE1 _ _ _ (fits_join n w2)
    specialize h0 _ rfl
    generalize hxx : s.extract a E = x at hes h0 ⊢
    by_cases h9 : 9 < E - a
    · have hsx : (9 : Int) < (x.size : Int) := by rw [hes]; omega
      clear hes
      go_wp2
      go_returns
      subst hxx
      exact ⟨rfl, hA2, hg2⟩
    have h9x : ¬ (9 : Int) < (x.size : Int) := by rw [hes]; omega
    by_cases h1 : 1 < E - a
    · have h1x : (1 : Int) < (x.size : Int) := by rw [hes]; omega
      have hx0 : 0 < x.size := by omega
      have hx1 : (0 : Int) ≤ 0 ∧ (0 : Int) < (x.size : Int) := ⟨Int.le_refl _, by omega⟩
      have hh := h0 (by omega)
      by_cases h48 : (x[0]'hx0).toNat = 48
      · have hq : (((x[0]'hx0).toNat : Int) == 48) = true := by rw [h48]; rfl
        clear hh hes h48
        go_wp2
        go_returns
        subst hxx
        exact ⟨rfl, hA2, hg2⟩
      · have hq : (((x[0]'hx0).toNat : Int) == 48) = false := by simp; omega
        have hst : seesB isJoin ((bl s).drop E) = true := by
          rcases hb with hb | hb | hb
          · exact absurd hb h9
          · rw [hh] at hb
            exact absurd (Option.some.inj hb.2) h48
          · exact hb
        rw [hst] at hsee
        clear hh hes h48
        go_wp2_with (go_at_call 61; refine hsee.mono ?_; rintro e w3 ⟨rfl, m, rfl⟩)
        go_returns
        subst hxx
        exact ⟨rfl, hA2.drew m, hg2.trans (grown_drew w2 m _)⟩
    · have h1x : ¬ (1 : Int) < (x.size : Int) := by rw [hes]; omega
      have hst : seesB isJoin ((bl s).drop E) = true := by
        rcases hb with hb | hb | hb
        · exact absurd hb h9
        · exact absurd hb.1 h1
        · exact hb
      rw [hst] at hsee
      clear hes
      go_wp2_with (go_at_call 61; refine hsee.mono ?_; rintro e w3 ⟨rfl, m, rfl⟩)
      go_returns
      subst hxx
      exact ⟨rfl, hA2.drew m, hg2.trans (grown_drew w2 m _)⟩
  · rw [if_neg hb]
    rw [hbad] at hb
    clear hbad hE3 hE4
    generalize endOf Pl.isDigit s a = E at *
    go_enter Try.func72, Try.ntmps72
    go_wp2_with fail
    refine htk.mono ?_
    rintro e w2 ⟨rfl, hA2, hg2⟩
    have hsee := sees_any n T rest w2 s E l hA2 hE1 _ _ _ (fits_join n w2)
    specialize h0 _ rfl
    generalize hxx : s.extract a E = x at hes h0 ⊢
    have h9 : ¬ 9 < E - a := fun h => hb (.inl h)
    have h9x : ¬ (9 : Int) < (x.size : Int) := by rw [hes]; omega
    have hst : seesB isJoin ((bl s).drop E) = false := by
      cases hq : seesB isJoin ((bl s).drop E)
      · rfl
      · exact absurd (.inr (.inr hq)) hb
    rw [hst] at hsee
    by_cases h1 : 1 < E - a
    · have h1x : (1 : Int) < (x.size : Int) := by rw [hes]; omega
      have hx0 : 0 < x.size := by omega
      have hx1 : (0 : Int) ≤ 0 ∧ (0 : Int) < (x.size : Int) := ⟨Int.le_refl _, by omega⟩
      have hh := h0 (by omega)
      have h48 : ¬ (x[0]'hx0).toNat = 48 := fun h => hb (.inr (.inl ⟨h1, by rw [hh, h]⟩))
      have hq : (((x[0]'hx0).toNat : Int) == 48) = false := by simp; omega
      clear hh hes h48
      go_wp2_with (go_at_call 61; refine hsee.mono ?_; rintro e w3 ⟨rfl, m, rfl⟩)
      go_returns
      subst hxx
      exact ⟨rfl, hA2.drew m, hg2.trans (grown_drew w2 m _)⟩
    · have h1x : ¬ (1 : Int) < (x.size : Int) := by rw [hes]; omega
      clear hes
      go_wp2_with (go_at_call 61; refine hsee.mono ?_; rintro e w3 ⟨rfl, m, rfl⟩)
      go_returns
      subst hxx
      exact ⟨rfl, hA2.drew m, hg2.trans (grown_drew w2 m _)⟩
end Go.Proofs.Ythdooemgnpiomaa
