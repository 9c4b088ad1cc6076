/- lex: skip. lex: the next token. lex: the next token, read; strings.Clone. -/
import Derived.Test.YtmiohekmpjiloaaGreatDoorCutPut05
import Derived.Handy
namespace Go.Proofs.YtmiohekmpjiloaaGreatDoor
open Go.RowKit
set_option maxRecDepth 20000

theorem At.alloc {n : Nat} {T : TypeId} {rest : List Value} {w : World} {s : ByteArray} {a l : Nat} (h : At n T rest w s a l) (o : Obj) : At n T rest (w.alloc o) s a l := h.below ((Below.refl _ w).alloc (Nat.le_refl _) o)
theorem grown_alloc (w : World) (o : Obj) (row : Option Nat) : w.grownBy (w.alloc o) row := grown_below ((Below.refl _ w).alloc (Nat.le_refl _) o) row
theorem grown_drew (w : World) (m : Nat) (row : Option Nat) : w.grownBy (w.drewN m) row := grown_below (below_drewN (Below.refl _ _) m) row

end Go.Proofs.YtmiohekmpjiloaaGreatDoor

namespace Go.Proofs.YtmiohekmpjiloaaGreatDoor
open Go.RowKit
set_option maxRecDepth 20000
namespace Pl

/-- The next token at the head of a list: its kind, how many octets it has, its error. -/
def nextP : List Nat → Nat × Nat × Int
  | [] => (0, 0, 32)
  | c :: r =>
    if isLetter c then (if 32 < ((c :: r).takeWhile isPart).length then (0, ((c :: r).takeWhile isPart).length, 31) else (1, ((c :: r).takeWhile isPart).length, 0))
    else if isDigit c then (if 9 < ((c :: r).takeWhile isDigit).length ∨ (1 < ((c :: r).takeWhile isDigit).length ∧ c = 48) ∨ seesB isJoin ((c :: r).dropWhile isDigit) = true then (0, ((c :: r).takeWhile isDigit).length, 4) else (2, ((c :: r).takeWhile isDigit).length, 0))
    else if isSign c then (3, 1, 0) else (0, 0, 32)

theorem part_split (c : Nat) : isPart c = (isDigit c || isJoin c) := by simp [isPart, isJoin, Bool.or_assoc]

theorem take_while (p : Nat → Bool) (l : List Nat) : l.take (l.takeWhile p).length = l.takeWhile p := by
  induction l with
  | nil => rfl
  | cons c l ih =>
    rw [List.takeWhile_cons]
    split
    · rw [List.length_cons, List.take_succ_cons, ih]
    · rfl
end Pl

theorem extract_size (s : ByteArray) (a b : Nat) (h1 : a ≤ b) (h2 : b ≤ s.size) : (s.extract a b).size = b - a := by
  rw [ByteArray.size_extract]
  omega

def empty : ByteArray := { data := #[] }

set_option maxHeartbeats 1000000 in
theorem takeWord_any (n : Nat) (T : TypeId) (rest : List Value) (w : World) (s : ByteArray) (a l : Nat) (h : At n T rest w s a l) (ha : a ≤ s.size) (hsz : s.size ≤ 9223372036854775807) :
    Calls Tryz.prog 190 #[.pointer (some ⟨n, 0, none⟩)] w fun e w' => e = .returned (if 32 < (((bl s).drop a).takeWhile Pl.isPart).length then .tuple #[.int .i64 0, .string empty, .int .i64 31] else .tuple #[.int .i64 1, .string (s.extract a (endOf Pl.isPart s a)), .int .i64 0]) ∧ At n T rest w' s (endOf Pl.isPart s a) l ∧ w.grownBy w' (some n) := by
  have hE1 := endOf_le Pl.isPart s a ha
  have hE2 := endOf_ge Pl.isPart s a
  have hE3 : (((bl s).drop a).takeWhile Pl.isPart).length = endOf Pl.isPart s a - a := by unfold endOf; omega
  have hes := extract_size s a _ hE2 hE1
  rw [hE3]
  have htk := take_any n T rest w s a l h ha hsz _ _ _ (fits_part n w)
  clear hE3
  generalize endOf Pl.isPart s a = E at *
  by_cases h32 : 32 < E - a
  · rw [if_pos h32]
    go_enter Tryz.func190, Tryz.ntmps190
    go_wp2_with fail
    refine htk.mono ?_
    rintro e w2 ⟨rfl, hA2, hg2⟩
    have hsx : (32 : Int) < ((s.extract a E).size : Int) := by rw [hes]; omega
    clear hes
    generalize hxx : s.extract a E = x at hsx ⊢
    go_wp2
    go_returns
    subst hxx
    exact ⟨rfl, hA2, hg2⟩
  · rw [if_neg h32]
    go_enter Tryz.func190, Tryz.ntmps190
    go_wp2_with fail
    refine htk.mono ?_
    rintro e w2 ⟨rfl, hA2, hg2⟩
    have hsx : ¬ (32 : Int) < ((s.extract a E).size : Int) := by rw [hes]; omega
    clear hes
    generalize hxx : s.extract a E = x at hsx ⊢
    go_wp2
    go_returns
    subst hxx
    exact ⟨rfl, hA2, hg2⟩

/-- Why a number is none. -/
def badNum (l : List Nat) : Prop := 9 < (l.takeWhile Pl.isDigit).length ∨ (1 < (l.takeWhile Pl.isDigit).length ∧ l.head? = some 48) ∨ seesB isJoin (l.dropWhile Pl.isDigit) = true
instance (l : List Nat) : Decidable (badNum l) := inferInstanceAs (Decidable (_ ∨ _))

set_option maxHeartbeats 1000000 in
theorem takeNumber_any (n : Nat) (T : TypeId) (rest : List Value) (w : World) (s : ByteArray) (a l : Nat) (h : At n T rest w s a l) (ha : a ≤ s.size) (hsz : s.size ≤ 9223372036854775807) :
    Calls Tryz.prog 192 #[.pointer (some ⟨n, 0, none⟩)] w fun e w' => e = .returned (if badNum ((bl s).drop a) then .tuple #[.int .i64 0, .string empty, .int .i64 4] else .tuple #[.int .i64 2, .string (s.extract a (endOf Pl.isDigit s a)), .int .i64 0]) ∧ At n T rest w' s (endOf Pl.isDigit s a) l ∧ w.grownBy w' (some n) := by
  have hE1 := endOf_le Pl.isDigit s a ha
  have hE2 := endOf_ge Pl.isDigit s a
  have hE3 : (((bl s).drop a).takeWhile Pl.isDigit).length = endOf Pl.isDigit s a - a := by unfold endOf; omega
  have hE4 := drop_endOf Pl.isDigit s a
  have hes := extract_size s a _ hE2 hE1
  have htk := take_any n T rest w s a l h ha hsz _ _ _ (fits_digit n w)
  have hbad : badNum ((bl s).drop a) = (9 < endOf Pl.isDigit s a - a ∨ (1 < endOf Pl.isDigit s a - a ∧ ((bl s).drop a).head? = some 48) ∨ seesB isJoin ((bl s).drop (endOf Pl.isDigit s a)) = true) := by
    unfold badNum
    rw [hE3, ← hE4]
  have h0 : ∀ x, x = s.extract a (endOf Pl.isDigit s a) → (hx : 1 < x.size) → ((bl s).drop a).head? = some x[0].toNat := by
    intro x hx hlt
    have hlt2 : a < s.size := by rw [hx, hes] at hlt; omega
    rw [drop_at s a hlt2]
    subst hx
    simp [ByteArray.getElem_extract]
  by_cases hb : badNum ((bl s).drop a)
  · rw [if_pos hb]
    rw [hbad] at hb
    clear hbad hE3 hE4
    generalize endOf Pl.isDigit s a = E at *
    go_enter Tryz.func192, Tryz.ntmps192
    go_wp2_with fail
    refine htk.mono ?_
    rintro e w2 ⟨rfl, hA2, hg2⟩
    have hsee := sees_any n T rest w2 s E l hA2 hE1 _ _ _ (fits_join n w2)
    specialize h0 _ rfl
    generalize hxx : s.extract a E = x at hes h0 ⊢
    by_cases h9 : 9 < E - a
    · have hsx : (9 : Int) < (x.size : Int) := by rw [hes]; omega
      clear hes
      go_wp2
      go_returns
      subst hxx
      exact ⟨rfl, hA2, hg2⟩
    have h9x : ¬ (9 : Int) < (x.size : Int) := by rw [hes]; omega
    by_cases h1 : 1 < E - a
    · have h1x : (1 : Int) < (x.size : Int) := by rw [hes]; omega
      have hx0 : 0 < x.size := by omega
      have hx1 : (0 : Int) ≤ 0 ∧ (0 : Int) < (x.size : Int) := ⟨Int.le_refl _, by omega⟩
      have hh := h0 (by omega)
      by_cases h48 : (x[0]'hx0).toNat = 48
      · have hq : (((x[0]'hx0).toNat : Int) == 48) = true := by rw [h48]; rfl
        clear hh hes h48
        go_wp2
        go_returns
        subst hxx
        exact ⟨rfl, hA2, hg2⟩
      · have hq : (((x[0]'hx0).toNat : Int) == 48) = false := by simp; omega
        have hst : seesB isJoin ((bl s).drop E) = true := by
          rcases hb with hb | hb | hb
          · exact absurd hb h9
          · rw [hh] at hb
            exact absurd (Option.some.inj hb.2) h48
          · exact hb
        rw [hst] at hsee
        clear hh hes h48
        go_wp2_with (go_at_call 188; refine hsee.mono ?_; rintro e w3 ⟨rfl, m, rfl⟩)
        go_returns
        subst hxx
        exact ⟨rfl, hA2.drew m, hg2.trans (grown_drew w2 m _)⟩
    · have h1x : ¬ (1 : Int) < (x.size : Int) := by rw [hes]; omega
      have hst : seesB isJoin ((bl s).drop E) = true := by
        rcases hb with hb | hb | hb
        · exact absurd hb h9
        · exact absurd hb.1 h1
        · exact hb
      rw [hst] at hsee
      clear hes
      go_wp2_with (go_at_call 188; refine hsee.mono ?_; rintro e w3 ⟨rfl, m, rfl⟩)
      go_returns
      subst hxx
      exact ⟨rfl, hA2.drew m, hg2.trans (grown_drew w2 m _)⟩
  · rw [if_neg hb]
    rw [hbad] at hb
    clear hbad hE3 hE4
    generalize endOf Pl.isDigit s a = E at *
    go_enter Tryz.func192, Tryz.ntmps192
    go_wp2_with fail
    refine htk.mono ?_
    rintro e w2 ⟨rfl, hA2, hg2⟩
    have hsee := sees_any n T rest w2 s E l hA2 hE1 _ _ _ (fits_join n w2)
    specialize h0 _ rfl
    generalize hxx : s.extract a E = x at hes h0 ⊢
    have h9 : ¬ 9 < E - a := fun h => hb (.inl h)
    have h9x : ¬ (9 : Int) < (x.size : Int) := by rw [hes]; omega
    have hst : seesB isJoin ((bl s).drop E) = false := by
      cases hq : seesB isJoin ((bl s).drop E)
      · rfl
      · exact absurd (.inr (.inr hq)) hb
    rw [hst] at hsee
    by_cases h1 : 1 < E - a
    · have h1x : (1 : Int) < (x.size : Int) := by rw [hes]; omega
      have hx0 : 0 < x.size := by omega
      have hx1 : (0 : Int) ≤ 0 ∧ (0 : Int) < (x.size : Int) := ⟨Int.le_refl _, by omega⟩
      have hh := h0 (by omega)
      have h48 : ¬ (x[0]'hx0).toNat = 48 := fun h => hb (.inr (.inl ⟨h1, by rw [hh, h]⟩))
      have hq : (((x[0]'hx0).toNat : Int) == 48) = false := by simp; omega
      clear hh hes h48
      go_wp2_with (go_at_call 188; refine hsee.mono ?_; rintro e w3 ⟨rfl, m, rfl⟩)
      go_returns
      subst hxx
      exact ⟨rfl, hA2.drew m, hg2.trans (grown_drew w2 m _)⟩
    · have h1x : ¬ (1 : Int) < (x.size : Int) := by rw [hes]; omega
      clear hes
      go_wp2_with (go_at_call 188; refine hsee.mono ?_; rintro e w3 ⟨rfl, m, rfl⟩)
      go_returns
      subst hxx
      exact ⟨rfl, hA2.drew m, hg2.trans (grown_drew w2 m _)⟩
end Go.Proofs.YtmiohekmpjiloaaGreatDoor

namespace Go.Proofs.YtmiohekmpjiloaaGreatDoor
open Go.RowKit
set_option maxRecDepth 20000

theorem nextP_letter (D : List Nat) (h : seesB Pl.isLetter D = true) : Pl.nextP D = if 32 < (D.takeWhile Pl.isPart).length then (0, (D.takeWhile Pl.isPart).length, 31) else (1, (D.takeWhile Pl.isPart).length, 0) := by
  obtain ⟨c, r, rfl, hp⟩ := sees_true h
  simp only [Pl.nextP, if_pos hp]
theorem nextP_digit (D : List Nat) (h0 : seesB Pl.isLetter D = false) (h : seesB Pl.isDigit D = true) : Pl.nextP D = if badNum D then (0, (D.takeWhile Pl.isDigit).length, 4) else (2, (D.takeWhile Pl.isDigit).length, 0) := by
  obtain ⟨c, r, rfl, hp⟩ := sees_true h
  simp only [seesB] at h0
  simp only [Pl.nextP, h0, Bool.false_eq_true, if_false, if_pos hp, badNum, List.head?_cons, Option.some.injEq]
theorem nextP_sign (D : List Nat) (h0 : seesB Pl.isLetter D = false) (h1 : seesB Pl.isDigit D = false) (h : seesB Pl.isSign D = true) : Pl.nextP D = (3, 1, 0) := by
  obtain ⟨c, r, rfl, hp⟩ := sees_true h
  simp only [seesB] at h0 h1
  simp only [Pl.nextP, h0, h1, Bool.false_eq_true, if_false, if_pos hp]
theorem nextP_none (D : List Nat) (h0 : seesB Pl.isLetter D = false) (h1 : seesB Pl.isDigit D = false) (h : seesB Pl.isSign D = false) : Pl.nextP D = (0, 0, 32) := by
  cases D with
  | nil => rfl
  | cons c r =>
    simp only [seesB] at h0 h1 h
    simp only [Pl.nextP, h0, h1, h, Bool.false_eq_true, if_false]

/-- What next tells. -/
def nextV (s : ByteArray) (a : Nat) (x : Nat × Nat × Int) : Value := .tuple #[.int .i64 (x.1 : Int), .string (if x.2.2 = 0 then s.extract a (a + x.2.1) else empty), .int .i64 x.2.2]

set_option maxHeartbeats 2000000 in
set_option maxRecDepth 4000 in
theorem next_any (n : Nat) (T : TypeId) (rest : List Value) (w : World) (s : ByteArray) (a l : Nat) (h : At n T rest w s a l) (ha : a ≤ s.size) (hsz : s.size ≤ 9223372036854775807) :
    Calls Tryz.prog 181 #[.pointer (some ⟨n, 0, none⟩)] w fun e w' => e = .returned (nextV s a (Pl.nextP ((bl s).drop a))) ∧ At n T rest w' s (a + (Pl.nextP ((bl s).drop a)).2.1) l ∧ w.grownBy w' (some n) := by
  have hs1 := sees_any n T rest w s a l h ha _ _ _ (fits_letter n w)
  cases hb1 : seesB Pl.isLetter ((bl s).drop a) with
  | true =>
    have hN := nextP_letter _ hb1
    rw [hb1] at hs1
    have HV : ∀ w', At n T rest w' s (endOf Pl.isPart s a) l → (if 32 < (((bl s).drop a).takeWhile Pl.isPart).length then Value.tuple #[.int .i64 0, .string empty, .int .i64 31] else .tuple #[.int .i64 1, .string (s.extract a (endOf Pl.isPart s a)), .int .i64 0]) = nextV s a (Pl.nextP ((bl s).drop a)) ∧ At n T rest w' s (a + (Pl.nextP ((bl s).drop a)).2.1) l := by
      intro w' hw'
      rw [hN]
      by_cases h32 : 32 < (((bl s).drop a).takeWhile Pl.isPart).length
      · rw [if_pos h32, if_pos h32]
        exact ⟨rfl, hw'⟩
      · rw [if_neg h32, if_neg h32]
        exact ⟨rfl, hw'⟩
    clear hN
    generalize hR : (if 32 < (((bl s).drop a).takeWhile Pl.isPart).length then Value.tuple #[.int .i64 0, .string empty, .int .i64 31] else .tuple #[.int .i64 1, .string (s.extract a (endOf Pl.isPart s a)), .int .i64 0]) = R at HV
    have hRs : ∃ r0 r1 r2, R = .tuple #[r0, r1, r2] := by
      rw [← hR]
      split
      · exact ⟨_, _, _, rfl⟩
      · exact ⟨_, _, _, rfl⟩
    obtain ⟨r0, r1, r2, hRs⟩ := hRs
    have htw := fun m => takeWord_any n T rest (w.drewN m) s a l (h.drew m) ha hsz
    rw [hR, hRs] at htw
    rw [hRs] at HV
    clear hR hRs
    go_enter Tryz.func181, Tryz.ntmps181
    go_wp2_with fail
    refine hs1.mono ?_
    rintro e w1 ⟨rfl, m, rfl⟩
    go_wp2_with fail
    refine (htw m).mono ?_
    rintro e w2 ⟨rfl, hA2, hg2⟩
    go_wp2_with fail
    go_returns
    obtain ⟨hv1, hv2⟩ := HV w2 hA2
    refine ⟨?_, hv2, (grown_drew w m _).trans hg2⟩
    rw [← hv1]
    rfl
  | false =>
    rw [hb1] at hs1
    have hs2 := fun m => sees_any n T rest (w.drewN m) s a l (h.drew m) ha _ _ _ (fits_digit n (w.drewN m))
    cases hb2 : seesB Pl.isDigit ((bl s).drop a) with
    | true =>
      have hN := nextP_digit _ hb1 hb2
      rw [hb2] at hs2
      have HV : ∀ w', At n T rest w' s (endOf Pl.isDigit s a) l → (if badNum ((bl s).drop a) then Value.tuple #[.int .i64 0, .string empty, .int .i64 4] else .tuple #[.int .i64 2, .string (s.extract a (endOf Pl.isDigit s a)), .int .i64 0]) = nextV s a (Pl.nextP ((bl s).drop a)) ∧ At n T rest w' s (a + (Pl.nextP ((bl s).drop a)).2.1) l := by
        intro w' hw'
        rw [hN]
        by_cases h32 : badNum ((bl s).drop a)
        · rw [if_pos h32, if_pos h32]
          exact ⟨rfl, hw'⟩
        · rw [if_neg h32, if_neg h32]
          exact ⟨rfl, hw'⟩
      clear hN
      generalize hR : (if badNum ((bl s).drop a) then Value.tuple #[.int .i64 0, .string empty, .int .i64 4] else .tuple #[.int .i64 2, .string (s.extract a (endOf Pl.isDigit s a)), .int .i64 0]) = R at HV
      have hRs : ∃ r0 r1 r2, R = .tuple #[r0, r1, r2] := by
        rw [← hR]
        split
        · exact ⟨_, _, _, rfl⟩
        · exact ⟨_, _, _, rfl⟩
      obtain ⟨r0, r1, r2, hRs⟩ := hRs
      have htw := fun w' (h' : At n T rest w' s a l) => takeNumber_any n T rest w' s a l h' ha hsz
      rw [hR, hRs] at htw
      rw [hRs] at HV
      clear hR hRs
      go_enter Tryz.func181, Tryz.ntmps181
      go_wp2_with fail
      refine hs1.mono ?_
      rintro e w1 ⟨rfl, m, rfl⟩
      go_wp2_with fail
      refine (hs2 m).mono ?_
      rintro e w1 ⟨rfl, m2, rfl⟩
      go_wp2_with fail
      refine (htw _ (h.drew (m + m2))).mono ?_
      rintro e w2 ⟨rfl, hA2, hg2⟩
      go_wp2_with fail
      go_returns
      obtain ⟨hv1, hv2⟩ := HV w2 hA2
      refine ⟨?_, hv2, (grown_drew w (m + m2) _).trans hg2⟩
      rw [← hv1]
      rfl
    | false =>
      rw [hb2] at hs2
      have hlt := h.facts.2.2.2.2
      cases hb3 : seesB Pl.isSign ((bl s).drop a) with
      | true =>
        have hN := nextP_sign _ hb1 hb2 hb3
        rw [hN]
        have hlt3 := (endOf_step _ s a hb3).1
        go_enter Tryz.func181, Tryz.ntmps181
        go_wp2_with fail
        refine hs1.mono ?_
        rintro e w1 ⟨rfl, m, rfl⟩
        go_wp2_with fail
        refine (hs2 m).mono ?_
        rintro e w1 ⟨rfl, m2, rfl⟩
        have hA2 := (h.drew m).drew m2
        have hg2 := (grown_drew w m (some n)).trans (grown_drew _ m2 (some n))
        generalize (w.drewN m).drewN m2 = w2 at hA2 hg2 ⊢
        have hlt2 := hA2.facts.2.2.2.2
        go_wp2_with fail
        refine (oneOf_any _ _).mono ?_
        rintro e w3 ⟨rfl, rfl⟩
        have hA3 := hA2.alloc (.cells #[.string { data := #[123, 125, 40, 41, 91, 93, 59, 58, 44, 61, 63] }] 9)
        have hF3 := fits_set n w2 hlt2 { data := #[123, 125, 40, 41, 91, 93, 59, 58, 44, 61, 63] }
        rw [set_sign] at hF3
        have hg3 := hg2.trans (grown_alloc w2 (.cells #[.string { data := #[123, 125, 40, 41, 91, 93, 59, 58, 44, 61, 63] }] 9) (some n))
        generalize w2.alloc (.cells #[.string { data := #[123, 125, 40, 41, 91, 93, 59, 58, 44, 61, 63] }] 9) = w3 at hA3 hF3 hg3 ⊢
        have hsee := sees_any n T rest w3 s a l hA3 ha _ _ _ hF3
        rw [hb3] at hsee
        go_wp2_with fail
        refine hsee.mono ?_
        rintro e w4 ⟨rfl, m4, rfl⟩
        have hA4 := hA3.drew m4
        have hg4 := hg3.trans (grown_drew w3 m4 (some n))
        generalize w3.drewN m4 = w4 at hA4 hg4 ⊢
        have hA5 := hA4.step
        have hg5 := hg4.trans (grown_set w4 n 1 (.int .i64 ((a : Int) + 1)))
        obtain ⟨c0, c1, c2, hf, _⟩ := hA4.facts
        go_wp2_with fail
        generalize w4.setCell ⟨n, 1, none⟩ (.int .i64 ((a : Int) + 1)) = w5 at hA5 hg5 ⊢
        obtain ⟨d0, d1, d2, hfd, _⟩ := hA5.facts
        have hd1 : w5.cell? ⟨n, 1, none⟩ = some (.int .i64 ((a : Int) + 1)) := d1
        clear d1
        have hsub : (a : Int) + 1 - 1 = a := by omega
        have hto : ((a : Int) + 1).toNat = a + 1 := by omega
        go_quiet (fail)
        go_wp2
        go_returns
        exact ⟨rfl, hA5.drew nq, hg5.trans (grown_drew _ nq _)⟩
      | false =>
        have hN := nextP_none _ hb1 hb2 hb3
        rw [hN]
        go_enter Tryz.func181, Tryz.ntmps181
        go_wp2_with fail
        refine hs1.mono ?_
        rintro e w1 ⟨rfl, m, rfl⟩
        go_wp2_with fail
        refine (hs2 m).mono ?_
        rintro e w1 ⟨rfl, m2, rfl⟩
        have hA2 := (h.drew m).drew m2
        have hg2 := (grown_drew w m (some n)).trans (grown_drew _ m2 (some n))
        generalize (w.drewN m).drewN m2 = w2 at hA2 hg2 ⊢
        have hlt2 := hA2.facts.2.2.2.2
        go_wp2_with fail
        refine (oneOf_any _ _).mono ?_
        rintro e w3 ⟨rfl, rfl⟩
        have hA3 := hA2.alloc (.cells #[.string { data := #[123, 125, 40, 41, 91, 93, 59, 58, 44, 61, 63] }] 9)
        have hF3 := fits_set n w2 hlt2 { data := #[123, 125, 40, 41, 91, 93, 59, 58, 44, 61, 63] }
        rw [set_sign] at hF3
        have hg3 := hg2.trans (grown_alloc w2 (.cells #[.string { data := #[123, 125, 40, 41, 91, 93, 59, 58, 44, 61, 63] }] 9) (some n))
        generalize w2.alloc (.cells #[.string { data := #[123, 125, 40, 41, 91, 93, 59, 58, 44, 61, 63] }] 9) = w3 at hA3 hF3 hg3 ⊢
        have hsee := sees_any n T rest w3 s a l hA3 ha _ _ _ hF3
        rw [hb3] at hsee
        go_wp2_with fail
        refine hsee.mono ?_
        rintro e w4 ⟨rfl, m4, rfl⟩
        go_wp2_with fail
        go_returns
        exact ⟨rfl, hA3.drew m4, hg3.trans (grown_drew w3 m4 (some n))⟩
end Go.Proofs.YtmiohekmpjiloaaGreatDoor

