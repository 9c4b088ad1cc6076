/- lex: the next token, read; strings.Clone. -/
import Derived.Test.YthdooemgnpiomaaXF
namespace Go.Proofs.Ythdooemgnpiomaa
open Go.RowKit

theorem nextP_letter (D : List Nat) (h : seesB Pl.isLetter D = true) : Pl.nextP D = if 32 < (D.takeWhile Pl.isPart).length then (0, (D.takeWhile Pl.isPart).length, 31) else (1, (D.takeWhile Pl.isPart).length, 0) := by
  obtain ⟨c, r, rfl, hp⟩ := sees_true h
  simp only [Pl.nextP, if_pos hp]
theorem nextP_digit (D : List Nat) (h0 : seesB Pl.isLetter D = false) (h : seesB Pl.isDigit D = true) : Pl.nextP D = if badNum D then (0, (D.takeWhile Pl.isDigit).length, 4) else (2, (D.takeWhile Pl.isDigit).length, 0) := by
  obtain ⟨c, r, rfl, hp⟩ := sees_true h
  simp only [seesB] at h0
  simp only [Pl.nextP, h0, Bool.false_eq_true, if_false, if_pos hp, badNum, List.head?_cons, Option.some.injEq]
theorem nextP_sign (D : List Nat) (h0 : seesB Pl.isLetter D = false) (h1 : seesB Pl.isDigit D = false) (h : seesB Pl.isSign D = true) : Pl.nextP D = (3, 1, 0) := by
  obtain ⟨c, r, rfl, hp⟩ := sees_true h
  simp only [seesB] at h0 h1
  simp only [Pl.nextP, h0, h1, Bool.false_eq_true, if_false, if_pos hp]
theorem nextP_none (D : List Nat) (h0 : seesB Pl.isLetter D = false) (h1 : seesB Pl.isDigit D = false) (h : seesB Pl.isSign D = false) : Pl.nextP D = (0, 0, 32) := by
  cases D with
  | nil => rfl
  | cons c r =>
    simp only [seesB] at h0 h1 h
    simp only [Pl.nextP, h0, h1, h, Bool.false_eq_true, if_false]

/-- What next tells. -/
def nextV (s : ByteArray) (a : Nat) (x : Nat × Nat × Int) : Value := .tuple #[.int .i64 (x.1 : Int), .string (if x.2.2 = 0 then s.extract a (a + x.2.1) else empty), .int .i64 x.2.2]

set_option maxHeartbeats 2000000 in
set_option maxRecDepth 4000 in
theorem next_any (n : Nat) (T : TypeId) (rest : List Value) (w : World) (s : ByteArray) (a l : Nat) (h : At n T rest w s a l) (ha : a ≤ s.size) (hsz : s.size ≤ 9223372036854775807) :
    Calls Try.prog 44 #[.pointer (some ⟨n, 0, none⟩)] w fun e w' => e = .returned (nextV s a (Pl.nextP ((bl s).drop a))) ∧ At n T rest w' s (a + (Pl.nextP ((bl s).drop a)).2.1) l ∧ w.grownBy w' (some n) := by
  have hs1 := sees_any n T rest w s a l h ha _ _ _ (fits_letter n w)
  cases hb1 : seesB Pl.isLetter ((bl s).drop a) with
  | true =>
    have hN := nextP_letter _ hb1
    rw [hb1] at hs1
    have HV : ∀ w', At n T rest w' s (endOf Pl.isPart s a) l → (if 32 < (((bl s).drop a).takeWhile Pl.isPart).length then Value.tuple #[.int .i64 0, .string empty, .int .i64 31] else .tuple #[.int .i64 1, .string (s.extract a (endOf Pl.isPart s a)), .int .i64 0]) = nextV s a (Pl.nextP ((bl s).drop a)) ∧ At n T rest w' s (a + (Pl.nextP ((bl s).drop a)).2.1) l := by
      intro w' hw'
      rw [hN]
      by_cases h32 : 32 < (((bl s).drop a).takeWhile Pl.isPart).length
      · rw [if_pos h32, if_pos h32]
        exact ⟨rfl, hw'⟩
      · rw [if_neg h32, if_neg h32]
        exact ⟨rfl, hw'⟩
    clear hN
    generalize hR : (if 32 < (((bl s).drop a).takeWhile Pl.isPart).length then Value.tuple #[.int .i64 0, .string empty, .int .i64 31] else .tuple #[.int .i64 1, .string (s.extract a (endOf Pl.isPart s a)), .int .i64 0]) = R at HV
    have hRs : ∃ r0 r1 r2, R = .tuple #[r0, r1, r2] := by
      rw [← hR]
      split
      · exact ⟨_, _, _, rfl⟩
      · exact ⟨_, _, _, rfl⟩
    obtain ⟨r0, r1, r2, hRs⟩ := hRs
    have htw := fun m => takeWord_any n T rest (w.drewN m) s a l (h.drew m) ha hsz
    rw [hR, hRs] at htw
    rw [hRs] at HV
    clear hR hRs
    go_enter Try.func44, Try.ntmps44
    go_wp2_with fail
    refine hs1.mono ?_
    rintro e w1 ⟨rfl, m, rfl⟩
    go_wp2_with fail
    refine (htw m).mono ?_
    rintro e w2 ⟨rfl, hA2, hg2⟩
    go_wp2_with fail
    go_returns
    obtain ⟨hv1, hv2⟩ := HV w2 hA2
    refine ⟨?_, hv2, (grown_drew w m _).trans hg2⟩
    rw [← hv1]
    rfl
  | false =>
    rw [hb1] at hs1
    have hs2 := fun m => sees_any n T rest (w.drewN m) s a l (h.drew m) ha _ _ _ (fits_digit n (w.drewN m))
    cases hb2 : seesB Pl.isDigit ((bl s).drop a) with
    | true =>
      have hN := nextP_digit _ hb1 hb2
      rw [hb2] at hs2
      have HV : ∀ w', At n T rest w' s (endOf Pl.isDigit s a) l → (if badNum ((bl s).drop a) then Value.tuple #[.int .i64 0, .string empty, .int .i64 4] else .tuple #[.int .i64 2, .string (s.extract a (endOf Pl.isDigit s a)), .int .i64 0]) = nextV s a (Pl.nextP ((bl s).drop a)) ∧ At n T rest w' s (a + (Pl.nextP ((bl s).drop a)).2.1) l := by
        intro w' hw'
        rw [hN]
        by_cases h32 : badNum ((bl s).drop a)
        · rw [if_pos h32, if_pos h32]
          exact ⟨rfl, hw'⟩
        · rw [if_neg h32, if_neg h32]
          exact ⟨rfl, hw'⟩
      clear hN
      generalize hR : (if badNum ((bl s).drop a) then Value.tuple #[.int .i64 0, .string empty, .int .i64 4] else .tuple #[.int .i64 2, .string (s.extract a (endOf Pl.isDigit s a)), .int .i64 0]) = R at HV
      have hRs : ∃ r0 r1 r2, R = .tuple #[r0, r1, r2] := by
        rw [← hR]
        split
        · exact ⟨_, _, _, rfl⟩
        · exact ⟨_, _, _, rfl⟩
      obtain ⟨r0, r1, r2, hRs⟩ := hRs
      have htw := fun w' (h' : At n T rest w' s a l) => takeNumber_any n T rest w' s a l h' ha hsz
      rw [hR, hRs] at htw
      rw [hRs] at HV
      clear hR hRs
      go_enter Try.func44, Try.ntmps44
      go_wp2_with fail
      refine hs1.mono ?_
      rintro e w1 ⟨rfl, m, rfl⟩
      go_wp2_with fail
      refine (hs2 m).mono ?_
      rintro e w1 ⟨rfl, m2, rfl⟩
      go_wp2_with fail
      refine (htw _ (h.drew (m + m2))).mono ?_
      rintro e w2 ⟨rfl, hA2, hg2⟩
      go_wp2_with fail
      go_returns
      obtain ⟨hv1, hv2⟩ := HV w2 hA2
      refine ⟨?_, hv2, (grown_drew w (m + m2) _).trans hg2⟩
      rw [← hv1]
      rfl
    | false =>
      rw [hb2] at hs2
      have hlt := h.facts.2.2.2.2
      cases hb3 : seesB Pl.isSign ((bl s).drop a) with
      | true =>
        have hN := nextP_sign _ hb1 hb2 hb3
        rw [hN]
        have hlt3 := (endOf_step _ s a hb3).1
        go_enter Try.func44, Try.ntmps44
        go_wp2_with fail
        refine hs1.mono ?_
        rintro e w1 ⟨rfl, m, rfl⟩
        go_wp2_with fail
        refine (hs2 m).mono ?_
        rintro e w1 ⟨rfl, m2, rfl⟩
        have hA2 := (h.drew m).drew m2
        have hg2 := (grown_drew w m (some n)).trans (grown_drew _ m2 (some n))
        generalize (w.drewN m).drewN m2 = w2 at hA2 hg2 ⊢
        have hlt2 := hA2.facts.2.2.2.2
        go_wp2_with fail
        refine (oneOf_any _ _).mono ?_
        rintro e w3 ⟨rfl, rfl⟩
        have hA3 := hA2.alloc (.cells #[.string { data := #[123, 125, 40, 41, 91, 93, 59, 58, 44, 61, 63] }] 9)
        have hF3 := fits_set n w2 hlt2 { data := #[123, 125, 40, 41, 91, 93, 59, 58, 44, 61, 63] }
        rw [set_sign] at hF3
        have hg3 := hg2.trans (grown_alloc w2 (.cells #[.string { data := #[123, 125, 40, 41, 91, 93, 59, 58, 44, 61, 63] }] 9) (some n))
        generalize w2.alloc (.cells #[.string { data := #[123, 125, 40, 41, 91, 93, 59, 58, 44, 61, 63] }] 9) = w3 at hA3 hF3 hg3 ⊢
        have hsee := sees_any n T rest w3 s a l hA3 ha _ _ _ hF3
        rw [hb3] at hsee
        go_wp2_with fail
        refine hsee.mono ?_
        rintro e w4 ⟨rfl, m4, rfl⟩
        have hA4 := hA3.drew m4
        have hg4 := hg3.trans (grown_drew w3 m4 (some n))
        generalize w3.drewN m4 = w4 at hA4 hg4 ⊢
        have hA5 := hA4.step
        have hg5 := hg4.trans (grown_set w4 n 1 (.int .i64 ((a : Int) + 1)))
        obtain ⟨c0, c1, c2, hf, _⟩ := hA4.facts
        go_wp2_with fail
        generalize w4.setCell ⟨n, 1, none⟩ (.int .i64 ((a : Int) + 1)) = w5 at hA5 hg5 ⊢
        obtain ⟨d0, d1, d2, hfd, _⟩ := hA5.facts
        have hd1 : w5.cell? ⟨n, 1, none⟩ = some (.int .i64 ((a : Int) + 1)) := d1
        clear d1
        have hsub : (a : Int) + 1 - 1 = a := by omega
        have hto : ((a : Int) + 1).toNat = a + 1 := by omega
        go_quiet (fail)
        go_wp2
        go_returns
        exact ⟨rfl, hA5.drew nq, hg5.trans (grown_drew _ nq _)⟩
      | false =>
        have hN := nextP_none _ hb1 hb2 hb3
        rw [hN]
        go_enter Try.func44, Try.ntmps44
        go_wp2_with fail
        refine hs1.mono ?_
        rintro e w1 ⟨rfl, m, rfl⟩
        go_wp2_with fail
        refine (hs2 m).mono ?_
        rintro e w1 ⟨rfl, m2, rfl⟩
        have hA2 := (h.drew m).drew m2
        have hg2 := (grown_drew w m (some n)).trans (grown_drew _ m2 (some n))
        generalize (w.drewN m).drewN m2 = w2 at hA2 hg2 ⊢
        have hlt2 := hA2.facts.2.2.2.2
        go_wp2_with fail
        refine (oneOf_any _ _).mono ?_
        rintro e w3 ⟨rfl, rfl⟩
        have hA3 := hA2.alloc (.cells #[.string { data := #[123, 125, 40, 41, 91, 93, 59, 58, 44, 61, 63] }] 9)
        have hF3 := fits_set n w2 hlt2 { data := #[123, 125, 40, 41, 91, 93, 59, 58, 44, 61, 63] }
        rw [set_sign] at hF3
        have hg3 := hg2.trans (grown_alloc w2 (.cells #[.string { data := #[123, 125, 40, 41, 91, 93, 59, 58, 44, 61, 63] }] 9) (some n))
        generalize w2.alloc (.cells #[.string { data := #[123, 125, 40, 41, 91, 93, 59, 58, 44, 61, 63] }] 9) = w3 at hA3 hF3 hg3 ⊢
        have hsee := sees_any n T rest w3 s a l hA3 ha _ _ _ hF3
        rw [hb3] at hsee
        go_wp2_with fail
        refine hsee.mono ?_
        rintro e w4 ⟨rfl, m4, rfl⟩
        go_wp2_with fail
        go_returns
        exact ⟨rfl, hA3.drew m4, hg3.trans (grown_drew w3 m4 (some n))⟩
end Go.Proofs.Ythdooemgnpiomaa
