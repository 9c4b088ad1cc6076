/- lex: skip. -/
import Derived.Test.YthdooemgnpiomaaXD
import Derived.Handy
namespace Go.Proofs.Ythdooemgnpiomaa
open Go.RowKit

theorem At.alloc {n : Nat} {T : TypeId} {rest : List Value} {w : World} {s : ByteArray} {a l : Nat} (h : At n T rest w s a l) (o : Obj) : At n T rest (w.alloc o) s a l := h.below ((Below.refl _ w).alloc (Nat.le_refl _) o)
theorem grown_alloc (w : World) (o : Obj) (row : Option Nat) : w.grownBy (w.alloc o) row := grown_below ((Below.refl _ w).alloc (Nat.le_refl _) o) row
theorem grown_drew (w : World) (m : Nat) (row : Option Nat) : w.grownBy (w.drewN m) row := grown_below (below_drewN (Below.refl _ _) m) row

set_option maxHeartbeats 2000000 in
set_option maxRecDepth 4000 in
theorem skip_any (n : Nat) (T : TypeId) (rest : List Value) (w : World) (s : ByteArray) (a l : Nat) (h : At n T rest w s a l) (ha : a ≤ s.size) (hsz : s.size ≤ 70000) (hl : l ≤ 70001 + a) :
    Calls Try.prog 33 #[.pointer (some ⟨n, 0, none⟩)] w fun e w' => e = .returned (.tuple #[]) ∧ ∃ k ln, a ≤ k ∧ k ≤ s.size ∧ l ≤ ln ∧ ln ≤ l + (k - a) ∧ Pl.tok ((bl s).drop a) l = Pl.tok ((bl s).drop k) ln ∧ Stop ((bl s).drop k) ∧ At n T rest w' s k ln ∧ w.grownBy w' (some n) := by
  go_enter Try.func33, Try.ntmps33
  go_wp2_with fail
  go_loopw [] (fun wr => ∃ k ln : Nat, a ≤ k ∧ k ≤ s.size ∧ l ≤ ln ∧ ln ≤ l + (k - a) ∧ Pl.tok ((bl s).drop a) l = Pl.tok ((bl s).drop k) ln ∧ At n T rest wr s k ln ∧ w.grownBy wr (some n)) (fun wr => s.size - atOf n wr)
  case atStart => exact ⟨a, l, Nat.le_refl _, ha, Nat.le_refl _, by omega, rfl, h, grownBy_refl _ _⟩
  case round =>
    obtain ⟨k, ln, hk1, hk2, hl1, hl2, hk3, hA, hg⟩ := hrel
    have hat := hA.at
    have hlt := hA.facts.2.2.2.2
    go_wp2_with fail
    refine (oneOf_any _ _).mono ?_
    rintro e w1 ⟨rfl, rfl⟩
    have hA1 := hA.alloc (.cells #[.string { data := #[32, 9, 13] }] 9)
    have hF1 := fits_set n wr hlt { data := #[32, 9, 13] }
    rw [set_blank] at hF1
    have hg1 := hg.trans (grown_alloc wr (.cells #[.string { data := #[32, 9, 13] }] 9) (some n))
    generalize wr.alloc (.cells #[.string { data := #[32, 9, 13] }] 9) = w1 at hA1 hF1 hg1 ⊢
    go_wp2_with fail
    refine (take_any n T rest _ s k ln hA1 hk2 (by omega) _ _ _ hF1).mono ?_
    rintro e w2 ⟨rfl, hA2, hg2⟩
    have hE1 := endOf_le Pl.isBlank s k hk2
    have hE2 := endOf_ge Pl.isBlank s k
    have hk3' := hk3.trans (skip_one s k ln)
    have hlt2 := hA2.facts.2.2.2.2
    have hg2' := hg1.trans hg2
    have HB := stop_one s k
    have HR := fun hb => (skip_one s k ln).symm.trans (skip_two s k ln hb)
    clear hA1 hF1 hg1 hg2 hk3
    generalize hk1' : endOf Pl.isBlank s k = k1 at *
    go_wp2_with fail
    refine (oneOf_any _ _).mono ?_
    rintro e w3 ⟨rfl, rfl⟩
    have hA3 := hA2.alloc (.cells #[.string { data := #[35] }] 9)
    have hF3 := fits_set n w2 hlt2 { data := #[35] }
    have hg3 := hg2'.trans (grown_alloc w2 (.cells #[.string { data := #[35] }] 9) (some n))
    generalize w2.alloc (.cells #[.string { data := #[35] }] 9) = w3 at hA3 hF3 hg3 ⊢
    have hsee := sees_any n T rest w3 s k1 ln hA3 hE1 _ _ _ hF3
    clear hA2 hF3 hg2'
    cases hb : seesB (oneOf (bl { data := #[35] })) ((bl s).drop k1) with
    | true =>
      have hR := hk3'.trans (HR hb)
      rw [hb] at hsee
      go_wp2_with fail
      refine hsee.mono ?_
      rintro e w4 ⟨rfl, m, rfl⟩
      have hA4 := hA3.drew m
      have hg4 := hg3.trans (grown_drew w3 m (some n))
      generalize w3.drewN m = w4 at hA4 hg4 ⊢
      go_wp2_with fail
      refine (take_any n T rest _ s k1 ln hA4 hE1 (by omega) _ _ _ (fits_line n w4)).mono ?_
      rintro e w5 ⟨rfl, hA5, hg5⟩
      have hE3 := endOf_le notNl s k1 hE1
      have hE4 := endOf_ge notNl s k1
      have hg5' := hg4.trans hg5
      have HS := stop_two s k1
      clear hA3 hg3 hA4 hg4 hg5 HB hsee
      generalize endOf notNl s k1 = k2 at *
      have hlt5 := hA5.facts.2.2.2.2
      go_wp2_with fail
      refine (oneOf_any _ _).mono ?_
      rintro e w6 ⟨rfl, rfl⟩
      have hA6 := hA5.alloc (.cells #[.string { data := #[10] }] 9)
      have hF6 := fits_set n w5 hlt5 { data := #[10] }
      have hg6 := hg5'.trans (grown_alloc w5 (.cells #[.string { data := #[10] }] 9) (some n))
      generalize w5.alloc (.cells #[.string { data := #[10] }] 9) = w6 at hA6 hF6 hg6 ⊢
      have hsee := sees_any n T rest w6 s k2 ln hA6 hE3 _ _ _ hF6
      clear hA5 hF6 hg5'
      cases hc : seesB (oneOf (bl { data := #[10] })) ((bl s).drop k2) with
      | true =>
        obtain ⟨hlt9, hR9⟩ := skip_nl s k2 ln hc
        rw [hc] at hsee
        go_wp2_with fail
        refine hsee.mono ?_
        rintro e w7 ⟨rfl, m7, rfl⟩
        have hA7 := hA6.drew m7
        have hg7 := hg6.trans (grown_drew w6 m7 (some n))
        generalize w6.drewN m7 = w7 at hA7 hg7 ⊢
        have hA8 := hA7.step
        have hg8 := hg7.trans (grown_set w7 n 1 (.int .i64 ((k2 : Int) + 1)))
        have hA9 := hA8.line
        have hg9 := hg8.trans (grown_set _ n 2 (.int .i64 ((ln : Int) + 1)))
        obtain ⟨c0, c1, c2, hf, _⟩ := hA7.facts
        obtain ⟨_, _, d2, hfd, _⟩ := hA8.facts
        go_wp2
        refine ⟨⟨k2 + 1, ln + 1, by omega, by omega, by omega, by omega, hR.trans hR9, hA9, hg9⟩, ?_⟩
        rw [hA9.at, hat]
        omega
      | false =>
        rw [hc] at hsee
        go_wp2_with fail
        refine hsee.mono ?_
        rintro e w7 ⟨rfl, m7, rfl⟩
        go_wp2
        go_returns
        exact ⟨rfl, k2, ln, by omega, hE3, hl1, by omega, hR, HS hc, hA6.drew m7, hg6.trans (grown_drew w6 m7 (some n))⟩
    | false =>
      rw [hb] at hsee
      go_wp2_with fail
      refine hsee.mono ?_
      rintro e w4 ⟨rfl, m, rfl⟩
      have hA5 := hA3.drew m
      have hg5' := hg3.trans (grown_drew w3 m (some n))
      generalize w3.drewN m = w5 at hA5 hg5' ⊢
      have hlt5 := hA5.facts.2.2.2.2
      clear hA3 hg3 hsee
      go_wp2_with fail
      refine (oneOf_any _ _).mono ?_
      rintro e w6 ⟨rfl, rfl⟩
      have hA6 := hA5.alloc (.cells #[.string { data := #[10] }] 9)
      have hF6 := fits_set n w5 hlt5 { data := #[10] }
      have hg6 := hg5'.trans (grown_alloc w5 (.cells #[.string { data := #[10] }] 9) (some n))
      generalize w5.alloc (.cells #[.string { data := #[10] }] 9) = w6 at hA6 hF6 hg6 ⊢
      have hsee := sees_any n T rest w6 s k1 ln hA6 hE1 _ _ _ hF6
      clear hA5 hF6 hg5'
      cases hc : seesB (oneOf (bl { data := #[10] })) ((bl s).drop k1) with
      | true =>
        obtain ⟨hlt9, hR9⟩ := skip_nl s k1 ln hc
        rw [hc] at hsee
        go_wp2_with fail
        refine hsee.mono ?_
        rintro e w7 ⟨rfl, m7, rfl⟩
        have hA7 := hA6.drew m7
        have hg7 := hg6.trans (grown_drew w6 m7 (some n))
        generalize w6.drewN m7 = w7 at hA7 hg7 ⊢
        have hA8 := hA7.step
        have hg8 := hg7.trans (grown_set w7 n 1 (.int .i64 ((k1 : Int) + 1)))
        have hA9 := hA8.line
        have hg9 := hg8.trans (grown_set _ n 2 (.int .i64 ((ln : Int) + 1)))
        obtain ⟨c0, c1, c2, hf, _⟩ := hA7.facts
        obtain ⟨_, _, d2, hfd, _⟩ := hA8.facts
        go_wp2
        refine ⟨⟨k1 + 1, ln + 1, by omega, by omega, by omega, by omega, hk3'.trans hR9, hA9, hg9⟩, ?_⟩
        rw [hA9.at, hat]
        omega
      | false =>
        rw [hc] at hsee
        go_wp2_with fail
        refine hsee.mono ?_
        rintro e w7 ⟨rfl, m7, rfl⟩
        go_wp2
        go_returns
        exact ⟨rfl, k1, ln, by omega, hE1, hl1, by omega, hk3', HB hb hc, hA6.drew m7, hg6.trans (grown_drew w6 m7 (some n))⟩
end Go.Proofs.Ythdooemgnpiomaa
