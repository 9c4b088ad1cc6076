/- lex: take, skip. -/
import Derived.Test.YthdooemgnpiomaaXB
namespace Go.Proofs.Ythdooemgnpiomaa
open Go.RowKit

/-- Where octets that are looked for end. -/
def endOf (p : Nat → Bool) (s : ByteArray) (a : Nat) : Nat := a + (((bl s).drop a).takeWhile p).length

theorem takeWhile_le {p : Nat → Bool} (l : List Nat) : (l.takeWhile p).length ≤ l.length := by
  induction l with
  | nil => exact Nat.le_refl _
  | cons c l ih =>
    rw [List.takeWhile_cons]
    split
    · simp only [List.length_cons]; omega
    · exact Nat.zero_le _

theorem endOf_le (p : Nat → Bool) (s : ByteArray) (a : Nat) (h : a ≤ s.size) : endOf p s a ≤ s.size := by
  have h1 := takeWhile_le (p := p) ((bl s).drop a)
  rw [List.length_drop, bl_length] at h1
  unfold endOf
  omega
theorem endOf_ge (p : Nat → Bool) (s : ByteArray) (a : Nat) : a ≤ endOf p s a := by unfold endOf; omega

theorem endOf_step (p : Nat → Bool) (s : ByteArray) (a : Nat) (h : seesB p ((bl s).drop a) = true) : a < s.size ∧ endOf p s (a + 1) = endOf p s a := by
  by_cases hlt : a < s.size
  · refine ⟨hlt, ?_⟩
    have hd := drop_at s a hlt
    rw [hd] at h
    simp only [seesB] at h
    unfold endOf
    rw [hd, List.takeWhile_cons, if_pos h, List.length_cons]
    omega
  · rw [List.drop_of_length_le (by rw [bl_length]; omega)] at h
    simp [seesB] at h
theorem endOf_stop (p : Nat → Bool) (s : ByteArray) (a : Nat) (h : seesB p ((bl s).drop a) = false) : endOf p s a = a := by
  unfold endOf
  cases hd : (bl s).drop a with
  | nil => rfl
  | cons c r =>
    rw [hd] at h
    simp only [seesB] at h
    rw [List.takeWhile_cons, if_neg (by simp [h])]
    rfl

def atOf (n : Nat) (w : World) : Nat := match w.cell? ⟨n, 1, none⟩ with | some (.int _ x) => x.toNat | _ => 0
theorem At.at {n : Nat} {T : TypeId} {rest : List Value} {w : World} {s : ByteArray} {a l : Nat} (h : At n T rest w s a l) : atOf n w = a := by
  unfold atOf
  rw [h.facts.2.1]
  simp

set_option maxHeartbeats 1000000 in
theorem take_any (n : Nat) (T : TypeId) (rest : List Value) (w : World) (s : ByteArray) (a l : Nat) (h : At n T rest w s a l) (ha : a ≤ s.size) (hsz : s.size ≤ 9223372036854775807) (fk : Nat) (cap : Array Value) (p : Nat → Bool) (hF : Fits n w fk cap p) :
    Calls Try.prog 59 #[.pointer (some ⟨n, 0, none⟩), .func (.func fk) #[] cap] w fun e w' => e = .returned (.string (s.extract a (endOf p s a))) ∧ At n T rest w' s (endOf p s a) l ∧ w.grownBy w' (some n) := by
  obtain ⟨c0, c1, c2, hf, hlt⟩ := h.facts
  have hE1 := endOf_le p s a ha
  have hE2 := endOf_ge p s a
  generalize hEE : endOf p s a = E at hE1 hE2 ⊢
  go_enter Try.func59, Try.ntmps59
  go_wp2_with fail
  go_loopw [] (fun wr => ∃ k : Nat, a ≤ k ∧ k ≤ s.size ∧ endOf p s k = E ∧ At n T rest wr s k l ∧ w.grownBy wr (some n)) (fun wr => s.size - atOf n wr)
  case atStart => exact ⟨a, Nat.le_refl _, ha, hEE, h, grownBy_refl _ _⟩
  case round =>
    obtain ⟨k, hk1, hk2, hk3, hA, hg⟩ := hrel
    have hat := hA.at
    obtain ⟨d0, d1, d2, hf1, hlt1⟩ := hA.facts
    have hsee := sees_any n T rest wr s k l hA hk2 fk cap p (hF.mono hg)
    cases hb : seesB p ((bl s).drop k) with
    | true =>
      obtain ⟨hlk, hst⟩ := endOf_step p s k hb
      rw [hb] at hsee
      go_wp2_with (go_at_call 61; refine hsee.mono ?_; rintro e w2 ⟨rfl, m, rfl⟩)
      have hA2 := (hA.drew m).step
      have hg2 := (hg.trans (grown_below (below_drewN (Below.refl _ _) m) _)).trans (grown_set (wr.drewN m) n 1 (.int .i64 ((k : Int) + 1)))
      refine ⟨⟨k + 1, by omega, by omega, hst.trans hk3, hA2, hg2⟩, ?_⟩
      rw [hA2.at, hat]
      omega
    | false =>
      have hst := endOf_stop p s k hb
      rw [hb] at hsee
      go_wp2_with (go_at_call 61; refine hsee.mono ?_; rintro e w2 ⟨rfl, m, rfl⟩)
      have hkE : k = E := by rw [← hst]; exact hk3
      subst hkE
      go_quiet (fail)
      go_wp2
      go_ret
      exact ⟨rfl, (hA.drew m).drew nq, (hg.trans (grown_below (below_drewN (Below.refl _ _) m) _)).trans (grown_below (below_drewN (Below.refl _ _) nq) _)⟩

theorem fits_letter (n : Nat) (w : World) : Fits n w 69 #[] Pl.isLetter := ⟨fun _ _ => rfl, fun w' _ c _ => letter_any c w'⟩
theorem fits_digit (n : Nat) (w : World) : Fits n w 71 #[] Pl.isDigit := ⟨fun _ _ => rfl, fun w' _ c _ => digit_any c w'⟩
theorem fits_join (n : Nat) (w : World) : Fits n w 85 #[] isJoin := ⟨fun _ _ => rfl, fun w' _ c _ => joins_any c w'⟩
theorem fits_part (n : Nat) (w : World) : Fits n w 84 #[] Pl.isPart := ⟨fun _ _ => rfl, fun w' _ c _ => inWord_any c w'⟩
theorem fits_line (n : Nat) (w : World) : Fits n w 62 #[] notNl := ⟨fun _ _ => rfl, fun w' _ c _ => notNl_any c w'⟩
theorem fits_set (n : Nat) (w : World) (hn : n < w.heap.size) (t : ByteArray) : Fits n (w.alloc (.cells #[.string t] 9)) 78 #[.pointer (some ⟨w.heap.size, 0, none⟩)] (oneOf (bl t)) := by
  refine ⟨fun _ _ => rfl, fun w' hg c hc => inSet_any t w.heap.size c hc w' ?_⟩
  rw [hg.block w.heap.size (by simp) (by simp; omega)]
  exact heap_alloc_new w _

end Go.Proofs.Ythdooemgnpiomaa
