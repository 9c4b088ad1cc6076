/- lex: a place on its way through a text. lex: take, skip. lex: tokens of a list without a count; skip. -/
import Derived.Test.YtmiohekmpjiloaaGreatDoorCutPut04
import Derived.Deep.RegionWith
namespace Go.Proofs.YtmiohekmpjiloaaGreatDoor
open Go.RowKit
set_option maxRecDepth 20000

/-- A place in block n (its type T, what lies behind it: rest): the text, where it is, and the line. -/
def At (n : Nat) (T : TypeId) (rest : List Value) (w : World) (s : ByteArray) (a l : Nat) : Prop :=
  w.heap[n]? = some (.cells ⟨.string s :: .int .i64 (a : Int) :: .int .i64 (l : Int) :: rest⟩ T (0, 0))

theorem At.facts {n : Nat} {T : TypeId} {rest : List Value} {w : World} {s : ByteArray} {a l : Nat} (h : At n T rest w s a l) :
    w.cell? ⟨n, 0, none⟩ = some (.string s) ∧ w.cell? ⟨n, 1, none⟩ = some (.int .i64 (a : Int)) ∧ w.cell? ⟨n, 2, none⟩ = some (.int .i64 (l : Int)) ∧ (∀ k, w.frozen? ⟨n, k, none⟩ = false) ∧ n < w.heap.size := by
  refine ⟨by rw [cell_of_row w n 0 _ T (0, 0) h]; rfl, by rw [cell_of_row w n 1 _ T (0, 0) h]; rfl, by rw [cell_of_row w n 2 _ T (0, 0) h]; rfl, fun k => frozen_of_row w n k _ T h, ?_⟩
  rcases Nat.lt_or_ge n w.heap.size with hlt | hge
  · exact hlt
  · unfold At at h; rw [Array.getElem?_eq_none hge] at h; cases h

theorem grown_set (w : World) (n k : Nat) (u : Value) : w.grownBy (w.setCell ⟨n, k, none⟩ u) (some n) :=
  ⟨rfl, rfl, rfl, by simp, fun j _ hj => heap_setCell_other w ⟨n, k, none⟩ j u (fun e => hj (by simp [e]))⟩

theorem At.step {n : Nat} {T : TypeId} {rest : List Value} {w : World} {s : ByteArray} {a l : Nat} (h : At n T rest w s a l) : At n T rest (w.setCell ⟨n, 1, none⟩ (.int .i64 ((a : Int) + 1))) s (a + 1) l := by
  unfold At at h ⊢
  rw [heap_setCell_same w n 1 _ T _ h]
  rfl
theorem At.line {n : Nat} {T : TypeId} {rest : List Value} {w : World} {s : ByteArray} {a l : Nat} (h : At n T rest w s a l) : At n T rest (w.setCell ⟨n, 2, none⟩ (.int .i64 ((l : Int) + 1))) s a (l + 1) := by
  unfold At at h ⊢
  rw [heap_setCell_same w n 2 _ T _ h]
  rfl

theorem At.below {n : Nat} {T : TypeId} {rest : List Value} {w w' : World} {s : ByteArray} {a l : Nat} (h : At n T rest w s a l) (hb : Below w.heap.size w w') : At n T rest w' s a l := (hb.block n h.facts.2.2.2.2).trans h

theorem grown_below {w w' : World} (h : Below w.heap.size w w') (row : Option Nat) : w.grownBy w' row := ⟨h.os, h.tape, h.output, h.size, fun k hk _ => h.block k hk⟩

/-- What is looked for is told by a function. -/
def Fits (n : Nat) (w : World) (fk : Nat) (cap : Array Value) (p : Nat → Bool) : Prop :=
  (∀ (args : Array Value) (w' : World), (callFunc fk args).run Tryz.prog w' = .ok (.enter fk args) w') ∧ ∀ w', w.grownBy w' (some n) → ∀ c, c < 256 → Calls Tryz.prog fk (#[.int .u8 (c : Int)] ++ cap) w' fun e w2 => e = .returned (.bool (p c)) ∧ w2 = w'

theorem Fits.mono {n : Nat} {w w' : World} {fk : Nat} {cap : Array Value} {p : Nat → Bool} (h : Fits n w fk cap p) (hg : w.grownBy w' (some n)) : Fits n w' fk cap p := ⟨h.1, fun w2 h2 => h.2 w2 (hg.trans h2)⟩

def seesB (p : Nat → Bool) (l : List Nat) : Bool := match l with | [] => false | c :: _ => p c

theorem bl_length (s : ByteArray) : (bl s).length = s.size := by unfold bl; rw [List.length_map, Array.length_toList]; rfl
theorem drop_end (s : ByteArray) : (bl s).drop s.size = [] := List.drop_of_length_le (by rw [bl_length]; exact Nat.le_refl _)

theorem drop_at (s : ByteArray) (a : Nat) (h : a < s.size) : (bl s).drop a = s[a].toNat :: (bl s).drop (a + 1) := by
  have hl : a < (bl s).length := by rw [bl_length]; exact h
  rw [List.drop_eq_getElem_cons hl]
  congr 1
  simp only [bl, List.getElem_map, Array.getElem_toList]
  rfl

set_option maxHeartbeats 1000000 in
theorem over_any (n : Nat) (T : TypeId) (rest : List Value) (w : World) (s : ByteArray) (a l : Nat) (h : At n T rest w s a l) :
    Calls Tryz.prog 182 #[.pointer (some ⟨n, 0, none⟩)] w fun e w' => e = .returned (.bool (decide (a = s.size))) ∧ ∃ m, w' = w.drewN m := by
  obtain ⟨c0, c1, c2, hf, hlt⟩ := h.facts
  go_enter Tryz.func182, Tryz.ntmps182
  go_wp2
  go_quiet (fail)
  go_wp2
  go_ret
  refine ⟨?_, nq, rfl⟩
  congr 2
  by_cases ha : a = s.size
  · subst ha
    simp
  · have h1 : ((a : Int) == (s.size : Int)) = false := by simp; omega
    simp [h1, ha]

theorem At.drew {n : Nat} {T : TypeId} {rest : List Value} {w : World} {s : ByteArray} {a l : Nat} (h : At n T rest w s a l) (m : Nat) : At n T rest (w.drewN m) s a l := h.below (below_drewN (Below.refl _ _) m)

set_option maxHeartbeats 1000000 in
theorem sees_any (n : Nat) (T : TypeId) (rest : List Value) (w : World) (s : ByteArray) (a l : Nat) (h : At n T rest w s a l) (ha : a ≤ s.size) (fk : Nat) (cap : Array Value) (p : Nat → Bool) (hF : Fits n w fk cap p) :
    Calls Tryz.prog 188 #[.pointer (some ⟨n, 0, none⟩), .func (.func fk) #[] cap] w fun e w' => e = .returned (.bool (seesB p ((bl s).drop a))) ∧ ∃ m, w' = w.drewN m := by
  obtain ⟨c0, c1, c2, hf, hlt⟩ := h.facts
  have hov : ∀ m, Calls Tryz.prog 182 #[.pointer (some ⟨n, 0, none⟩)] (w.drewN m) fun e w' => e = .returned (.bool (decide (a = s.size))) ∧ ∃ k, w' = (w.drewN m).drewN k := fun m => over_any n T rest _ s a l (h.drew m)
  by_cases hs : a = s.size
  · rw [decide_eq_true hs] at hov
    rw [hs, drop_end]
    rw [hs] at c1
    go_enter Tryz.func188, Tryz.ntmps188
    go_wp2
    go_quiet (first | (go_at_call 182; exact Calls.quiet_of (hov _)))
    go_wp2
    go_ret
    exact ⟨rfl, nq, rfl⟩
  · have hlt : a < s.size := by omega
    rw [decide_eq_false hs] at hov
    have hen := hF.1
    have hd : (bl s).drop a = s[a].toNat :: (bl s).drop (a + 1) := drop_at s a hlt
    rw [hd]
    have hcl : ∀ m, Calls Tryz.prog fk (#[.int .u8 (s[a].toNat : Int)] ++ cap) (w.drewN m) fun e w2 => e = .returned (.bool (p s[a].toNat)) ∧ w2 = w.drewN m := fun m => hF.2 _ (grown_below (below_drewN (Below.refl _ _) m) _) _ (UInt8.toNat_lt _)
    clear hd
    go_enter Tryz.func188, Tryz.ntmps188
    go_wp2
    go_quiet (first | (go_at_call 182; exact Calls.quiet_of (hov _)) | exact ⟨rfl, Calls.quiet_of_same (hcl _)⟩ | exact Calls.quiet_of_same (hcl _))
    go_wp2
    go_ret
    exact ⟨rfl, nq, rfl⟩
end Go.Proofs.YtmiohekmpjiloaaGreatDoor

namespace Go.Proofs.YtmiohekmpjiloaaGreatDoor
open Go.RowKit
set_option maxRecDepth 20000

/-- Where octets that are looked for end. -/
def endOf (p : Nat → Bool) (s : ByteArray) (a : Nat) : Nat := a + (((bl s).drop a).takeWhile p).length

theorem takeWhile_le {p : Nat → Bool} (l : List Nat) : (l.takeWhile p).length ≤ l.length := by
  induction l with
  | nil => exact Nat.le_refl _
  | cons c l ih =>
    rw [List.takeWhile_cons]
    split
    · simp only [List.length_cons]; omega
    · exact Nat.zero_le _

theorem endOf_le (p : Nat → Bool) (s : ByteArray) (a : Nat) (h : a ≤ s.size) : endOf p s a ≤ s.size := by
  have h1 := takeWhile_le (p := p) ((bl s).drop a)
  rw [List.length_drop, bl_length] at h1
  unfold endOf
  omega
theorem endOf_ge (p : Nat → Bool) (s : ByteArray) (a : Nat) : a ≤ endOf p s a := by unfold endOf; omega

theorem endOf_step (p : Nat → Bool) (s : ByteArray) (a : Nat) (h : seesB p ((bl s).drop a) = true) : a < s.size ∧ endOf p s (a + 1) = endOf p s a := by
  by_cases hlt : a < s.size
  · refine ⟨hlt, ?_⟩
    have hd := drop_at s a hlt
    rw [hd] at h
    simp only [seesB] at h
    unfold endOf
    rw [hd, List.takeWhile_cons, if_pos h, List.length_cons]
    omega
  · rw [List.drop_of_length_le (by rw [bl_length]; omega)] at h
    simp [seesB] at h
theorem endOf_stop (p : Nat → Bool) (s : ByteArray) (a : Nat) (h : seesB p ((bl s).drop a) = false) : endOf p s a = a := by
  unfold endOf
  cases hd : (bl s).drop a with
  | nil => rfl
  | cons c r =>
    rw [hd] at h
    simp only [seesB] at h
    rw [List.takeWhile_cons, if_neg (by simp [h])]
    rfl

def atOf (n : Nat) (w : World) : Nat := match w.cell? ⟨n, 1, none⟩ with | some (.int _ x) => x.toNat | _ => 0
theorem At.at {n : Nat} {T : TypeId} {rest : List Value} {w : World} {s : ByteArray} {a l : Nat} (h : At n T rest w s a l) : atOf n w = a := by
  unfold atOf
  rw [h.facts.2.1]
  simp

set_option maxHeartbeats 1000000 in
theorem take_any (n : Nat) (T : TypeId) (rest : List Value) (w : World) (s : ByteArray) (a l : Nat) (h : At n T rest w s a l) (ha : a ≤ s.size) (hsz : s.size ≤ 9223372036854775807) (fk : Nat) (cap : Array Value) (p : Nat → Bool) (hF : Fits n w fk cap p) :
    Calls Tryz.prog 196 #[.pointer (some ⟨n, 0, none⟩), .func (.func fk) #[] cap] w fun e w' => e = .returned (.string (s.extract a (endOf p s a))) ∧ At n T rest w' s (endOf p s a) l ∧ w.grownBy w' (some n) := by
  obtain ⟨c0, c1, c2, hf, hlt⟩ := h.facts
  have hE1 := endOf_le p s a ha
  have hE2 := endOf_ge p s a
  generalize hEE : endOf p s a = E at hE1 hE2 ⊢
  go_enter Tryz.func196, Tryz.ntmps196
  go_wp2_with fail
  go_loopw [] (fun wr => ∃ k : Nat, a ≤ k ∧ k ≤ s.size ∧ endOf p s k = E ∧ At n T rest wr s k l ∧ w.grownBy wr (some n)) (fun wr => s.size - atOf n wr)
  case atStart => exact ⟨a, Nat.le_refl _, ha, hEE, h, grownBy_refl _ _⟩
  case round =>
    obtain ⟨k, hk1, hk2, hk3, hA, hg⟩ := hrel
    have hat := hA.at
    obtain ⟨d0, d1, d2, hf1, hlt1⟩ := hA.facts
    have hsee := sees_any n T rest wr s k l hA hk2 fk cap p (hF.mono hg)
    cases hb : seesB p ((bl s).drop k) with
    | true =>
      obtain ⟨hlk, hst⟩ := endOf_step p s k hb
      rw [hb] at hsee
      go_wp2_with (go_at_call 188; refine hsee.mono ?_; rintro e w2 ⟨rfl, m, rfl⟩)
      have hA2 := (hA.drew m).step
      have hg2 := (hg.trans (grown_below (below_drewN (Below.refl _ _) m) _)).trans (grown_set (wr.drewN m) n 1 (.int .i64 ((k : Int) + 1)))
      refine ⟨⟨k + 1, by omega, by omega, hst.trans hk3, hA2, hg2⟩, ?_⟩
      rw [hA2.at, hat]
      omega
    | false =>
      have hst := endOf_stop p s k hb
      rw [hb] at hsee
      go_wp2_with (go_at_call 188; refine hsee.mono ?_; rintro e w2 ⟨rfl, m, rfl⟩)
      have hkE : k = E := by rw [← hst]; exact hk3
      subst hkE
      go_quiet (fail)
      go_wp2
      go_ret
      exact ⟨rfl, (hA.drew m).drew nq, (hg.trans (grown_below (below_drewN (Below.refl _ _) m) _)).trans (grown_below (below_drewN (Below.refl _ _) nq) _)⟩

theorem fits_letter (n : Nat) (w : World) : Fits n w 189 #[] Pl.isLetter := ⟨fun _ _ => rfl, fun w' _ c _ => letter_any c w'⟩
theorem fits_digit (n : Nat) (w : World) : Fits n w 191 #[] Pl.isDigit := ⟨fun _ _ => rfl, fun w' _ c _ => digit_any c w'⟩
theorem fits_join (n : Nat) (w : World) : Fits n w 198 #[] isJoin := ⟨fun _ _ => rfl, fun w' _ c _ => joins_any c w'⟩
theorem fits_part (n : Nat) (w : World) : Fits n w 197 #[] Pl.isPart := ⟨fun _ _ => rfl, fun w' _ c _ => inWord_any c w'⟩
theorem fits_set (n : Nat) (w : World) (hn : n < w.heap.size) (t : ByteArray) : Fits n (w.alloc (.cells #[.string t] 9)) 199 #[.pointer (some ⟨w.heap.size, 0, none⟩)] (oneOf (bl t)) := by
  refine ⟨fun _ _ => rfl, fun w' hg c hc => inSet_any t w.heap.size c hc w' ?_⟩
  rw [hg.block w.heap.size (by simp) (by simp; omega)]
  exact heap_alloc_new w _

end Go.Proofs.YtmiohekmpjiloaaGreatDoor

namespace Go.Proofs.YtmiohekmpjiloaaGreatDoor
open Go.RowKit
set_option maxRecDepth 20000
namespace Pl

theorem dropWhile_le (p : Nat → Bool) (l : List Nat) : (l.dropWhile p).length ≤ l.length := by
  induction l with
  | nil => exact Nat.le_refl _
  | cons c l ih =>
    rw [List.dropWhile_cons]
    split
    · simp only [List.length_cons]; omega
    · exact Nat.le_refl _

theorem part_drop (c : Nat) (r : List Nat) (h : isPart c = true) : ((c :: r).dropWhile isPart).length ≤ r.length := by
  rw [List.dropWhile_cons, if_pos h]
  exact dropWhile_le _ _

theorem tok_fuel (f : Nat) : ∀ (g : Nat) (l : List Nat) (line : Nat), l.length < f → l.length < g → tokS f l line = tokS g l line := by
  induction f with
  | zero => intro g l line h; omega
  | succ f ih =>
    intro g l line hf hg
    cases g with
    | zero => omega
    | succ g =>
      cases l with
      | nil => rfl
      | cons c r =>
        rw [List.length_cons] at hf hg
        simp only [tokS]
        rw [ih g r (line + 1) (by omega) (by omega), ih g r line (by omega) (by omega), ih g (r.dropWhile (fun d => d != 10)) line (by have := dropWhile_le (fun d => d != 10) r; omega) (by have := dropWhile_le (fun d => d != 10) r; omega)]
        by_cases hp : isPart c = true
        · have hd := part_drop c r hp
          rw [ih g ((c :: r).dropWhile isPart) line (by omega) (by omega)]
        · simp only [hp, Bool.false_eq_true, if_false]

/-- The tokens of a list. -/
def tok (l : List Nat) (line : Nat) : List Tok × Nat × Int := tokS (l.length + 1) l line

theorem tok_of (f : Nat) (l : List Nat) (line : Nat) (h : l.length < f) : tokS f l line = tok l line := tok_fuel f _ l line h (by omega)
theorem tok_nil (line : Nat) : tok [] line = ([], 0, 0) := rfl
theorem tok_nl (r : List Nat) (line : Nat) : tok (10 :: r) line = tok r (line + 1) := by
  unfold tok
  rw [List.length_cons]
  simp only [tokS, if_true]
theorem tok_blank (c : Nat) (r : List Nat) (line : Nat) (h : isBlank c = true) : tok (c :: r) line = tok r line := by
  have h1 : c ≠ 10 := by rintro rfl; simp [isBlank] at h
  unfold tok
  rw [List.length_cons]
  simp only [tokS, if_neg h1, if_pos h]
theorem tok_remark (r : List Nat) (line : Nat) : tok (35 :: r) line = tok (r.dropWhile (fun d => d != 10)) line := by
  have hd := dropWhile_le (fun d => d != 10) r
  have h1 : tok (35 :: r) line = tokS (r.length + 1) (r.dropWhile (fun d => d != 10)) line := by
    unfold tok
    rw [List.length_cons]
    simp [tokS, isBlank]
  rw [h1]
  exact tok_of _ _ _ (by omega)
theorem tok_sign (c : Nat) (r : List Nat) (line : Nat) (h : isSign c = true) : tok (c :: r) line = tokCons ⟨3, [c], line⟩ (tok r line) := by
  obtain ⟨n1, n2, n3⟩ := sign_not c h
  unfold tok
  rw [List.length_cons]
  simp only [tokS]
  rw [if_neg n1, if_neg (by simp [n2]), if_neg n3, if_pos h]
theorem tok_part (c : Nat) (r : List Nat) (line : Nat) (h : isPart c = true) : tok (c :: r) line =
    if (wordE ((c :: r).takeWhile isPart)).2 = 0 then tokCons ⟨(wordE ((c :: r).takeWhile isPart)).1, (c :: r).takeWhile isPart, line⟩ (tok ((c :: r).dropWhile isPart) line)
       else ([], line, (wordE ((c :: r).takeWhile isPart)).2) := by
  obtain ⟨n1, n2, n3, n4⟩ := part_not c h
  have hd := part_drop c r h
  rw [← tok_of (r.length + 1) ((c :: r).dropWhile isPart) line (by omega)]
  unfold tok
  rw [List.length_cons]
  simp only [tokS]
  rw [if_neg n1, if_neg (by simp [n2]), if_neg n3, if_neg (by simp [n4]), if_pos h]
theorem tok_else (c : Nat) (r : List Nat) (line : Nat) (h1 : c ≠ 10) (h2 : isBlank c = false) (h3 : c ≠ 35) (h4 : isSign c = false) (h5 : isPart c = false) : tok (c :: r) line = ([], line, 32) := by
  unfold tok
  rw [List.length_cons]
  simp only [tokS]
  rw [if_neg h1, if_neg (by simp [h2]), if_neg h3, if_neg (by simp [h4]), if_neg (by simp [h5])]

end Pl

theorem drop_endOf (p : Nat → Bool) (s : ByteArray) (a : Nat) : (bl s).drop (endOf p s a) = ((bl s).drop a).dropWhile p := by
  unfold endOf
  rw [← List.drop_drop]
  generalize (bl s).drop a = l
  induction l with
  | nil => rfl
  | cons c l ih =>
    rw [List.takeWhile_cons, List.dropWhile_cons]
    split
    · rw [List.length_cons, List.drop_succ_cons]
      exact ih
    · rfl

theorem set_sign : oneOf (bl { data := #[123, 125, 40, 41, 91, 93, 59, 58, 44, 61, 63] }) = Pl.isSign := rfl

/-- What begins a token, or is a fault. -/
def Stop (l : List Nat) : Prop := match l with | [] => True | c :: _ => c ≠ 10 ∧ Pl.isBlank c = false ∧ c ≠ 35

theorem sees_true {p : Nat → Bool} {l : List Nat} (h : seesB p l = true) : ∃ c r, l = c :: r ∧ p c = true := by
  cases l with
  | nil => simp [seesB] at h
  | cons c r => exact ⟨c, r, rfl, h⟩

end Go.Proofs.YtmiohekmpjiloaaGreatDoor

