/- lex: what an octet is; the small functions. -/
import Derived.Test.YtmiohekmpjiloaaGreatDoorCutPut02
import Derived.Test.YtmiohekmpjiloaaGreatDoorCutPut03
import Derived.Lib.Bytealg
import Derived.Laws.Externs
import Derived.BigQuiet
import Derived.Deep.QuietTactic
import Derived.Maps.AppendAt
namespace Go.Proofs.YtmiohekmpjiloaaGreatDoor
open Go.RowKit
set_option maxRecDepth 20000

/-- The octets of a text, as numbers. -/
def bl (s : ByteArray) : List Nat := s.data.toList.map UInt8.toNat

theorem letter_eq (c : Nat) (b : Bool) (h : ((97 ≤ c ∧ c ≤ 122) ∨ (65 ≤ c ∧ c ≤ 90)) ↔ b = true) : Pl.isLetter c = b := by
  cases b
  · have h1 : ¬ ((97 ≤ c ∧ c ≤ 122) ∨ (65 ≤ c ∧ c ≤ 90)) := fun hh => by simpa using h.1 hh
    simp only [Pl.isLetter, Bool.or_eq_false_iff, Bool.and_eq_false_iff, decide_eq_false_iff_not]
    omega
  · have h1 := h.2 rfl
    simp only [Pl.isLetter, Bool.or_eq_true, Bool.and_eq_true, decide_eq_true_eq]
    exact h1
theorem digit_eq (c : Nat) (b : Bool) (h : (48 ≤ c ∧ c ≤ 57) ↔ b = true) : Pl.isDigit c = b := by
  cases b
  · have h1 : ¬ (48 ≤ c ∧ c ≤ 57) := fun hh => by simpa using h.1 hh
    simp only [Pl.isDigit, Bool.and_eq_false_iff, decide_eq_false_iff_not]
    omega
  · have h1 := h.2 rfl
    simp only [Pl.isDigit, Bool.and_eq_true, decide_eq_true_eq]
    exact h1

set_option maxHeartbeats 1000000 in
theorem letter_any (c : Nat) (w : World) : Calls Tryz.prog 189 #[.int .u8 (c : Int)] w fun e w' => e = .returned (.bool (Pl.isLetter c)) ∧ w' = w := by
  rcases (show (97 ≤ c ∧ c ≤ 122) ∨ (65 ≤ c ∧ c ≤ 90) ∨ c < 65 ∨ (90 < c ∧ c < 97) ∨ 122 < c by omega) with h | h | h | h | h
  · rw [letter_eq c true (by simp; omega)]
    go_enter Tryz.func189, Tryz.ntmps189
    go_wp2
    go_ret
    first | exact ⟨rfl, rfl⟩ | (refine ⟨?_, rfl⟩; simp <;> omega)
  · rw [letter_eq c true (by simp; omega)]
    go_enter Tryz.func189, Tryz.ntmps189
    go_wp2
    go_ret
    first | exact ⟨rfl, rfl⟩ | (refine ⟨?_, rfl⟩; simp <;> omega)
  all_goals
    rw [letter_eq c false (by simp; omega)]
    go_enter Tryz.func189, Tryz.ntmps189
    go_wp2
    go_ret
    first | exact ⟨rfl, rfl⟩ | (refine ⟨?_, rfl⟩; simp <;> omega)
theorem digit_any (c : Nat) (w : World) : Calls Tryz.prog 191 #[.int .u8 (c : Int)] w fun e w' => e = .returned (.bool (Pl.isDigit c)) ∧ w' = w := by
  rcases (show (48 ≤ c ∧ c ≤ 57) ∨ c < 48 ∨ 57 < c by omega) with h | h | h
  · rw [digit_eq c true (by simp; omega)]
    go_enter Tryz.func191, Tryz.ntmps191
    go_wp2
    go_ret
    first | exact ⟨rfl, rfl⟩ | (refine ⟨?_, rfl⟩; simp <;> omega)
  all_goals
    rw [digit_eq c false (by simp; omega)]
    go_enter Tryz.func191, Tryz.ntmps191
    go_wp2
    go_ret
    first | exact ⟨rfl, rfl⟩ | (refine ⟨?_, rfl⟩; simp <;> omega)

def isJoin (c : Nat) : Bool := Pl.isLetter c || c == 95
def notNl (c : Nat) : Bool := c != 10
def oneOf (set : List Nat) (c : Nat) : Bool := set.contains c

theorem joins_any (c : Nat) (w : World) : Calls Tryz.prog 198 #[.int .u8 (c : Int)] w fun e w' => e = .returned (.bool (isJoin c)) ∧ w' = w := by
  have hl := letter_any c w
  unfold isJoin
  cases hb : Pl.isLetter c with
  | true =>
    rw [hb] at hl
    go_enter Tryz.func198, Tryz.ntmps198
    go_wp2_with (go_at_call 189; refine hl.mono ?_; rintro e w2 ⟨rfl, rfl⟩)
    go_ret
    exact ⟨rfl, rfl⟩
  | false =>
    rw [hb] at hl
    go_enter Tryz.func198, Tryz.ntmps198
    go_wp2_with (go_at_call 189; refine hl.mono ?_; rintro e w2 ⟨rfl, rfl⟩)
    go_ret
    refine ⟨?_, rfl⟩
    congr 2
    by_cases h : c = 95
    · subst h; rfl
    · have h1 : ((c : Int) == 95) = false := by simp; omega
      have h2 : (c == 95) = false := by simp; omega
      simp [h1, h2]

theorem inWord_any (c : Nat) (w : World) : Calls Tryz.prog 197 #[.int .u8 (c : Int)] w fun e w' => e = .returned (.bool (Pl.isPart c)) ∧ w' = w := by
  have hd := digit_any c w
  have hj := joins_any c w
  have e0 : Pl.isPart c = (Pl.isDigit c || isJoin c) := by simp [Pl.isPart, isJoin, Bool.or_assoc]
  rw [e0]
  cases hb : Pl.isDigit c with
  | true =>
    rw [hb] at hd
    go_enter Tryz.func197, Tryz.ntmps197
    go_wp2_with (go_at_call 191; refine hd.mono ?_; rintro e w2 ⟨rfl, rfl⟩)
    go_ret
    exact ⟨rfl, rfl⟩
  | false =>
    rw [hb] at hd
    go_enter Tryz.func197, Tryz.ntmps197
    go_wp2_with (first | (go_at_call 191; refine hd.mono ?_; rintro e w2 ⟨rfl, rfl⟩) | (go_at_call 198; refine hj.mono ?_; rintro e w2 ⟨rfl, rfl⟩))
    go_ret
    exact ⟨rfl, rfl⟩

theorem indexByte_contains (l : List UInt8) (c : Nat) (hc : c < 256) : decide (0 ≤ Lib.indexByte l ((c : Int).toNat.toUInt8)) = (l.map UInt8.toNat).contains c := by
  induction l with
  | nil => rfl
  | cons b l ih =>
    have hge := Lib.indexByte_ge l ((c : Int).toNat.toUInt8)
    unfold Lib.indexByte
    have hcc : ((c : Int).toNat.toUInt8).toNat = c := by
      simp [Nat.mod_eq_of_lt hc]
    by_cases hb : b = (c : Int).toNat.toUInt8
    · have hbc : b.toNat = c := by rw [hb]; exact hcc
      have hbe : (b == (c : Int).toNat.toUInt8) = true := by simpa using hb
      rw [hbe, List.map_cons, List.contains_cons, hbc]
      simp
    · have hne : c ≠ b.toNat := by
        intro h
        apply hb
        apply UInt8.toNat_inj.1
        rw [hcc]
        exact h.symm
      have hbe : (b == (c : Int).toNat.toUInt8) = false := by simpa using hb
      have hbe2 : (c == b.toNat) = false := by simpa using hne
      rw [hbe]
      rw [List.map_cons, List.contains_cons, hbe2, Bool.false_or, ← ih]
      generalize Lib.indexByte l ((c : Int).toNat.toUInt8) = x at hge ⊢
      by_cases hx : x = -1
      · subst hx
        rfl
      · have hx2 : (x == -1) = false := by simpa using hx
        simp only [hx2, Bool.false_eq_true, if_false]
        congr 1
        apply propext
        omega

set_option maxRecDepth 4000 in
theorem sIndexByte_any (s : ByteArray) (c : Nat) (w : World) : Calls Tryz.prog 200 #[.string s, .int .u8 (c : Int)] w fun e w' => e = .returned (.int .i64 (Lib.indexByte s.data.toList ((c : Int).toNat.toUInt8))) ∧ w' = w := by
  have h41 : Calls Tryz.prog 205 #[.string s, .int .u8 (c : Int)] w fun e w' => e = .returned (.int .i64 (Lib.indexByte s.data.toList ((c : Int).toNat.toUInt8))) ∧ w' = w := by
    go_enter Tryz.func205, Tryz.ntmps205
    go_wp2
    rw [run_callFunc_extern Tryz.func211 (by kernel_rfl) (by kernel_rfl) (by kernel_rfl) (e := Extern.BytealgIndexByte.indexByte) (by kernel_rfl), Lib.run_indexByteString]
    simp only [Result.andThen]
    rw [Oper.upon_value]
    go_wp2
    go_ret
    exact ⟨rfl, rfl⟩
  go_enter Tryz.func200, Tryz.ntmps200
  go_wp2_with (go_at_call 205; refine h41.mono ?_; rintro e w2 ⟨rfl, rfl⟩)
  go_ret
  exact ⟨rfl, rfl⟩

/-- What oneOf makes looks for one of a set; the set lies in a box. -/
theorem inSet_any (s : ByteArray) (b : Nat) (c : Nat) (hc : c < 256) (w : World) (hb : w.heap[b]? = some (.cells #[.string s] 9 (0, 0))) : Calls Tryz.prog 199 #[.int .u8 (c : Int), .pointer (some ⟨b, 0, none⟩)] w fun e w' => e = .returned (.bool (oneOf (bl s) c)) ∧ w' = w := by
  have h35 := sIndexByte_any s c w
  have hcell := cell_of_one hb
  have hx := indexByte_contains s.data.toList c hc
  generalize Lib.indexByte s.data.toList ((c : Int).toNat.toUInt8) = x at h35 hx
  have hx2 : oneOf (bl s) c = decide (0 ≤ x) := hx.symm
  rw [hx2]
  clear hx hx2
  go_enter Tryz.func199, Tryz.ntmps199
  go_wp2_with (go_at_call 200; refine h35.mono ?_; rintro e w2 ⟨rfl, rfl⟩)
  go_ret
  exact ⟨rfl, rfl⟩

theorem oneOf_any (s : ByteArray) (w : World) : Calls Tryz.prog 193 #[.string s] w fun e w' => e = .returned (.func (.func 199) #[] #[.pointer (some ⟨w.heap.size, 0, none⟩)]) ∧ w' = w.alloc (.cells #[.string s] 9) := by
  have hmf : ∀ (fn : Fn) (first cap : Array Value) (w : World), (Instr.makeFunc fn first cap).run Tryz.prog w = .ok (.func fn first cap) w := fun _ _ _ _ => rfl
  go_enter Tryz.func193, Tryz.ntmps193
  go_wp2
  go_ret
  exact ⟨rfl, rfl⟩
end Go.Proofs.YtmiohekmpjiloaaGreatDoor

