/- The reference: digit, letter, part, sign, word. -/
import Derived.Test.YtdbgncdnffbhkaaGreatDoorCutPut09
namespace Go.Proofs.YtdbgncdnffbhkaaGreatDoor
open Go.RowKit
set_option maxRecDepth 20000

theorem rdigit_any (c : Nat) (w : World) : Calls Tryz.prog 150 #[.int .u8 (c : Int)] w fun e w' => e = .returned (.bool (Pl.isDigit c)) ∧ w' = w := by
  rcases (show (48 ≤ c ∧ c ≤ 57) ∨ c < 48 ∨ 57 < c by omega) with h | h | h
  · rw [digit_eq c true (by simp; omega)]
    go_enter Tryz.func150, Tryz.ntmps150
    go_wp2
    go_ret
    first | exact ⟨rfl, rfl⟩ | (refine ⟨?_, rfl⟩; simp <;> omega)
  all_goals
    rw [digit_eq c false (by simp; omega)]
    go_enter Tryz.func150, Tryz.ntmps150
    go_wp2
    go_ret
    first | exact ⟨rfl, rfl⟩ | (refine ⟨?_, rfl⟩; simp <;> omega)

set_option maxHeartbeats 1000000 in
theorem rletter_any (c : Nat) (w : World) : Calls Tryz.prog 151 #[.int .u8 (c : Int)] w fun e w' => e = .returned (.bool (Pl.isLetter c)) ∧ w' = w := by
  rcases (show (97 ≤ c ∧ c ≤ 122) ∨ (65 ≤ c ∧ c ≤ 90) ∨ c < 65 ∨ (90 < c ∧ c < 97) ∨ 122 < c by omega) with h | h | h | h | h
  · rw [letter_eq c true (by simp; omega)]
    go_enter Tryz.func151, Tryz.ntmps151
    go_wp2
    go_ret
    first | exact ⟨rfl, rfl⟩ | (refine ⟨?_, rfl⟩; simp <;> omega)
  · rw [letter_eq c true (by simp; omega)]
    go_enter Tryz.func151, Tryz.ntmps151
    go_wp2
    go_ret
    first | exact ⟨rfl, rfl⟩ | (refine ⟨?_, rfl⟩; simp <;> omega)
  all_goals
    rw [letter_eq c false (by simp; omega)]
    go_enter Tryz.func151, Tryz.ntmps151
    go_wp2
    go_ret
    first | exact ⟨rfl, rfl⟩ | (refine ⟨?_, rfl⟩; simp <;> omega)

theorem rpart_any (c : Nat) (w : World) : Calls Tryz.prog 99 #[.int .u8 (c : Int)] w fun e w' => e = .returned (.bool (Pl.isPart c)) ∧ w' = w := by
  have hd := rdigit_any c w
  have hl := rletter_any c w
  unfold Pl.isPart
  cases hb : Pl.isDigit c with
  | true =>
    rw [hb] at hd
    go_enter Tryz.func99, Tryz.ntmps99
    go_wp2_with (go_at_call 150; refine hd.mono ?_; rintro e w2 ⟨rfl, rfl⟩)
    go_ret
    exact ⟨rfl, rfl⟩
  | false =>
    rw [hb] at hd
    cases hb2 : Pl.isLetter c with
    | true =>
      rw [hb2] at hl
      go_enter Tryz.func99, Tryz.ntmps99
      go_wp2_with (first | (go_at_call 150; refine hd.mono ?_; rintro e w2 ⟨rfl, rfl⟩) | (go_at_call 151; refine hl.mono ?_; rintro e w2 ⟨rfl, rfl⟩))
      go_ret
      exact ⟨rfl, rfl⟩
    | false =>
      rw [hb2] at hl
      go_enter Tryz.func99, Tryz.ntmps99
      go_wp2_with (first | (go_at_call 150; refine hd.mono ?_; rintro e w2 ⟨rfl, rfl⟩) | (go_at_call 151; refine hl.mono ?_; rintro e w2 ⟨rfl, rfl⟩))
      go_ret
      refine ⟨?_, rfl⟩
      congr 2
      by_cases h : c = 95
      · subst h; rfl
      · have h1 : ((c : Int) == 95) = false := by simp; omega
        have h2 : (c == 95) = false := by simp; omega
        simp [h1, h2]

theorem take_at (s : ByteArray) (k : Nat) (h : k < s.size) : (bl s).take (k + 1) = (bl s).take k ++ [s[k].toNat] := by
  have hl : k < (bl s).length := by rw [bl_length]; exact h
  rw [List.take_succ_eq_append_getElem hl]
  congr 2
  simp only [bl, List.getElem_map, Array.getElem_toList]
  rfl
def signsB : ByteArray := { data := #[123, 125, 40, 41, 91, 93, 59, 58, 44, 61, 63] }
set_option maxHeartbeats 1000000 in
theorem rsign_any (c : Nat) (w : World) : Calls Tryz.prog 98 #[.int .u8 (c : Int)] w fun e w' => e = .returned (.bool (Pl.isSign c)) ∧ w' = w := by
  have hs : Pl.isSign c = (bl signsB).contains c := rfl
  rw [hs]
  go_enter Tryz.func98, Tryz.ntmps98
  go_wp2_with fail
  go_loopw [3] (fun i wr => ∃ (k : Nat), k ≤ 11 ∧ i = .int .i64 k ∧ ((bl signsB).take k).contains c = false ∧ w = wr) (fun i _ => 11 - (intOf i).toNat)
  case atStart => exact ⟨0, Nat.zero_le _, rfl, rfl, rfl⟩
  case round =>
    obtain ⟨k, hk, rfl, hc, rfl⟩ := hrel
    by_cases hlt : k < 11
    · have ht := take_at signsB k hlt
      have hmem : signsB[k].toNat ∈ bl signsB := by
        rw [← List.take_append_drop (k + 1) (bl signsB), ht]
        simp
      cases hq : (((({ data := #[123, 125, 40, 41, 91, 93, 59, 58, 44, 61, 63] } : ByteArray)[k]'hlt).toNat : Int) == (c : Int)) with
      | true =>
        have HH : Hid ((bl signsB).contains c = true) := by
          have h1 : signsB[k].toNat = c := by have := eq_of_beq hq; exact Int.ofNat.inj this
          rw [h1] at hmem
          show (bl signsB).contains c = true
          simpa using hmem
        clear ht hmem
        go_wp2
        go_ret
        rw [HH.out]
        exact ⟨rfl, rfl⟩
      | false =>
        have HH : Hid (((bl signsB).take (k + 1)).contains c = false) := by
          have h1 : signsB[k].toNat ≠ c := by
            intro h
            have : (((({ data := #[123, 125, 40, 41, 91, 93, 59, 58, 44, 61, 63] } : ByteArray)[k]'hlt).toNat : Int) == (c : Int)) = true := by
              show ((signsB[k].toNat : Int) == (c : Int)) = true
              rw [h]
              simp
            rw [this] at hq
            cases hq
          show ((bl signsB).take (k + 1)).contains c = false
          rw [ht, List.contains_append, hc]
          simp only [List.contains_cons, List.contains_nil, Bool.or_false, Bool.false_or]
          simpa using fun h => h1 h.symm
        clear ht hmem
        go_wp2
        exact ⟨⟨k + 1, by omega, by go_num, HH.out, trivial⟩, by simp [intOf]; omega⟩
    · have hke : k = 11 := by omega
      subst hke
      have hc2 : (bl signsB).contains c = false := hc
      go_wp2
      go_ret
      rw [hc2]
      exact ⟨rfl, rfl⟩
end Go.Proofs.YtdbgncdnffbhkaaGreatDoor
