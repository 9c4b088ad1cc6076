/- The reference: word. -/
import Derived.Test.YtdbgncdnffbhkaaGreatDoorCutRA
namespace Go.Proofs.YtdbgncdnffbhkaaGreatDoor
open Go.RowKit
set_option maxRecDepth 20000

theorem head_bl (x : ByteArray) (h : 0 < x.size) : bl x = x[0].toNat :: (bl x).drop 1 := by
  have := drop_at x 0 h
  simpa using this

set_option maxHeartbeats 2000000 in
set_option maxRecDepth 4000 in
theorem rword_any (x : ByteArray) (w : World) (h0 : 0 < x.size) (hsz : x.size ≤ 70000) : Calls Tryz.prog 100 #[.string x] w fun e w' => e = .returned (.tuple #[.int .i64 ((Pl.wordE (bl x)).1 : Int), .int .i64 (Pl.wordE (bl x)).2]) ∧ w' = w := by
  have hh := head_bl x h0
  have hlen := bl_length x
  have hl := rletter_any (x[0].toNat) w
  have hd := rdigit_any (x[0].toNat) w
  have hx1 : (0 : Int) ≤ 0 ∧ (0 : Int) < (x.size : Int) := ⟨Int.le_refl _, by omega⟩
  have hW : Pl.wordE (bl x) = if Pl.isLetter x[0].toNat then (if 32 < x.size then ((1, 31) : Nat × Int) else (1, 0)) else if !Pl.isDigit x[0].toNat then (0, 32) else if !(bl x).all Pl.isDigit then (2, 4) else if 9 < x.size ∨ (x[0].toNat = 48 ∧ 1 < x.size) then (2, 4) else (2, 0) := by
    rw [← hlen]
    generalize (bl x).drop 1 = r at hh
    rw [hh]
    rfl
  generalize hW2 : Pl.wordE (bl x) = W at hW ⊢
  clear hW2
  cases hbl : Pl.isLetter x[0].toNat with
  | true =>
    rw [hbl] at hl hW
    by_cases h32 : 32 < x.size
    · rw [if_pos rfl, if_pos h32] at hW
      have h32' : (32 : Int) < (x.size : Int) := by omega
      subst hW
      clear hh
      go_enter Tryz.func100, Tryz.ntmps100
      go_wp2_with (go_at_call 151; refine hl.mono ?_; rintro e w2 ⟨rfl, hw2⟩; subst w2)
      go_returns
      exact ⟨rfl, rfl⟩
    · rw [if_pos rfl, if_neg h32] at hW
      have h32' : ¬ (32 : Int) < (x.size : Int) := by omega
      subst hW
      clear hh
      go_enter Tryz.func100, Tryz.ntmps100
      go_wp2_with (go_at_call 151; refine hl.mono ?_; rintro e w2 ⟨rfl, hw2⟩; subst w2)
      go_returns
      exact ⟨rfl, rfl⟩
  | false =>
    rw [hbl] at hl hW
    rw [if_neg (by simp)] at hW
    cases hbd : Pl.isDigit x[0].toNat with
    | false =>
      rw [hbd] at hd hW
      rw [if_pos (by rfl)] at hW
      subst hW
      clear hh
      go_enter Tryz.func100, Tryz.ntmps100
      go_wp2_with (first | (go_at_call 151; refine hl.mono ?_; rintro e w2 ⟨rfl, hw2⟩; subst w2) | (go_at_call 150; refine hd.mono ?_; rintro e w2 ⟨rfl, hw2⟩; subst w2))
      go_returns
      exact ⟨rfl, rfl⟩
    | true =>
      rw [hbd] at hd hW
      rw [if_neg (by simp)] at hW
      clear hh
      have HW : Hid (W = if (!(bl x).all Pl.isDigit) = true then ((2, 4) : Nat × Int) else if 9 < x.size ∨ (x[0].toNat = 48 ∧ 1 < x.size) then (2, 4) else (2, 0)) := hW
      clear hW
      go_enter Tryz.func100, Tryz.ntmps100
      go_wp2_with (first | (go_at_call 151; refine hl.mono ?_; rintro e w2 ⟨rfl, hw2⟩; subst w2) | (go_at_call 150; refine hd.mono ?_; rintro e w2 ⟨rfl, hw2⟩; subst w2))
      go_loopw [4] (fun i wr => ∃ (k : Nat), k ≤ x.size ∧ i = .int .i64 k ∧ ((bl x).take k).all Pl.isDigit = true ∧ w = wr) (fun i _ => x.size - (intOf i).toNat)
      case atStart => exact ⟨0, Nat.zero_le _, rfl, rfl, rfl⟩
      case round =>
        obtain ⟨k, hk, rfl, hc, rfl⟩ := hrel
        by_cases hlt : k < x.size
        · have ht := take_at x k hlt
          have hdk := rdigit_any (x[k].toNat) w
          cases hbk : Pl.isDigit x[k].toNat with
          | true =>
            have HH : Hid (((bl x).take (k + 1)).all Pl.isDigit = true) := by
              show ((bl x).take (k + 1)).all Pl.isDigit = true
              rw [ht, List.all_append, hc]
              simp [hbk]
            rw [hbk] at hdk
            clear ht
            go_wp2_with (go_at_call 150; refine hdk.mono ?_; rintro e w2 ⟨rfl, hw2⟩; subst w2)
            exact ⟨⟨k + 1, by omega, by go_num, HH.out, by first | rfl | trivial⟩, by simp [intOf]; omega⟩
          | false =>
            have HH : Hid ((bl x).all Pl.isDigit = false) := by
              show (bl x).all Pl.isDigit = false
              rw [← List.take_append_drop (k + 1) (bl x), ht, List.all_append, List.all_append]
              simp [hbk]
            rw [hbk] at hdk
            clear ht
            go_wp2_with (go_at_call 150; refine hdk.mono ?_; rintro e w2 ⟨rfl, hw2⟩; subst w2)
            go_returns
            rw [HW.out, HH.out, if_pos (by rfl)]
            exact ⟨rfl, rfl⟩
        · have hke : k = x.size := by omega
          rw [hke, List.take_of_length_le (by rw [bl_length]; exact Nat.le_refl _)] at hc
          have HV : Hid (W = if 9 < x.size ∨ (x[0].toNat = 48 ∧ 1 < x.size) then ((2, 4) : Nat × Int) else (2, 0)) := by
            show W = _
            rw [HW.out, hc]
            rfl
          clear HW hc
          by_cases h9 : 9 < x.size
          · have h9' : (9 : Int) < (x.size : Int) := by omega
            go_wp2
            go_returns
            rw [HV.out, if_pos (.inl h9)]
            exact ⟨rfl, rfl⟩
          · have h9' : ¬ (9 : Int) < (x.size : Int) := by omega
            by_cases h48 : x[0].toNat = 48
            · have hq : ((x[0].toNat : Int) == 48) = true := by rw [h48]; rfl
              have H48 : Hid (x[0].toNat = 48) := h48
              clear h48
              by_cases h1 : 1 < x.size
              · have h1' : (1 : Int) < (x.size : Int) := by omega
                go_wp2
                go_returns
                rw [HV.out, if_pos (.inr ⟨H48.out, h1⟩)]
                exact ⟨rfl, rfl⟩
              · have h1' : ¬ (1 : Int) < (x.size : Int) := by omega
                go_wp2
                go_returns
                rw [HV.out, if_neg (by omega)]
                exact ⟨rfl, rfl⟩
            · have hq : ((x[0].toNat : Int) == 48) = false := by simp; omega
              have H48 : Hid (¬ x[0].toNat = 48) := h48
              clear h48
              go_wp2
              go_returns
              rw [HV.out, if_neg (by rintro (h | h); exact h9 h; exact H48.out h.1)]
              exact ⟨rfl, rfl⟩
end Go.Proofs.YtdbgncdnffbhkaaGreatDoor
