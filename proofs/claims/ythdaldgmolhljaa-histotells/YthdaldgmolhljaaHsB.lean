/- histo: a bucket's top; both by the reference. -/
import Derived.Test.YthdaldgmolhljaaHsA
namespace Go.Proofs.Ythdaldgmolhljaa
open Go.RowKit
set_option maxRecDepth 20000
set_option linter.unusedVariables false

def Hi.topX (c : Nat) : Int := wrap64 (wrap64 ((4 + (16 + (c : Int) - 16) % 4 + 1) * 2 ^ (4 + c / 4 - 2)) - 1)
theorem Hi.top_num : ∀ c : Fin 65, (Hi.topN (16 + c.val) : Int) = if 1048576 < Hi.topX c.val then 1048576 else Hi.topX c.val := by decide +kernel
set_option maxHeartbeats 2000000 in
theorem topOf_any (b : Nat) (w : World) (h : b ≤ 80) : Calls Try.prog 27 #[.int .i64 (b : Int)] w fun e w' => e = .returned (.int .i64 (Hi.top b)) ∧ w = w' := by
  unfold Hi.top
  by_cases h16 : b < 16
  · have e : Hi.topN b = b := if_pos h16
    rw [e]
    go_enter Try.func27, Try.ntmps27
    go_wp2_with fail
    go_ret
    exact ⟨rfl, rfl⟩
  · obtain ⟨c, rfl⟩ : ∃ c, b = 16 + c := ⟨b - 16, by omega⟩
    have HF := hidD (Hi.top_num ⟨c, by omega⟩)
    generalize (Hi.topN (16 + c) : Int) = z at *
    unfold Hi.topX at HF
    have e1 : IntKind.i64.wrap (((16 + c : Nat) : Int) - 16) = (c : Int) := by rw [show ((16 + c : Nat) : Int) - 16 = (c : Int) by omega]; exact wrap_ok (by omega) (by omega)
    have e2 : Int.tdiv (c : Int) 4 = ((c / 4 : Nat) : Int) := rfl
    have e3 : Int.tmod (c : Int) 4 = ((c % 4 : Nat) : Int) := rfl
    have e4 : IntKind.i64.wrap (4 + ((c / 4 : Nat) : Int)) = ((4 + c / 4 : Nat) : Int) := by rw [show 4 + ((c / 4 : Nat) : Int) = ((4 + c / 4 : Nat) : Int) by omega]; exact wrap_ok (by omega) (by omega)
    have e5 : IntKind.i64.wrap (((4 + c / 4 : Nat) : Int) - 2) = ((4 + c / 4 - 2 : Nat) : Int) := by rw [show ((4 + c / 4 : Nat) : Int) - 2 = ((4 + c / 4 - 2 : Nat) : Int) by omega]; exact wrap_ok (by omega) (by omega)
    go_enter Try.func27, Try.ntmps27
    go_wp2_with fail
    all_goals go_ret
    · have hz := HF.out
      rw [if_pos (by omega)] at hz
      exact ⟨by rw [hz]; rfl, rfl⟩
    · have hz := HF.out
      rw [if_neg (by omega)] at hz
      exact ⟨by rw [hz]; rfl, rfl⟩
def Hi.tpE (b : Int) : Int := if b < 0 ∨ 80 < b then 4 else 0
def Hi.tpR (b : Int) : Int := if b < 0 ∨ 80 < b then 0 else Hi.top b.toNat
set_option maxHeartbeats 1000000 in
theorem top_any (b : Int) (w : World) : Calls Try.prog 12 #[.int .i64 b] w fun e w' => e = .returned (.tuple #[.int .i64 (Hi.tpR b), .int .i64 (Hi.tpE b)]) ∧ w = w' := by
  unfold Hi.tpR Hi.tpE
  by_cases h0 : b < 0
  · rw [if_pos (.inl h0), if_pos (.inl h0)]
    go_enter Try.func12, Try.ntmps12
    go_wp2_with fail
    go_ret2
    exact ⟨rfl, rfl⟩
  · by_cases h1 : 80 < b
    · rw [if_pos (.inr h1), if_pos (.inr h1)]
      go_enter Try.func12, Try.ntmps12
      go_wp2_with fail
      go_ret2
      exact ⟨rfl, rfl⟩
    · rw [if_neg (by omega), if_neg (by omega)]
      obtain ⟨k, rfl⟩ := Int.eq_ofNat_of_zero_le (show 0 ≤ b by omega)
      have c := topOf_any k w (by omega)
      rw [Int.toNat_natCast]
      generalize Hi.top k = z at *
      go_enter Try.func12, Try.ntmps12
      go_wp2_with fail
      refine c.mono ?_
      rintro e w2 ⟨rfl, rfl⟩
      go_wp2_with fail
      go_ret2
      exact ⟨rfl, rfl⟩

/-- A switch's flag, the reference's Top. -/
theorem Hi.rtop_num : ∀ c : Fin 64, (Hi.topN (16 + c.val) : Int) = wrap64 (wrap64 (wrap64 (2 ^ (4 + c.val / 4)) + wrap64 (((16 + (c.val : Int) - 16) % 4 + 1) * 2 ^ (4 + c.val / 4 - 2))) - 1) := by decide +kernel
set_option maxHeartbeats 4000000 in
theorem rtop_any (b : Int) (w : World) : Calls Try.prog 13 #[.int .i64 b] w fun e w' => e = .returned (.tuple #[.int .i64 (Hi.tpR b), .int .i64 (Hi.tpE b)]) ∧ Below w.heap.size w w' := by
  unfold Hi.tpR Hi.tpE
  by_cases h0 : b < 0
  · rw [if_pos (.inl h0), if_pos (.inl h0)]
    go_enter Try.func13, Try.ntmps13
    go_wp2_with fail
    go_ret2
    exact ⟨rfl, Below.refl _ _⟩
  by_cases h1 : 80 < b
  · rw [if_pos (.inr h1), if_pos (.inr h1)]
    go_enter Try.func13, Try.ntmps13
    go_wp2_with fail
    go_ret2
    exact ⟨rfl, Below.refl _ _⟩
  rw [if_neg (by omega), if_neg (by omega)]
  obtain ⟨k, rfl⟩ := Int.eq_ofNat_of_zero_le (show 0 ≤ b by omega)
  rw [Int.toNat_natCast]
  unfold Hi.top
  by_cases h16 : k < 16
  · have e : Hi.topN k = k := if_pos h16
    rw [e]
    go_enter Try.func13, Try.ntmps13
    go_wp2_with fail
    go_ret2
    exact ⟨rfl, Below.refl _ _⟩
  by_cases h80 : k = 80
  · subst h80
    have e : (Hi.topN 80 : Int) = 1048576 := rfl
    rw [e]
    go_enter Try.func13, Try.ntmps13
    go_wp2_with fail
    go_ret2
    exact ⟨rfl, Below.refl _ _⟩
  obtain ⟨c, rfl⟩ : ∃ c, k = 16 + c := ⟨k - 16, by omega⟩
  have HF := hidD (Hi.rtop_num ⟨c, by omega⟩)
  generalize (Hi.topN (16 + c) : Int) = z at *
  have e1 : IntKind.i64.wrap (((16 + c : Nat) : Int) - 16) = (c : Int) := by rw [show ((16 + c : Nat) : Int) - 16 = (c : Int) by omega]; exact wrap_ok (by omega) (by omega)
  have e2 : Int.tdiv (c : Int) 4 = ((c / 4 : Nat) : Int) := rfl
  have e3 : Int.tmod (c : Int) 4 = ((c % 4 : Nat) : Int) := rfl
  have e4 : IntKind.i64.wrap (4 + ((c / 4 : Nat) : Int)) = ((4 + c / 4 : Nat) : Int) := by rw [show 4 + ((c / 4 : Nat) : Int) = ((4 + c / 4 : Nat) : Int) by omega]; exact wrap_ok (by omega) (by omega)
  have e5 : IntKind.i64.wrap (((4 + c / 4 : Nat) : Int) - 2) = ((4 + c / 4 - 2 : Nat) : Int) := by rw [show ((4 + c / 4 : Nat) : Int) - 2 = ((4 + c / 4 - 2 : Nat) : Int) by omega]; exact wrap_ok (by omega) (by omega)
  go_enter Try.func13, Try.ntmps13
  go_wp2_with fail
  go_quiet (fail)
  go_wp2_with fail
  go_ret2
  exact ⟨by rw [HF.out]; rfl, below_drewN (Below.refl _ _) _⟩

/-- The reference's bucket: the highest bit looked for. -/
theorem Hi.bit_up {m k j : Nat} (h1 : m < 2 ^ (k + 1)) (h2 : 2 ^ k ≤ m) (hj : 2 ^ (j + 1) ≤ m) : j < k := by
  rcases Nat.lt_or_ge j k with h | h
  · exact h
  · have : 2 ^ (k + 1) ≤ 2 ^ (j + 1) := Nat.pow_le_pow_right (by decide) (by omega)
    omega
theorem Hi.bit_end {m k j : Nat} (h1 : m < 2 ^ (j + 1)) (h2 : 2 ^ k ≤ m) (hj : j ≤ k) : j = k := by
  rcases Nat.lt_or_ge j k with h | h
  · have : 2 ^ (j + 1) ≤ 2 ^ k := Nat.pow_le_pow_right (by decide) (by omega)
    omega
  · omega
theorem Hi.two_shl {j p : Nat} (hp : p = 2 ^ (j + 1)) (h : j ≤ 20) : IntKind.i64.wrap (2 * 2 ^ j) = (p : Int) := by
  have h1 : 2 ^ (j + 1) ≤ 2 ^ 21 := Nat.pow_le_pow_right (by decide) (by omega)
  have e : (2 * 2 ^ j : Int) = (p : Int) := by rw [hp, Nat.pow_succ]; push_cast; omega
  rw [e]
  exact wrap_ok (by omega) (by omega)
set_option maxHeartbeats 4000000 in
theorem rbucket_any (n : Int) (w : World) : Calls Try.prog 11 #[.int .i64 n] w fun e w' => e = .returned (.tuple #[.int .i64 (Hi.bkR n), .int .i64 (Hi.bkE n)]) ∧ w = w' := by
  unfold Hi.bkR Hi.bkE
  by_cases h : n < 0
  · rw [if_pos h, if_pos h]
    go_enter Try.func11, Try.ntmps11
    go_wp2_with fail
    go_ret2
    exact ⟨rfl, rfl⟩
  rw [if_neg h, if_neg h]
  have hm0 : 0 ≤ Hi.most n := by unfold Hi.most; split <;> omega
  obtain ⟨m, hm⟩ := Int.eq_ofNat_of_zero_le hm0
  have hml : m ≤ 1048576 := by have := Hi.most_range n; omega
  have hbn : Hi.bn n = Hi.bkN m := by unfold Hi.bn; rw [hm]; rfl
  rw [hbn]
  clear hbn hm0
  unfold Hi.most at hm
  by_cases h16 : m < 16
  · have e : Hi.bkN m = m := if_pos h16
    rw [e]
    rw [if_pos (by split at hm <;> omega)] at hm
    subst hm
    go_enter Try.func11, Try.ntmps11
    go_wp2_with fail
    go_ret2
    exact ⟨rfl, rfl⟩
  have hm0 : m ≠ 0 := by omega
  have hl := Hi.log_range (by omega) hml
  have a1 := hidD (Nat.log2_self_le hm0)
  have a2 : Hid (m < 2 ^ (m.log2 + 1)) := hidD Nat.lt_log2_self
  have e : Hi.bkN m = 16 + 4 * (m.log2 - 4) + m / 2 ^ (m.log2 - 2) % 4 := if_neg h16
  rw [e]
  clear e hm0
  generalize m.log2 = k at *
  have HF := hidD (Hi.bk_num (m := m) hl)
  generalize (16 + 4 * (k - 4) + m / 2 ^ (k - 2) % 4 : Nat) = z at *
  by_cases hle : n ≤ 1048576
  · rw [if_pos hle] at hm
    subst hm
    go_enter Try.func11, Try.ntmps11
    go_wp2_with fail
    go_loopw [4] (fun i wr => ∃ j : Nat, 4 ≤ j ∧ j ≤ k ∧ i = .int .i64 (j : Int) ∧ w = wr) (fun i _ => 100 - (intOf i).toNat)
    case atStart => exact ⟨4, Nat.le_refl _, hl.1, rfl, rfl⟩
    case round =>
      obtain ⟨j, hj4, hjk, rfl, rfl⟩ := hrel
      obtain ⟨p, hp⟩ : ∃ p : Nat, p = 2 ^ (j + 1) := ⟨_, rfl⟩
      have hx := Hi.two_shl hp (by omega)
      replace hp := hidD hp
      by_cases hc : p ≤ m
      · have hjk2 := hidD (Hi.bit_up a2.out a1.out (by rw [← hp.out]; exact hc))
        clear a1 a2 HF
        go_wp2_with fail
        exact ⟨⟨j + 1, by omega, hjk2.out, by go_num, trivial⟩, by have := hjk2.out; simp [intOf]; omega⟩
      · have hjk2 := Hi.bit_end (by rw [← hp.out]; omega) a1.out hjk
        subst hjk2
        clear a1 a2
        go_wp2_with fail
        go_ret2
        exact ⟨by rw [← HF.out]; rfl, rfl⟩
  · rw [if_neg hle] at hm
    have hm2 : m = 1048576 := by omega
    subst hm2
    clear hm
    go_enter Try.func11, Try.ntmps11
    go_wp2_with fail
    go_loopw [4] (fun i wr => ∃ j : Nat, 4 ≤ j ∧ j ≤ k ∧ i = .int .i64 (j : Int) ∧ w = wr) (fun i _ => 100 - (intOf i).toNat)
    case atStart => exact ⟨4, Nat.le_refl _, hl.1, rfl, rfl⟩
    case round =>
      obtain ⟨j, hj4, hjk, rfl, rfl⟩ := hrel
      obtain ⟨p, hp⟩ : ∃ p : Nat, p = 2 ^ (j + 1) := ⟨_, rfl⟩
      have hx := Hi.two_shl hp (by omega)
      replace hp := hidD hp
      by_cases hc : p ≤ 1048576
      · have hjk2 := hidD (Hi.bit_up a2.out a1.out (by rw [← hp.out]; exact hc))
        clear a1 a2 HF
        go_wp2_with fail
        exact ⟨⟨j + 1, by omega, hjk2.out, by go_num, trivial⟩, by have := hjk2.out; simp [intOf]; omega⟩
      · have hjk2 := Hi.bit_end (by rw [← hp.out]; omega) a1.out hjk
        subst hjk2
        clear a1 a2
        go_wp2_with fail
        go_ret2
        exact ⟨by rw [← HF.out]; rfl, rfl⟩
end Go.Proofs.Ythdaldgmolhljaa
