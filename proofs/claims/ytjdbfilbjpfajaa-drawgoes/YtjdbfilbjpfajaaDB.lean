/- draw: the reference's Skip, Below and Shuffle; numbers compared. -/
import Derived.Test.YtjdbfilbjpfajaaDA
namespace Go.Proofs.Ytjdbfilbjpfajaa
open Go.RowKit
set_option maxRecDepth 20000

theorem low1 (n : Nat) : bits .and .i64 (n : Int) 1 = ((n % 2 : Nat) : Int) := by
  have h1 : (BitVec.ofInt 64 (1 : Int)).toNat = 1 := by decide
  have h2 : (BitVec.ofInt 64 (n : Int)).toNat = n % 18446744073709551616 := by rw [BitVec.toNat_ofInt]; omega
  have h3 : (BitVec.ofInt 64 (n : Int) &&& BitVec.ofInt 64 1).toNat = n % 18446744073709551616 % 2 := by rw [BitVec.toNat_and, h1, h2, Nat.and_one_is_mod]
  show IntKind.i64.wrap ((BitVec.ofInt 64 (n : Int) &&& BitVec.ofInt 64 1).toNat : Nat) = _
  rw [h3, IntKind.wrap_i64]
  omega
theorem bitI_at (n k : Nat) : bits .and .i64 ((n : Int) / 2 ^ k) 1 = ((n / 2 ^ k % 2 : Nat) : Int) := by
  rw [int_div_pow, low1]

/-- The state behind the lowest k bits of n. -/
def Hp.ps (s n k : Nat) : Nat := (s + 11400714819323198485 * (n % 2 ^ k)) % 18446744073709551616
def Hp.al (k : Nat) : Nat := 11400714819323198485 * 2 ^ k % 18446744073709551616
theorem Hp.ps_lt (s n k : Nat) : Hp.ps s n k < 18446744073709551616 := Hp.mod_lt' _
theorem Hp.al_lt (k : Nat) : Hp.al k < 18446744073709551616 := Hp.mod_lt' _
theorem Hp.ps_one {s n k : Nat} (h : n / 2 ^ k % 2 = 1) : (Hp.ps s n k + Hp.al k) % 18446744073709551616 = Hp.ps s n (k + 1) := by
  unfold Hp.ps Hp.al
  rw [← Nat.add_mod, Hp.mod_succ, h, Nat.mul_one, Nat.mul_add, Nat.add_assoc]
theorem Hp.ps_none {s n k : Nat} (h : n / 2 ^ k % 2 = 0) : Hp.ps s n k = Hp.ps s n (k + 1) := by
  unfold Hp.ps
  rw [Hp.mod_succ, h, Nat.mul_zero, Nat.add_zero]
theorem Hp.al_succ (k : Nat) : (Hp.al k + Hp.al k) % 18446744073709551616 = Hp.al (k + 1) := by
  unfold Hp.al
  rw [← Nat.add_mod, ← Nat.mul_two, Nat.mul_assoc, Nat.pow_succ]
theorem Hp.ps_end {s n : Nat} (h : n ≤ 1073741824) : Hp.ps s n 31 = Hp.skip s n := by
  unfold Hp.ps Hp.skip
  rw [Nat.mod_eq_of_lt (show n < 2 ^ 31 by omega), Nat.mul_comm]
theorem sumU (a b : Nat) : IntKind.u64.wrap ((a : Int) + b) = (((a + b) % 18446744073709551616 : Nat) : Int) := by rw [wrapU]; omega

set_option maxHeartbeats 400000 in
theorem rskip_any (s : Nat) (n : Int) (w : World) (hs : s < 18446744073709551616) :
    Calls Try.prog 20 #[.int .u64 s, .int .i64 n] w fun e w' => e = .returned (if 0 ≤ n ∧ n ≤ 1073741824 then .tuple #[.int .u64 (Hp.skip s n.toNat : Nat), .int .i64 0] else .tuple #[.int .u64 0, .int .i64 4]) ∧ w = w' := by
  by_cases h : 0 ≤ n ∧ n ≤ 1073741824
  · rw [if_pos h]
    obtain ⟨h1, h2⟩ := h
    obtain ⟨N, rfl⟩ := Int.eq_ofNat_of_zero_le h1
    rw [Int.toNat_natCast]
    have hN : N ≤ 1073741824 := by omega
    have HE : Hid (Hp.ps s N 31 = Hp.skip s N) := Hp.ps_end hN
    generalize Hp.skip s N = R at *
    go_enter Try.func20, Try.ntmps20
    go_wp2
    go_loopw [0, 6, 7] (fun a b i wr => ∃ k p q : Nat, k ≤ 31 ∧ i = .int .i64 k ∧ a = .int .u64 p ∧ b = .int .u64 q ∧ Hid (p = Hp.ps s N k) ∧ Hid (q = Hp.al k) ∧ w = wr) (fun _ _ i _ => 31 - (intOf i).toNat)
    case atStart =>
      refine ⟨0, s, 11400714819323198485, Nat.zero_le _, rfl, rfl, rfl, ?_, ?_, rfl⟩
      · show s = _
        unfold Hp.ps
        rw [Nat.pow_zero, Nat.mod_one]
        omega
      · show _ = _
        unfold Hp.al
        rw [Nat.pow_zero]
    case round =>
      obtain ⟨k, p, q, hk, rfl, rfl, rfl, HP, HQ, rfl⟩ := hrel
      by_cases hlt : k < 31
      · have hbit := bitI_at N k
        have hal := sumU q q
        rcases Nat.mod_two_eq_zero_or_one (N / 2 ^ k) with hz | hz
        · rw [hz] at hbit
          have HZ : Hid (N / 2 ^ k % 2 = 0) := hz
          clear hz
          go_wp2
          refine ⟨⟨k + 1, p, _, by omega, by go_num, rfl, rfl, ?_, ?_, trivial⟩, by simp [intOf]; omega⟩
          · show _ = _
            rw [HP.out, Hp.ps_none HZ.out]
          · show _ = _
            rw [HQ.out]; exact Hp.al_succ _
        · rw [hz] at hbit
          have HZ : Hid (N / 2 ^ k % 2 = 1) := hz
          have hsm := sumU p q
          clear hz
          go_wp2
          refine ⟨⟨k + 1, _, _, by omega, by go_num, rfl, rfl, ?_, ?_, trivial⟩, by simp [intOf]; omega⟩
          · show _ = _
            rw [HP.out, HQ.out]; exact Hp.ps_one HZ.out
          · show _ = _
            rw [HQ.out]; exact Hp.al_succ _
      · have hke : k = 31 := by omega
        subst hke
        have hR := HP.out
        rw [HE.out] at hR
        subst hR
        go_wp2
        go_ret2
        exact ⟨rfl, rfl⟩
  · rw [if_neg h]
    rcases Int.lt_or_le n 0 with h2 | h2
    · go_enter Try.func20, Try.ntmps20
      go_wp2
      go_ret2
      exact ⟨rfl, rfl⟩
    · have h3 : 1073741824 < n := by omega
      go_enter Try.func20, Try.ntmps20
      go_wp2
      go_ret2
      exact ⟨rfl, rfl⟩

theorem skipU (s N : Nat) : IntKind.u64.wrap ((s : Int) + IntKind.u64.wrap ((N : Int) * 11400714819323198485)) = (Hp.skip s N : Nat) := by
  rw [wrapU, wrapU, Hp.skip_is]; omega
set_option maxHeartbeats 400000 in
theorem skip_any (s : Nat) (n : Int) (w : World) :
    Calls Try.prog 19 #[.int .u64 s, .int .i64 n] w fun e w' => e = .returned (if 0 ≤ n ∧ n ≤ 1073741824 then .tuple #[.int .u64 (Hp.skip s n.toNat : Nat), .int .i64 0] else .tuple #[.int .u64 0, .int .i64 4]) ∧ w = w' := by
  by_cases h : 0 ≤ n ∧ n ≤ 1073741824
  · rw [if_pos h]
    obtain ⟨h1, h2⟩ := h
    obtain ⟨N, rfl⟩ := Int.eq_ofNat_of_zero_le h1
    rw [Int.toNat_natCast]
    have hN : N ≤ 1073741824 := by omega
    have HE := skipU s N
    generalize Hp.skip s N = R at *
    go_enter Try.func19, Try.ntmps19
    go_wp2
    go_ret2
    exact ⟨rfl, rfl⟩
  · rw [if_neg h]
    rcases Int.lt_or_le n 0 with h2 | h2
    · go_enter Try.func19, Try.ntmps19
      go_wp2
      go_ret2
      exact ⟨rfl, rfl⟩
    · have h3 : 1073741824 < n := by omega
      go_enter Try.func19, Try.ntmps19
      go_wp2
      go_ret2
      exact ⟨rfl, rfl⟩
end Go.Proofs.Ytjdbfilbjpfajaa
