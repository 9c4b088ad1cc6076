/- draw: the reference's Skip, Below and Shuffle; numbers compared. -/
import Derived.Test.YtcjopphefmogiaaDA
namespace Go.Proofs.Ytcjopphefmogiaa
open Go.RowKit
set_option maxRecDepth 20000

theorem low1 (n : Nat) : bits .and .i64 (n : Int) 1 = ((n % 2 : Nat) : Int) := by
  have h1 : (BitVec.ofInt 64 (1 : Int)).toNat = 1 := by decide
  have h2 : (BitVec.ofInt 64 (n : Int)).toNat = n % 18446744073709551616 := by rw [BitVec.toNat_ofInt]; omega
  have h3 : (BitVec.ofInt 64 (n : Int) &&& BitVec.ofInt 64 1).toNat = n % 18446744073709551616 % 2 := by rw [BitVec.toNat_and, h1, h2, Nat.and_one_is_mod]
  show IntKind.i64.wrap ((BitVec.ofInt 64 (n : Int) &&& BitVec.ofInt 64 1).toNat : Nat) = _
  rw [h3, IntKind.wrap_i64]
  omega
theorem bitI_at (n k : Nat) : bits .and .i64 ((n : Int) / 2 ^ k) 1 = ((n / 2 ^ k % 2 : Nat) : Int) := by
  rw [int_div_pow, low1]

/-- The state behind the lowest k bits of n. -/
def Hp.ps (s n k : Nat) : Nat := (s + 11400714819323198485 * (n % 2 ^ k)) % 18446744073709551616
def Hp.al (k : Nat) : Nat := 11400714819323198485 * 2 ^ k % 18446744073709551616
theorem Hp.ps_lt (s n k : Nat) : Hp.ps s n k < 18446744073709551616 := Hp.mod_lt' _
theorem Hp.al_lt (k : Nat) : Hp.al k < 18446744073709551616 := Hp.mod_lt' _
theorem Hp.ps_one {s n k : Nat} (h : n / 2 ^ k % 2 = 1) : (Hp.ps s n k + Hp.al k) % 18446744073709551616 = Hp.ps s n (k + 1) := by
  unfold Hp.ps Hp.al
  rw [← Nat.add_mod, Hp.mod_succ, h, Nat.mul_one, Nat.mul_add, Nat.add_assoc]
theorem Hp.ps_none {s n k : Nat} (h : n / 2 ^ k % 2 = 0) : Hp.ps s n k = Hp.ps s n (k + 1) := by
  unfold Hp.ps
  rw [Hp.mod_succ, h, Nat.mul_zero, Nat.add_zero]
theorem Hp.al_succ (k : Nat) : (Hp.al k + Hp.al k) % 18446744073709551616 = Hp.al (k + 1) := by
  unfold Hp.al
  rw [← Nat.add_mod, ← Nat.mul_two, Nat.mul_assoc, Nat.pow_succ]
theorem Hp.ps_end {s n : Nat} (h : n ≤ 1073741824) : Hp.ps s n 31 = Hp.skip s n := by
  unfold Hp.ps Hp.skip
  rw [Nat.mod_eq_of_lt (show n < 2 ^ 31 by omega), Nat.mul_comm]
theorem sumU (a b : Nat) : IntKind.u64.wrap ((a : Int) + b) = (((a + b) % 18446744073709551616 : Nat) : Int) := by rw [wrapU]; omega

theorem skipU (s N : Nat) : IntKind.u64.wrap ((s : Int) + IntKind.u64.wrap ((N : Int) * 11400714819323198485)) = (Hp.skip s N : Nat) := by
  rw [wrapU, wrapU, Hp.skip_is]; omega
end Go.Proofs.Ytcjopphefmogiaa
