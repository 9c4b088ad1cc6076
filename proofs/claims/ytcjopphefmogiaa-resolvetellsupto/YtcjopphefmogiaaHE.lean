/- The reference's times and through. -/
import Derived.Test.YtcjopphefmogiaaHD
namespace Go.Proofs.Ytcjopphefmogiaa
open Go.RowKit
set_option maxRecDepth 20000

theorem int_div_pow (b k : Nat) : (b : Int) / 2 ^ k = ((b / 2 ^ k : Nat) : Int) := by rw [Int.natCast_ediv, Int.natCast_pow]; rfl
theorem int_mul_pow (b k : Nat) : (b : Int) * 2 ^ k = ((b * 2 ^ k : Nat) : Int) := by rw [Int.natCast_mul, Int.natCast_pow]; rfl
theorem bit_at (b k : Nat) (hb : b < 18446744073709551616) : bits .and .u64 ((b : Int) / 2 ^ k) 1 = ((b / 2 ^ k % 2 : Nat) : Int) := by
  rw [int_div_pow, show (1 : Int) = ((1 : Nat) : Int) from rfl, u64_and_nat _ _ (Nat.lt_of_le_of_lt (Nat.div_le_self _ _) hb) (by decide), nat_mask1]
theorem add_at (m a k : Nat) : IntKind.u64.wrap ((m : Int) + IntKind.u64.wrap ((a : Int) * 2 ^ k)) = (((m + a * 2 ^ k % 18446744073709551616) % 18446744073709551616 : Nat) : Int) := by
  rw [wrapU, wrapU, int_mul_pow]; omega
theorem sub_at (m a k : Nat) : IntKind.u64.wrap ((m : Int) - IntKind.u64.wrap ((a : Int) * 2 ^ k)) = (((m + (18446744073709551616 - a * 2 ^ k % 18446744073709551616)) % 18446744073709551616 : Nat) : Int) := by
  rw [wrapU, wrapU, int_mul_pow]; omega
theorem or_at (n k : Nat) (hk : k < 64) (hn : n < 2 ^ k) : bits .or .u64 (n : Int) (IntKind.u64.wrap (2 ^ k)) = ((n + 2 ^ k : Nat) : Int) := by
  have h1 : 2 ^ k ≤ 2 ^ 63 := Nat.pow_le_pow_right (by decide) (by omega)
  have h2 : 2 ^ k < 18446744073709551616 := by omega
  rw [wrapU, show (2 : Int) ^ k = ((2 ^ k : Nat) : Int) by rw [Int.natCast_pow]; rfl, show ((2 ^ k : Nat) : Int) % 18446744073709551616 = ((2 ^ k : Nat) : Int) by omega, u64_or_nat _ _ (by omega) h2, Nat.or_comm, nat_join k _ _ (Nat.mod_self _) hn, Nat.add_comm]

end Go.Proofs.Ytcjopphefmogiaa
