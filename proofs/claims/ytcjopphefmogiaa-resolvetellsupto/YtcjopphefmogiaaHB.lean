/- Share, of both; HashBack, HashRange and HashShares walked. -/
import Derived.Test.YtcjopphefmogiaaHA
namespace Go.Proofs.Ytcjopphefmogiaa
open Go.RowKit
set_option maxRecDepth 20000

def Hp.shE (n : Int) : Int := if 1 ≤ n ∧ n ≤ 1048576 then 0 else 4
def Hp.shK (x : Nat) (n : Int) : Int := if 1 ≤ n ∧ n ≤ 1048576 then (x : Int) / 4294967296 * n / 4294967296 else 0

theorem shareB {x : Nat} {n : Int} (hx : x < 18446744073709551616) (h1 : 1 ≤ n) (h2 : n ≤ 1048576) : 0 ≤ (x : Int) / 4294967296 * n ∧ (x : Int) / 4294967296 * n ≤ 4294967295 * 1048576 := by
  have a1 : 0 ≤ (x : Int) / 4294967296 := by omega
  have a2 : (x : Int) / 4294967296 ≤ 4294967295 := by omega
  exact ⟨Int.mul_nonneg a1 (by omega), Int.mul_le_mul a2 h2 (by omega) (by omega)⟩

theorem beq_iff {a b c d : Int} (h : a = b ↔ c = d) : ((a == b) == (c == d)) = true := by
  rw [beq_iff_eq, Bool.eq_iff_iff, beq_iff_eq, beq_iff_eq]; exact h
theorem Hp.shE_in {n : Int} (h : 1 ≤ n ∧ n ≤ 1048576) : Hp.shE n = 0 := if_pos h
theorem Hp.shE_out {n : Int} (h : ¬(1 ≤ n ∧ n ≤ 1048576)) : Hp.shE n = 4 := if_neg h
theorem Hp.shK_in {x : Nat} {n : Int} (h : 1 ≤ n ∧ n ≤ 1048576) : Hp.shK x n = (x : Int) / 4294967296 * n / 4294967296 := if_pos h
theorem Hp.shK_out {x : Nat} {n : Int} (h : ¬(1 ≤ n ∧ n ≤ 1048576)) : Hp.shK x n = 0 := if_neg h
end Go.Proofs.Ytcjopphefmogiaa
