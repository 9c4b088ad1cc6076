/- Share, of both; HashBack, HashRange and HashShares walked. -/
import Derived.Test.YtekldjfmdapgpaaHA
namespace Go.Proofs.Ytekldjfmdapgpaa
open Go.RowKit
set_option maxRecDepth 20000

def Hp.shE (n : Int) : Int := if 1 ≤ n ∧ n ≤ 1048576 then 0 else 4
def Hp.shK (x : Nat) (n : Int) : Int := if 1 ≤ n ∧ n ≤ 1048576 then (x : Int) / 4294967296 * n / 4294967296 else 0

theorem shareB {x : Nat} {n : Int} (hx : x < 18446744073709551616) (h1 : 1 ≤ n) (h2 : n ≤ 1048576) : 0 ≤ (x : Int) / 4294967296 * n ∧ (x : Int) / 4294967296 * n ≤ 4294967295 * 1048576 := by
  have a1 : 0 ≤ (x : Int) / 4294967296 := by omega
  have a2 : (x : Int) / 4294967296 ≤ 4294967295 := by omega
  exact ⟨Int.mul_nonneg a1 (by omega), Int.mul_le_mul a2 h2 (by omega) (by omega)⟩

set_option maxHeartbeats 400000 in
theorem share_any (x : Nat) (n : Int) (w : World) (hx : x < 18446744073709551616) (hn1 : -9223372036854775808 ≤ n) (hn2 : n ≤ 9223372036854775807) :
    Calls Try.prog 28 #[.int .u64 x, .int .i64 n] w fun e w' => e = .returned (.tuple #[.int .i64 (Hp.shK x n), .int .i64 (Hp.shE n)]) ∧ w = w' := by
  unfold Hp.shK Hp.shE
  by_cases h1 : 1 ≤ n ∧ n ≤ 1048576
  · rw [if_pos h1, if_pos h1]
    obtain ⟨h1, h2⟩ := h1
    have hb := shareB hx h1 h2
    have h4 : Hid (wrap64 (IntKind.u64.wrap ((x : Int) / 4294967296 * n) / 4294967296) = (x : Int) / 4294967296 * n / 4294967296) := by
      show _ = _
      rw [wrapU, IntWalk.wrap64_in] <;> omega
    go_enter Try.func28, Try.ntmps28
    go_wp2
    go_ret2
    refine ⟨?_, rfl⟩
    rw [← h4.out]
    rfl
  · rw [if_neg h1, if_neg h1]
    rcases Int.lt_or_le n 1 with h2 | h2
    · go_enter Try.func28, Try.ntmps28
      go_wp2
      go_ret2
      exact ⟨rfl, rfl⟩
    · have h3 : 1048576 < n := by omega
      go_enter Try.func28, Try.ntmps28
      go_wp2
      go_ret2
      exact ⟨rfl, rfl⟩
set_option maxHeartbeats 400000 in
theorem rshare_any (x : Nat) (n : Int) (w : World) (hx : x < 18446744073709551616) (hn1 : -9223372036854775808 ≤ n) (hn2 : n ≤ 9223372036854775807) :
    Calls Try.prog 25 #[.int .u64 x, .int .i64 n] w fun e w' => e = .returned (.tuple #[.int .i64 (Hp.shK x n), .int .i64 (Hp.shE n)]) ∧ w = w' := by
  unfold Hp.shK Hp.shE
  by_cases h1 : 1 ≤ n ∧ n ≤ 1048576
  · rw [if_pos h1, if_pos h1]
    obtain ⟨h1, h2⟩ := h1
    have hb := shareB hx h1 h2
    have h4 : Hid (wrap64 (IntKind.u64.wrap ((x : Int) / 4294967296 * n) / 4294967296) = (x : Int) / 4294967296 * n / 4294967296) := by
      show _ = _
      rw [wrapU, IntWalk.wrap64_in] <;> omega
    go_enter Try.func25, Try.ntmps25
    go_wp2
    go_ret2
    refine ⟨?_, rfl⟩
    rw [← h4.out]
    rfl
  · rw [if_neg h1, if_neg h1]
    rcases Int.lt_or_le n 1 with h2 | h2
    · go_enter Try.func25, Try.ntmps25
      go_wp2
      go_ret2
      exact ⟨rfl, rfl⟩
    · have h3 : 1048576 < n := by omega
      go_enter Try.func25, Try.ntmps25
      go_wp2
      go_ret2
      exact ⟨rfl, rfl⟩
theorem beq_iff {a b c d : Int} (h : a = b ↔ c = d) : ((a == b) == (c == d)) = true := by
  rw [beq_iff_eq, Bool.eq_iff_iff, beq_iff_eq, beq_iff_eq]; exact h
theorem Hp.shE_in {n : Int} (h : 1 ≤ n ∧ n ≤ 1048576) : Hp.shE n = 0 := if_pos h
theorem Hp.shE_out {n : Int} (h : ¬(1 ≤ n ∧ n ≤ 1048576)) : Hp.shE n = 4 := if_neg h
theorem Hp.shK_in {x : Nat} {n : Int} (h : 1 ≤ n ∧ n ≤ 1048576) : Hp.shK x n = (x : Int) / 4294967296 * n / 4294967296 := if_pos h
theorem Hp.shK_out {x : Nat} {n : Int} (h : ¬(1 ≤ n ∧ n ≤ 1048576)) : Hp.shK x n = 0 := if_neg h
end Go.Proofs.Ytekldjfmdapgpaa
