/- Shifts and the bitwise or of a number's next seven bits. -/
import Derived.Test.YtoadcaennlfadaaVPlain
import Derived.WalkKit
namespace Go.Proofs.Ytoadcaennlfadaa.Pl

theorem sc_pow (k : Nat) : sc k = ((2 ^ (7 * k) : Nat) : Int) := by
  induction k with
  | zero => simp [sc]
  | succ k ih =>
    simp only [sc, ih]
    rw [show 7 * (k + 1) = 7 * k + 7 from by omega, Nat.pow_add]
    simp only [Nat.reducePow, Int.natCast_mul]
    generalize ((2 ^ (7 * k) : Nat) : Int) = z
    omega

theorem sc_pos (k : Nat) : 1 ≤ sc k := by
  induction k with
  | zero => simp [sc]
  | succ k ih => simp only [sc]; omega

theorem mayB_nine {c : Int} (h : mayB 9 c = true) : c = 1 := by simpa [mayB] using h

theorem dig_lt (k : Nat) (c : Int) (hk : k ≤ 9) (hm : mayB k c = true) : (c % 128).toNat * 2 ^ (7 * k) < 18446744073709551616 := by
  by_cases h9 : k = 9
  · subst h9
    have := mayB_nine hm
    subst this
    decide
  · have h1 : 2 ^ (7 * k) ≤ 2 ^ 56 := Nat.pow_le_pow_right (by decide) (by omega)
    have h2 : (c % 128).toNat ≤ 127 := by omega
    have h3 := Nat.mul_le_mul h2 h1
    have h4 : 127 * 2 ^ 56 < 18446744073709551616 := by decide
    omega

theorem or_step (k : Nat) (acc c : Int) (hk : k ≤ 9) (h0 : 0 ≤ acc) (h1 : acc < sc k) (hm : mayB k c = true) :
    bits .or .u64 acc (IntKind.u64.wrap (c % 128 * 2 ^ (7 * k))) = acc + c % 128 * sc k := by
  have hd := dig_lt k c hk hm
  rw [sc_pow] at *
  have hc : c % 128 = (((c % 128).toNat : Nat) : Int) := by omega
  rw [hc]
  generalize (c % 128).toNat = d at hd
  obtain ⟨a, rfl⟩ := Int.eq_ofNat_of_zero_le h0
  have ha : a < 2 ^ (7 * k) := by exact_mod_cast h1
  have hp : ((d : Int) * 2 ^ (7 * k)) = ((d * 2 ^ (7 * k) : Nat) : Int) := by simp
  have hw : IntKind.u64.wrap ((d * 2 ^ (7 * k) : Nat) : Int) = ((d * 2 ^ (7 * k) : Nat) : Int) := by
    generalize d * 2 ^ (7 * k) = x at hd
    simp only [IntKind.wrap, IntKind.bits, IntKind.signed]
    simp
    omega
  rw [hp, hw]
  have hl : a < 18446744073709551616 := by
    have : 2 ^ (7 * k) ≤ 2 ^ 63 := Nat.pow_le_pow_right (by decide) (by omega)
    have h4 : 2 ^ 63 < 18446744073709551616 := by decide
    omega
  rw [u64_or_nat a _ hl hd, Nat.or_comm, nat_join (7 * k) _ _ (by simp) ha]
  simp only [Int.natCast_add, Int.natCast_mul]
  omega

/-- The sum stays below the next power. -/
theorem acc_next (k : Nat) (acc c : Int) (h0 : 0 ≤ acc) (h1 : acc < sc k) : 0 ≤ acc + c % 128 * sc k ∧ acc + c % 128 * sc k < sc (k + 1) := by
  have hp := sc_pos k
  have hc0 : 0 ≤ c % 128 := by omega
  have hc1 : c % 128 ≤ 127 := by omega
  have h2 : 0 ≤ c % 128 * sc k := Int.mul_nonneg hc0 (by omega)
  have h3 : c % 128 * sc k ≤ 127 * sc k := Int.mul_le_mul_of_nonneg_right hc1 (by omega)
  simp only [sc]
  omega

theorem acc_bd (k : Nat) (acc c : Int) (hk : k ≤ 9) (h0 : 0 ≤ acc) (h1 : acc < sc k) (hm : mayB k c = true) : acc + c % 128 * sc k ≤ 18446744073709551615 := by
  by_cases h9 : k = 9
  · subst h9
    have := mayB_nine hm
    subst this
    have : sc 9 = 9223372036854775808 := by decide +kernel
    omega
  · have := acc_next k acc c h0 h1
    have h8 : sc (k + 1) ≤ 9223372036854775808 := by
      rw [sc_pow]
      have : 2 ^ (7 * (k + 1)) ≤ 2 ^ 63 := Nat.pow_le_pow_right (by decide) (by omega)
      have h4 : 2 ^ 63 = 9223372036854775808 := by decide
      omega
    omega
end Go.Proofs.Ytoadcaennlfadaa.Pl
