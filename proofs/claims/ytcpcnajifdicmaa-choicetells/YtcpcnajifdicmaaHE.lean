/- The reference's times and through. -/
import Derived.Test.YtcpcnajifdicmaaHD
namespace Go.Proofs.Ytcpcnajifdicmaa
open Go.RowKit
set_option maxRecDepth 20000

theorem int_div_pow (b k : Nat) : (b : Int) / 2 ^ k = ((b / 2 ^ k : Nat) : Int) := by rw [Int.natCast_ediv, Int.natCast_pow]; rfl
theorem int_mul_pow (b k : Nat) : (b : Int) * 2 ^ k = ((b * 2 ^ k : Nat) : Int) := by rw [Int.natCast_mul, Int.natCast_pow]; rfl
theorem bit_at (b k : Nat) (hb : b < 18446744073709551616) : bits .and .u64 ((b : Int) / 2 ^ k) 1 = ((b / 2 ^ k % 2 : Nat) : Int) := by
  rw [int_div_pow, show (1 : Int) = ((1 : Nat) : Int) from rfl, u64_and_nat _ _ (Nat.lt_of_le_of_lt (Nat.div_le_self _ _) hb) (by decide), nat_mask1]
theorem add_at (m a k : Nat) : IntKind.u64.wrap ((m : Int) + IntKind.u64.wrap ((a : Int) * 2 ^ k)) = (((m + a * 2 ^ k % 18446744073709551616) % 18446744073709551616 : Nat) : Int) := by
  rw [wrapU, wrapU, int_mul_pow]; omega
theorem sub_at (m a k : Nat) : IntKind.u64.wrap ((m : Int) - IntKind.u64.wrap ((a : Int) * 2 ^ k)) = (((m + (18446744073709551616 - a * 2 ^ k % 18446744073709551616)) % 18446744073709551616 : Nat) : Int) := by
  rw [wrapU, wrapU, int_mul_pow]; omega
theorem or_at (n k : Nat) (hk : k < 64) (hn : n < 2 ^ k) : bits .or .u64 (n : Int) (IntKind.u64.wrap (2 ^ k)) = ((n + 2 ^ k : Nat) : Int) := by
  have h1 : 2 ^ k ≤ 2 ^ 63 := Nat.pow_le_pow_right (by decide) (by omega)
  have h2 : 2 ^ k < 18446744073709551616 := by omega
  rw [wrapU, show (2 : Int) ^ k = ((2 ^ k : Nat) : Int) by rw [Int.natCast_pow]; rfl, show ((2 ^ k : Nat) : Int) % 18446744073709551616 = ((2 ^ k : Nat) : Int) by omega, u64_or_nat _ _ (by omega) h2, Nat.or_comm, nat_join k _ _ (Nat.mod_self _) hn, Nat.add_comm]

set_option maxHeartbeats 400000 in
theorem times_any (a b : Nat) (w : World) (hb : b < 18446744073709551616) :
    Calls Try.prog 57 #[.int .u64 a, .int .u64 b] w fun e w' => e = .returned (.int .u64 (a * b % 18446744073709551616 : Nat)) ∧ w = w' := by
  go_enter Try.func57, Try.ntmps57
  go_wp2
  go_loopw [5, 6] (fun n i wr => ∃ k m : Nat, k ≤ 64 ∧ i = .int .i64 k ∧ n = .int .u64 m ∧ Hid (m = a * (b % 2 ^ k) % 18446744073709551616) ∧ w = wr) (fun _ i _ => 64 - (intOf i).toNat)
  case atStart => exact ⟨0, 0, Nat.zero_le _, rfl, rfl, by show 0 = _; rw [Nat.pow_zero, Nat.mod_one, Nat.mul_zero], rfl⟩
  case round =>
    obtain ⟨k, m, hk, rfl, rfl, HM, rfl⟩ := hrel
    by_cases hlt : k < 64
    · have hbit := bit_at b k hb
      rcases Nat.mod_two_eq_zero_or_one (b / 2 ^ k) with hz | hz
      · rw [hz] at hbit
        have HZ : Hid (b / 2 ^ k % 2 = 0) := hz
        clear hz
        go_wp2
        refine ⟨⟨k + 1, m, by omega, by go_num, rfl, ?_, trivial⟩, by simp [intOf]; omega⟩
        show m = _
        rw [HM.out, Hp.times_none HZ.out]
      · rw [hz] at hbit
        have HZ : Hid (b / 2 ^ k % 2 = 1) := hz
        clear hz
        go_wp2
        rw [add_at]
        refine ⟨⟨k + 1, _, by omega, by go_num, rfl, ?_, trivial⟩, by simp [intOf]; omega⟩
        show _ = _
        rw [HM.out, Hp.times_one HZ.out]
    · have hke : k = 64 := by omega
      subst hke
      go_wp2
      go_ret
      refine ⟨ret_int ?_, rfl⟩
      have HM := HM.out
      rw [show (2 : Nat) ^ 64 = 18446744073709551616 from rfl, Nat.mod_eq_of_lt hb] at HM
      rw [HM]

end Go.Proofs.Ytcpcnajifdicmaa
