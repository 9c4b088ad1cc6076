/- The reference: Sum, More, Back. -/
import Derived.Test.YtoadcaennlfadaaCrcG
namespace Go.Proofs.Ytoadcaennlfadaa
open Go.RowKit
set_option maxRecDepth 20000

set_option maxHeartbeats 400000 in
theorem rsum_any (v : Value) (l : List Int) (w : World) (hs : Seg .u8 w v l) (ho : Pl.Octs l) :
    Calls Try.prog 59 #[v] w fun e w' => e = .returned (.int .u32 (Pl.sumOf l)) ∧ w = w' := by
  have hsg : IntKind.u32.signed = false := rfl
  have hn := u32not _ (Pl.run_lt (c := 4294967295) (by decide) ho)
  obtain ⟨a, cap, rfl, k1, k2, k3, k4⟩ := id hs
  clear k1 k2 k3 k4
  go_enter Try.func59, Try.ntmps59
  go_wp2_with (go_at_call 70; refine (rrun_any 4294967295 _ l w (by decide) hs ho).mono ?_; rintro e w1 ⟨rfl, rfl⟩)
  go_ret
  exact ⟨rfl, rfl⟩

theorem and1u8 (o k : Nat) (ho : o < 256) : bits .and .u8 ((o : Int) / 2 ^ k) 1 = ((o / 2 ^ k % 2 : Nat) : Int) := by
  have e : (o : Int) / 2 ^ k = ((o / 2 ^ k : Nat) : Int) := by rw [Int.natCast_ediv]; simp
  have hl : o / 2 ^ k < 256 := Nat.lt_of_le_of_lt (Nat.div_le_self _ _) ho
  rw [e, show (1 : Int) = ((1 : Nat) : Int) from rfl, u8_and_nat _ 1 hl (by decide), nat_mask1]

theorem or1 (x : Nat) : bits .or .u32 ((x : Int) * 2 % 4294967296) 1 = ((x * 2 % 4294967296 + 1 : Nat) : Int) := by
  rw [show (x : Int) * 2 % 4294967296 = ((x * 2 % 4294967296 : Nat) : Int) by omega, show (1 : Int) = ((1 : Nat) : Int) from rfl, u32_or_nat _ _ (by omega) (by decide), nat_join 1 _ _ (by omega) (by decide)]

end Go.Proofs.Ytoadcaennlfadaa
