/- histo: how many bits; a number's bucket, a bucket's top. -/
import Derived.Test.YthdaldgmolhljaaNB
import Derived.Test.YthdaldgmolhljaaHsP
import Derived.Lib.Strings
import Derived.Lib.Small
import Derived.Lib.BitFns
namespace Go.Proofs.Ythdaldgmolhljaa
open Go.RowKit
set_option maxRecDepth 20000
set_option linter.unusedVariables false

theorem len8tab_size : (Lib.len8tab.size : Int) = 256 := by
  have : Lib.len8tab.size = 256 := by decide
  omega
theorem len8_at (y : Int) (h0 : 0 ≤ y) (h1 : y ≤ 255) (hh : y.toNat < Lib.len8tab.size) : ((Lib.len8tab[y.toNat]'hh).toNat : Int) = (Lib.bitLen y.toNat : Int) := by
  rw [← Lib.len8_of y h0 h1]
  unfold Lib.len8
  rw [getElem?_pos Lib.len8tab y.toNat hh]
  rfl
theorem wrap64_one (a : Nat) (ha : a ≤ 8) : wrap64 (a : Int) = (a : Int) := by
  unfold wrap64
  omega
theorem wrap64_add (k a b : Nat) (hk : k ≤ 56) (ha : a ≤ 8) (hb : b = k + a) : wrap64 ((k : Int) + wrap64 (a : Int)) = (b : Int) := by
  unfold wrap64
  omega
theorem wrap64_two (a : Nat) (ha : a ≤ 8) : wrap64 (wrap64 (a : Int)) = (a : Int) := by
  unfold wrap64
  omega

set_option maxHeartbeats 4000000 in
set_option maxRecDepth 100000 in
theorem len64_any (x : Int) (w : World) (h0 : 0 ≤ x) (h1 : x ≤ 1048576) :
    Calls Try.prog 38 #[.int .u64 x] w fun e w' => e = .returned (.int .i64 (Lib.bitLen x.toNat)) ∧ w = w' := by
  go_enter Try.func38, Try.ntmps38
  go_wp2
  all_goals first
    | (go_ret; refine ⟨congrArg Ending.returned (congrArg (Value.int IntKind.i64) ?_), rfl⟩)
    | (exfalso
       have hs := len8tab_size
       omega)
  all_goals first
    | (rw [len8_at (x / 65536) (by omega) (by omega)]
       have e : (x / 65536).toNat = x.toNat / 65536 := by omega
       have l := Lib.bitLen_le8' (x / 65536) (by omega) (by omega)
       have s := Lib.bitLen_shift16 x.toNat (by omega) (by omega)
       rw [e] at l ⊢
       exact wrap64_add 16 _ _ (by decide) l s)
    | (rw [len8_at (x / 256) (by omega) (by omega)]
       have e : (x / 256).toNat = x.toNat / 256 := by omega
       have l := Lib.bitLen_le8' (x / 256) (by omega) (by omega)
       have s := Lib.bitLen_shift8 x.toNat (by omega) (by omega)
       rw [e] at l ⊢
       exact wrap64_add 8 _ _ (by decide) l s)
    | (rw [len8_at x (by omega) (by omega)]
       have l := Lib.bitLen_le8' x (by omega) (by omega)
       first | exact wrap64_two _ l | exact wrap64_one _ l)

/-- The length in bits, by the logarithm. -/
theorem bitLen_log {m : Nat} (h0 : m ≠ 0) (h : m ≤ 1048576) : Lib.bitLen m = Nat.log2 m + 1 := by
  have a1 := Nat.log2_self_le h0
  have a2 : m < 2 ^ (m.log2 + 1) := Nat.lt_log2_self
  have k2 : m.log2 ≤ 20 := by
    by_cases hk : 20 < m.log2
    · have : 2 ^ 21 ≤ 2 ^ m.log2 := Nat.pow_le_pow_right (by decide) (by omega)
      omega
    · omega
  have s := Lib.bitLen_shift m.log2 m a1 (by omega)
  have hd : m / 2 ^ m.log2 = 1 := by
    rw [Nat.pow_succ] at a2
    exact Nat.div_eq_of_lt_le (by omega) (by omega)
  rw [hd] at s
  rw [s]
  have : Lib.bitLen 1 = 1 := by decide
  omega
set_option maxHeartbeats 1000000 in
theorem len_any (x : Int) (w : World) (h0 : 0 ≤ x) (h1 : x ≤ 1048576) :
    Calls Try.prog 36 #[.int .u64 x] w fun e w' => e = .returned (.int .i64 (Lib.bitLen x.toNat)) ∧ w = w' := by
  have c := len64_any x w h0 h1
  generalize (Lib.bitLen x.toNat : Int) = z at *
  go_enter Try.func36, Try.ntmps36
  go_wp2_with fail
  refine c.mono ?_
  rintro e w2 ⟨rfl, rfl⟩
  go_wp2_with fail
  go_ret
  exact ⟨rfl, rfl⟩

/-- The logarithm's range. -/
theorem Hi.log_range {m : Nat} (h0 : 16 ≤ m) (h : m ≤ 1048576) : 4 ≤ Nat.log2 m ∧ Nat.log2 m ≤ 20 := by
  have hm0 : m ≠ 0 := by omega
  have a1 := Nat.log2_self_le hm0
  have a2 : m < 2 ^ (m.log2 + 1) := Nat.lt_log2_self
  constructor
  · by_cases hk : m.log2 < 4
    · have : 2 ^ (m.log2 + 1) ≤ 2 ^ 4 := Nat.pow_le_pow_right (by decide) (by omega)
      omega
    · omega
  · by_cases hk : 20 < m.log2
    · have : 2 ^ 21 ≤ 2 ^ m.log2 := Nat.pow_le_pow_right (by decide) (by omega)
      omega
    · omega

theorem Hi.bk_num {m k : Nat} (hl : 4 ≤ k ∧ k ≤ 20) : wrap64 (16 + 4 * ((k : Int) - 4) + Int.tmod ((m : Int) / 2 ^ (k - 2)) 4) = ((16 + 4 * (k - 4) + m / 2 ^ (k - 2) % 4 : Nat) : Int) := by
  have e : (m : Int) / 2 ^ (k - 2) = ((m / 2 ^ (k - 2) : Nat) : Int) := by push_cast; rfl
  rw [e]
  generalize m / 2 ^ (k - 2) = a
  have e2 : Int.tmod (a : Int) 4 = ((a % 4 : Nat) : Int) := rfl
  rw [e2]
  unfold wrap64
  omega
set_option maxHeartbeats 2000000 in
theorem bucketOf_any (n : Int) (w : World) (h0 : 0 ≤ n) : Calls Try.prog 26 #[.int .i64 n] w fun e w' => e = .returned (.int .i64 (Hi.bn n : Nat)) ∧ w = w' := by
  have hm0 : 0 ≤ Hi.most n := by unfold Hi.most; split <;> omega
  obtain ⟨m, hm⟩ := Int.eq_ofNat_of_zero_le hm0
  have hml : m ≤ 1048576 := by have := Hi.most_range n; omega
  have hbn : Hi.bn n = Hi.bkN m := by unfold Hi.bn; rw [hm]; rfl
  rw [hbn]
  clear hbn hm0
  unfold Hi.most at hm
  by_cases h16 : m < 16
  · have e : Hi.bkN m = m := if_pos h16
    rw [e]
    rw [if_pos (by split at hm <;> omega)] at hm
    subst hm
    go_enter Try.func26, Try.ntmps26
    go_wp2_with fail
    go_ret
    exact ⟨rfl, rfl⟩
  · have hl := Hi.log_range (by omega) hml
    have hb := bitLen_log (m := m) (by omega) hml
    have c := len_any m w (by omega) (by omega)
    rw [Int.toNat_natCast, hb] at c
    have e : Hi.bkN m = 16 + 4 * (m.log2 - 4) + m / 2 ^ (m.log2 - 2) % 4 := if_neg h16
    rw [e]
    clear e hb
    generalize m.log2 = k at *
    have HF := hidD (Hi.bk_num (m := m) hl)
    generalize (16 + 4 * (k - 4) + m / 2 ^ (k - 2) % 4 : Nat) = z at *
    have e1 : IntKind.i64.wrap (((k + 1 : Nat) : Int) - 1) = (k : Int) := by rw [show ((k + 1 : Nat) : Int) - 1 = (k : Int) by omega]; exact wrap_ok (by omega) (by omega)
    have e2 : IntKind.i64.wrap ((k : Int) - 2) = ((k - 2 : Nat) : Int) := by rw [show (k : Int) - 2 = ((k - 2 : Nat) : Int) by omega]; exact wrap_ok (by omega) (by omega)
    by_cases hle : n ≤ 1048576
    · rw [if_pos hle] at hm
      subst hm
      go_enter Try.func26, Try.ntmps26
      go_wp2_with fail
      refine c.mono ?_
      rintro e w2 ⟨rfl, rfl⟩
      go_wp2_with fail
      go_ret
      exact ⟨congrArg Ending.returned (congrArg (Value.int IntKind.i64) HF.out), rfl⟩
    · rw [if_neg hle] at hm
      have hm2 : m = 1048576 := by omega
      subst hm2
      clear hm
      go_enter Try.func26, Try.ntmps26
      go_wp2_with fail
      refine c.mono ?_
      rintro e w2 ⟨rfl, rfl⟩
      go_wp2_with fail
      go_ret
      exact ⟨congrArg Ending.returned (congrArg (Value.int IntKind.i64) HF.out), rfl⟩
def Hi.bkE (n : Int) : Int := if n < 0 then 4 else 0
def Hi.bkR (n : Int) : Int := if n < 0 then 0 else (Hi.bn n : Nat)
set_option maxHeartbeats 1000000 in
theorem bucket_any (n : Int) (w : World) : Calls Try.prog 10 #[.int .i64 n] w fun e w' => e = .returned (.tuple #[.int .i64 (Hi.bkR n), .int .i64 (Hi.bkE n)]) ∧ w = w' := by
  unfold Hi.bkR Hi.bkE
  by_cases h : n < 0
  · rw [if_pos h, if_pos h]
    go_enter Try.func10, Try.ntmps10
    go_wp2_with fail
    go_ret2
    exact ⟨rfl, rfl⟩
  · rw [if_neg h, if_neg h]
    have c := bucketOf_any n w (by omega)
    generalize (Hi.bn n : Int) = z at *
    go_enter Try.func10, Try.ntmps10
    go_wp2_with fail
    refine c.mono ?_
    rintro e w2 ⟨rfl, rfl⟩
    go_wp2_with fail
    go_ret2
    exact ⟨rfl, rfl⟩
end Go.Proofs.Ythdaldgmolhljaa
