/- Mixing as natural numbers: fold undoes itself, odd factors are undone. -/
import Derived.WalkKit
namespace Go.Proofs.Ytcjopphefmogiaa
namespace Hp

def fold (x : Nat) : Nat := x ^^^ x / 8589934592
def mA (x : Nat) : Nat := x * 18397679294719823053 % 18446744073709551616
def mB (x : Nat) : Nat := x * 14181476777654086739 % 18446744073709551616
def nB (x : Nat) : Nat := x * 11291846944257947611 % 18446744073709551616
def nA (x : Nat) : Nat := x * 5725274745694666757 % 18446744073709551616
def mT (x : Nat) : Nat := x * 1099511628211 % 18446744073709551616
def mix (x : Nat) : Nat := fold (mB (fold (mA (fold x))))
def unmix (x : Nat) : Nat := fold (nA (fold (nB (fold x))))

theorem xlt {a b : Nat} (ha : a < 18446744073709551616) (hb : b < 18446744073709551616) : a ^^^ b < 18446744073709551616 := Nat.xor_lt_two_pow (n := 64) ha hb

theorem fold_lt {x : Nat} (h : x < 18446744073709551616) : fold x < 18446744073709551616 := xlt h (by omega)

theorem fold_fold {x : Nat} (h : x < 18446744073709551616) : fold (fold x) = x := by
  unfold fold
  have e : (x ^^^ x / 8589934592) / 8589934592 = x / 8589934592 ^^^ x / 8589934592 / 8589934592 := by
    have := Nat.xor_div_two_pow (a := x) (b := x / 8589934592) (n := 33)
    simpa using this
  rw [e, show x / 8589934592 / 8589934592 = 0 by omega, Nat.xor_zero, Nat.xor_assoc, Nat.xor_self, Nat.xor_zero]

theorem mul_back {x p q : Nat} (h : x < 18446744073709551616) (hpq : p * q % 18446744073709551616 = 1) : x * p % 18446744073709551616 * q % 18446744073709551616 = x := by
  rw [Nat.mod_mul_mod, Nat.mul_assoc, Nat.mul_mod, hpq, Nat.mul_one, Nat.mod_mod, Nat.mod_eq_of_lt h]

theorem mod_lt' (x : Nat) : x % 18446744073709551616 < 18446744073709551616 := Nat.mod_lt _ (by decide)

theorem mA_lt (x : Nat) : mA x < 18446744073709551616 := mod_lt' _
theorem mB_lt (x : Nat) : mB x < 18446744073709551616 := mod_lt' _
theorem nA_lt (x : Nat) : nA x < 18446744073709551616 := mod_lt' _
theorem nB_lt (x : Nat) : nB x < 18446744073709551616 := mod_lt' _
theorem mT_lt (x : Nat) : mT x < 18446744073709551616 := mod_lt' _
theorem mix_lt (x : Nat) : mix x < 18446744073709551616 := fold_lt (mB_lt _)
theorem unmix_lt (x : Nat) : unmix x < 18446744073709551616 := fold_lt (nA_lt _)
theorem nA_mA {x : Nat} (h : x < 18446744073709551616) : nA (mA x) = x := mul_back h (by decide)
theorem mA_nA {x : Nat} (h : x < 18446744073709551616) : mA (nA x) = x := mul_back h (by decide)
theorem nB_mB {x : Nat} (h : x < 18446744073709551616) : nB (mB x) = x := mul_back h (by decide)
theorem mB_nB {x : Nat} (h : x < 18446744073709551616) : mB (nB x) = x := mul_back h (by decide)

theorem unmix_mix {x : Nat} (h : x < 18446744073709551616) : unmix (mix x) = x := by
  unfold unmix mix
  rw [fold_fold (mB_lt _), nB_mB (fold_lt (mA_lt _)), fold_fold (mA_lt _), nA_mA (fold_lt h), fold_fold h]
theorem mix_unmix {x : Nat} (h : x < 18446744073709551616) : mix (unmix x) = x := by
  unfold unmix mix
  rw [fold_fold (nA_lt _), mA_nA (fold_lt (nB_lt _)), fold_fold (nB_lt _), mB_nB (fold_lt h), fold_fold h]
theorem mix_inj {x y : Nat} (hx : x < 18446744073709551616) (hy : y < 18446744073709551616) (h : mix x = mix y) : x = y := by
  rw [← unmix_mix hx, ← unmix_mix hy, h]
theorem mix_iff {x y : Nat} (hx : x < 18446744073709551616) (hy : y < 18446744073709551616) : mix x = mix y ↔ x = y := ⟨mix_inj hx hy, fun h => by rw [h]⟩

theorem mod_succ (b i : Nat) : b % 2 ^ (i + 1) = b % 2 ^ i + 2 ^ i * (b / 2 ^ i % 2) := by
  rw [Nat.pow_succ, Nat.mod_mul]

theorem times_one {a b i : Nat} (h : b / 2 ^ i % 2 = 1) : (a * (b % 2 ^ i) % 18446744073709551616 + a * 2 ^ i % 18446744073709551616) % 18446744073709551616 = a * (b % 2 ^ (i + 1)) % 18446744073709551616 := by
  rw [← Nat.add_mod, mod_succ, h, Nat.mul_one, Nat.mul_add]
theorem times_none {a b i : Nat} (h : b / 2 ^ i % 2 = 0) : a * (b % 2 ^ i) % 18446744073709551616 = a * (b % 2 ^ (i + 1)) % 18446744073709551616 := by
  rw [mod_succ, h, Nat.mul_zero, Nat.add_zero]

/-- Division by an odd number, bit by bit: what is left, and what is found. -/
def Thr (x o i y n : Nat) : Prop := y < 18446744073709551616 ∧ n < 2 ^ i ∧ y % 2 ^ i = 0 ∧ (y + o * n) % 18446744073709551616 = x

theorem thr_start {x o : Nat} (h : x < 18446744073709551616) : Thr x o 0 x 0 := by
  refine ⟨h, by decide, Nat.mod_one _, ?_⟩
  rw [Nat.mul_zero, Nat.add_zero, Nat.mod_eq_of_lt h]

theorem thr_none {x o i y n : Nat} (h : Thr x o i y n) (hb : y / 2 ^ i % 2 = 0) : Thr x o (i + 1) y n := by
  obtain ⟨h1, h2, h3, h4⟩ := h
  refine ⟨h1, Nat.lt_of_lt_of_le h2 (Nat.pow_le_pow_right (by decide) (by omega)), ?_, h4⟩
  rw [mod_succ, h3, hb]; rfl

theorem thr_one {x o i y n : Nat} (h : Thr x o i y n) (hi : i < 64) (ho : o % 2 = 1) (hb : y / 2 ^ i % 2 = 1) :
    Thr x o (i + 1) ((y + (18446744073709551616 - o * 2 ^ i % 18446744073709551616)) % 18446744073709551616) (n + 2 ^ i) := by
  obtain ⟨h1, h2, h3, h4⟩ := h
  have hm := mod_lt' (o * 2 ^ i)
  refine ⟨mod_lt' _, by rw [Nat.pow_succ]; omega, ?_, ?_⟩
  · -- both are odd multiples of 2^i, and 2^(i+1) divides 2^64
    have hd : 2 ^ (i + 1) ∣ 18446744073709551616 := by
      show 2 ^ (i + 1) ∣ 2 ^ 64
      exact Nat.pow_dvd_pow 2 (by omega)
    rw [Nat.mod_mod_of_dvd _ hd]
    obtain ⟨c, hc⟩ := hd
    have hy : y = 2 ^ i * (y / 2 ^ i) := by have := Nat.div_add_mod y (2 ^ i); omega
    have hp : 0 < 2 ^ i := Nat.pow_pos (by decide)
    obtain ⟨q, hq⟩ : ∃ q, y / 2 ^ i = 2 * q + 1 := ⟨y / 2 ^ i / 2, by omega⟩
    obtain ⟨r, hr⟩ : ∃ r, o = 2 * r + 1 := ⟨o / 2, by omega⟩
    have hdm := Nat.div_add_mod (o * 2 ^ i) 18446744073709551616
    generalize o * 2 ^ i / 18446744073709551616 = d at hdm
    generalize hmm : o * 2 ^ i % 18446744073709551616 = m at *
    -- m = o 2^i - M d
    rw [hq] at hy
    have e2 : y + (18446744073709551616 - m) + o * 2 ^ i = 18446744073709551616 * (d + 1) + y := by omega
    have e3 : 18446744073709551616 * (d + 1) + y = 2 ^ (i + 1) * (c * (d + 1) + q) + 2 ^ i := by
      rw [Nat.mul_add (2 ^ (i + 1)), ← Nat.mul_assoc (2 ^ (i + 1)) c, ← hc, hy, Nat.pow_succ, Nat.mul_add (2 ^ i), Nat.mul_one, Nat.mul_assoc (2 ^ i) 2 q]
      omega
    have e4 : o * 2 ^ i = 2 ^ (i + 1) * r + 2 ^ i := by
      rw [hr, Nat.pow_succ]
      simp only [Nat.add_mul, Nat.one_mul, Nat.mul_assoc, Nat.mul_comm]
    have e5 : y + (18446744073709551616 - m) + 2 ^ (i + 1) * r = 2 ^ (i + 1) * (c * (d + 1) + q) := by omega
    have e6 : (y + (18446744073709551616 - m) + 2 ^ (i + 1) * r) % 2 ^ (i + 1) = 0 := by rw [e5, Nat.mul_mod_right]
    rwa [Nat.add_mul_mod_self_left] at e6
  · rw [Nat.mul_add, ← h4]
    have hdm := Nat.div_add_mod (o * 2 ^ i) 18446744073709551616
    generalize o * 2 ^ i / 18446744073709551616 = d at hdm
    generalize o * 2 ^ i % 18446744073709551616 = m at *
    generalize o * 2 ^ i = z at *
    generalize o * n = u at *
    omega

theorem thr_end {x o p y n : Nat} (h : Thr x o 64 y n) (hop : o * p % 18446744073709551616 = 1) : n = x * p % 18446744073709551616 := by
  obtain ⟨h1, h2, h3, h4⟩ := h
  have : y = 0 := by rw [Nat.mod_eq_of_lt (show y < 2 ^ 64 from h1)] at h3; exact h3
  subst this
  rw [Nat.zero_add] at h4
  rw [← h4, Nat.mul_comm o n, Nat.mod_mul_mod, Nat.mul_assoc, Nat.mul_mod, hop, Nat.mul_one, Nat.mod_mod, Nat.mod_eq_of_lt (show n < 18446744073709551616 from h2)]
end Hp
end Go.Proofs.Ytcjopphefmogiaa
