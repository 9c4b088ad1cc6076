/- The plain mathematics: a number as octets, a number read from octets, turned numbers. -/
import Derived.Test.YtoadcaennlfadaaProg
namespace Go.Proofs.Ytoadcaennlfadaa.Pl

/-- The octets of a number, with so many octets more at most. -/
def enc : Nat → Int → List Int
  | 0, n => [n]
  | f + 1, n => if n < 128 then [n] else (n % 128 + 128) :: enc f (n / 128)

/-- 2^(7 f + 1). -/
def lim : Nat → Int
  | 0 => 2
  | f + 1 => 128 * lim f

/-- 128^i. -/
def sc : Nat → Int
  | 0 => 1
  | i + 1 => 128 * sc i

def mayB (i : Nat) (c : Int) : Bool := if i = 9 then c == 1 else (i == 0 || c != 0)

/-- The number that octets begin with: it, where it ends, the error. -/
def getS : List Int → Nat → Int → Int → Int × Int × Int
  | [], _, _, _ => (0, 0, 8)
  | c :: r, i, p, acc =>
    if mayB i c = true then (if c < 128 then (acc + c % 128 * sc i, p + 1, 0) else getS r (i + 1) (p + 1) (acc + c % 128 * sc i)) else (0, 0, 21)

def getI (l : List Int) (at_ : Int) : Int × Int × Int :=
  if at_ < 0 ∨ (l.length : Int) < at_ then (0, 0, 4) else getS (l.drop at_.toNat) 0 at_ 0

def zig (n : Int) : Int := if 0 ≤ n then 2 * n else -2 * n - 1
def zag (n : Int) : Int := if n % 2 = 0 then n / 2 else -(n / 2) - 1

theorem lim_pos (f : Nat) : 2 ≤ lim f := by
  induction f with
  | zero => simp [lim]
  | succ f ih => simp only [lim]; omega

theorem lim_le {f : Nat} (h : f ≤ 9) : lim f ≤ 18446744073709551616 := by
  match f, h with
  | 0, _ => decide +kernel
  | 1, _ => decide +kernel
  | 2, _ => decide +kernel
  | 3, _ => decide +kernel
  | 4, _ => decide +kernel
  | 5, _ => decide +kernel
  | 6, _ => decide +kernel
  | 7, _ => decide +kernel
  | 8, _ => decide +kernel
  | 9, _ => decide +kernel

theorem lim9 : lim 9 = 18446744073709551616 := by decide +kernel

theorem enc_lt {f : Nat} {n : Int} (h : n < 128) : enc f n = [n] := by
  cases f <;> simp [enc, h]
theorem enc_ge {f : Nat} {n : Int} (h : 128 ≤ n) : enc (f + 1) n = (n % 128 + 128) :: enc f (n / 128) := by
  simp only [enc]; rw [if_neg (by omega)]
theorem enc_len_pos (f : Nat) (n : Int) : 1 ≤ (enc f n).length := by
  cases f <;> simp [enc]; split <;> simp
theorem enc_len_le (f : Nat) (n : Int) : (enc f n).length ≤ f + 1 := by
  induction f generalizing n with
  | zero => simp [enc]
  | succ f ih => simp only [enc]; split <;> simp; exact ih _

theorem zag_zig (n : Int) : zag (zig n) = n := by
  unfold zag zig; split <;> split <;> omega
theorem zig_zag (n : Int) (h : 0 ≤ n) : zig (zag n) = n := by
  unfold zag zig; split <;> split <;> omega
theorem zig_bd (n : Int) (h0 : -9223372036854775808 ≤ n) (h1 : n ≤ 9223372036854775807) : 0 ≤ zig n ∧ zig n ≤ 18446744073709551615 := by
  unfold zig; split <;> omega
theorem zag_bd (n : Int) (h0 : 0 ≤ n) (h1 : n ≤ 18446744073709551615) : -9223372036854775808 ≤ zag n ∧ zag n ≤ 9223372036854775807 := by
  unfold zag; split <;> omega
/-- A number that is no greater has no more octets. -/
theorem enc_mono (f : Nat) (a b : Int) (h0 : 0 ≤ a) (h : a ≤ b) : (enc f a).length ≤ (enc f b).length := by
  induction f generalizing a b with
  | zero => simp [enc]
  | succ f ih =>
    by_cases ha : a < 128
    · rw [enc_lt ha]; exact enc_len_pos _ _
    · rw [enc_ge (by omega), enc_ge (by omega)]
      simp only [List.length_cons]
      have := ih (a / 128) (b / 128) (by omega) (by omega)
      omega
end Go.Proofs.Ytoadcaennlfadaa.Pl
