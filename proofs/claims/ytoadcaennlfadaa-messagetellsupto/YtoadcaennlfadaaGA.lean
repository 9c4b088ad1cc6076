/- The plain mathematics: a number as octets, a number read from octets, turned numbers. Shifts and the bitwise or of a number's next seven bits. What is put is got; what is got is what putting makes. -/
import Derived.Test.YtoadcaennlfadaaProg
import Derived.WalkKit
namespace Go.Proofs.Ytoadcaennlfadaa.Pl

/-- The octets of a number, with so many octets more at most. -/
def enc : Nat → Int → List Int
  | 0, n => [n]
  | f + 1, n => if n < 128 then [n] else (n % 128 + 128) :: enc f (n / 128)

/-- 2^(7 f + 1). -/
def lim : Nat → Int
  | 0 => 2
  | f + 1 => 128 * lim f

/-- 128^i. -/
def sc : Nat → Int
  | 0 => 1
  | i + 1 => 128 * sc i

def mayB (i : Nat) (c : Int) : Bool := if i = 9 then c == 1 else (i == 0 || c != 0)

/-- The number that octets begin with: it, where it ends, the error. -/
def getS : List Int → Nat → Int → Int → Int × Int × Int
  | [], _, _, _ => (0, 0, 8)
  | c :: r, i, p, acc =>
    if mayB i c = true then (if c < 128 then (acc + c % 128 * sc i, p + 1, 0) else getS r (i + 1) (p + 1) (acc + c % 128 * sc i)) else (0, 0, 21)

def getI (l : List Int) (at_ : Int) : Int × Int × Int :=
  if at_ < 0 ∨ (l.length : Int) < at_ then (0, 0, 4) else getS (l.drop at_.toNat) 0 at_ 0

def zig (n : Int) : Int := if 0 ≤ n then 2 * n else -2 * n - 1
def zag (n : Int) : Int := if n % 2 = 0 then n / 2 else -(n / 2) - 1

theorem lim_pos (f : Nat) : 2 ≤ lim f := by
  induction f with
  | zero => simp [lim]
  | succ f ih => simp only [lim]; omega

theorem lim_le {f : Nat} (h : f ≤ 9) : lim f ≤ 18446744073709551616 := by
  match f, h with
  | 0, _ => decide +kernel
  | 1, _ => decide +kernel
  | 2, _ => decide +kernel
  | 3, _ => decide +kernel
  | 4, _ => decide +kernel
  | 5, _ => decide +kernel
  | 6, _ => decide +kernel
  | 7, _ => decide +kernel
  | 8, _ => decide +kernel
  | 9, _ => decide +kernel

theorem lim9 : lim 9 = 18446744073709551616 := by decide +kernel

theorem enc_lt {f : Nat} {n : Int} (h : n < 128) : enc f n = [n] := by
  cases f <;> simp [enc, h]
theorem enc_ge {f : Nat} {n : Int} (h : 128 ≤ n) : enc (f + 1) n = (n % 128 + 128) :: enc f (n / 128) := by
  simp only [enc]; rw [if_neg (by omega)]
theorem enc_len_pos (f : Nat) (n : Int) : 1 ≤ (enc f n).length := by
  cases f <;> simp [enc]; split <;> simp
theorem enc_len_le (f : Nat) (n : Int) : (enc f n).length ≤ f + 1 := by
  induction f generalizing n with
  | zero => simp [enc]
  | succ f ih => simp only [enc]; split <;> simp; exact ih _

theorem zag_zig (n : Int) : zag (zig n) = n := by
  unfold zag zig; split <;> split <;> omega
theorem zig_zag (n : Int) (h : 0 ≤ n) : zig (zag n) = n := by
  unfold zag zig; split <;> split <;> omega
theorem zig_bd (n : Int) (h0 : -9223372036854775808 ≤ n) (h1 : n ≤ 9223372036854775807) : 0 ≤ zig n ∧ zig n ≤ 18446744073709551615 := by
  unfold zig; split <;> omega
theorem zag_bd (n : Int) (h0 : 0 ≤ n) (h1 : n ≤ 18446744073709551615) : -9223372036854775808 ≤ zag n ∧ zag n ≤ 9223372036854775807 := by
  unfold zag; split <;> omega
/-- A number that is no greater has no more octets. -/
theorem enc_mono (f : Nat) (a b : Int) (h0 : 0 ≤ a) (h : a ≤ b) : (enc f a).length ≤ (enc f b).length := by
  induction f generalizing a b with
  | zero => simp [enc]
  | succ f ih =>
    by_cases ha : a < 128
    · rw [enc_lt ha]; exact enc_len_pos _ _
    · rw [enc_ge (by omega), enc_ge (by omega)]
      simp only [List.length_cons]
      have := ih (a / 128) (b / 128) (by omega) (by omega)
      omega
end Go.Proofs.Ytoadcaennlfadaa.Pl

namespace Go.Proofs.Ytoadcaennlfadaa.Pl

theorem sc_pow (k : Nat) : sc k = ((2 ^ (7 * k) : Nat) : Int) := by
  induction k with
  | zero => simp [sc]
  | succ k ih =>
    simp only [sc, ih]
    rw [show 7 * (k + 1) = 7 * k + 7 from by omega, Nat.pow_add]
    simp only [Nat.reducePow, Int.natCast_mul]
    generalize ((2 ^ (7 * k) : Nat) : Int) = z
    omega

theorem sc_pos (k : Nat) : 1 ≤ sc k := by
  induction k with
  | zero => simp [sc]
  | succ k ih => simp only [sc]; omega

theorem mayB_nine {c : Int} (h : mayB 9 c = true) : c = 1 := by simpa [mayB] using h

theorem dig_lt (k : Nat) (c : Int) (hk : k ≤ 9) (hm : mayB k c = true) : (c % 128).toNat * 2 ^ (7 * k) < 18446744073709551616 := by
  by_cases h9 : k = 9
  · subst h9
    have := mayB_nine hm
    subst this
    decide
  · have h1 : 2 ^ (7 * k) ≤ 2 ^ 56 := Nat.pow_le_pow_right (by decide) (by omega)
    have h2 : (c % 128).toNat ≤ 127 := by omega
    have h3 := Nat.mul_le_mul h2 h1
    have h4 : 127 * 2 ^ 56 < 18446744073709551616 := by decide
    omega

theorem or_step (k : Nat) (acc c : Int) (hk : k ≤ 9) (h0 : 0 ≤ acc) (h1 : acc < sc k) (hm : mayB k c = true) :
    bits .or .u64 acc (IntKind.u64.wrap (c % 128 * 2 ^ (7 * k))) = acc + c % 128 * sc k := by
  have hd := dig_lt k c hk hm
  rw [sc_pow] at *
  have hc : c % 128 = (((c % 128).toNat : Nat) : Int) := by omega
  rw [hc]
  generalize (c % 128).toNat = d at hd
  obtain ⟨a, rfl⟩ := Int.eq_ofNat_of_zero_le h0
  have ha : a < 2 ^ (7 * k) := by exact_mod_cast h1
  have hp : ((d : Int) * 2 ^ (7 * k)) = ((d * 2 ^ (7 * k) : Nat) : Int) := by simp
  have hw : IntKind.u64.wrap ((d * 2 ^ (7 * k) : Nat) : Int) = ((d * 2 ^ (7 * k) : Nat) : Int) := by
    generalize d * 2 ^ (7 * k) = x at hd
    simp only [IntKind.wrap, IntKind.bits, IntKind.signed]
    simp
    omega
  rw [hp, hw]
  have hl : a < 18446744073709551616 := by
    have : 2 ^ (7 * k) ≤ 2 ^ 63 := Nat.pow_le_pow_right (by decide) (by omega)
    have h4 : 2 ^ 63 < 18446744073709551616 := by decide
    omega
  rw [u64_or_nat a _ hl hd, Nat.or_comm, nat_join (7 * k) _ _ (by simp) ha]
  simp only [Int.natCast_add, Int.natCast_mul]
  omega

/-- The sum stays below the next power. -/
theorem acc_next (k : Nat) (acc c : Int) (h0 : 0 ≤ acc) (h1 : acc < sc k) : 0 ≤ acc + c % 128 * sc k ∧ acc + c % 128 * sc k < sc (k + 1) := by
  have hp := sc_pos k
  have hc0 : 0 ≤ c % 128 := by omega
  have hc1 : c % 128 ≤ 127 := by omega
  have h2 : 0 ≤ c % 128 * sc k := Int.mul_nonneg hc0 (by omega)
  have h3 : c % 128 * sc k ≤ 127 * sc k := Int.mul_le_mul_of_nonneg_right hc1 (by omega)
  simp only [sc]
  omega

theorem acc_bd (k : Nat) (acc c : Int) (hk : k ≤ 9) (h0 : 0 ≤ acc) (h1 : acc < sc k) (hm : mayB k c = true) : acc + c % 128 * sc k ≤ 18446744073709551615 := by
  by_cases h9 : k = 9
  · subst h9
    have := mayB_nine hm
    subst this
    have : sc 9 = 9223372036854775808 := by decide +kernel
    omega
  · have := acc_next k acc c h0 h1
    have h8 : sc (k + 1) ≤ 9223372036854775808 := by
      rw [sc_pow]
      have : 2 ^ (7 * (k + 1)) ≤ 2 ^ 63 := Nat.pow_le_pow_right (by decide) (by omega)
      have h4 : 2 ^ 63 = 9223372036854775808 := by decide
      omega
    omega
end Go.Proofs.Ytoadcaennlfadaa.Pl

namespace Go.Proofs.Ytoadcaennlfadaa.Pl

theorem enc_oct (f : Nat) (m : Int) (h0 : 0 ≤ m) (h1 : m < lim f) : ∀ z ∈ enc f m, 0 ≤ z ∧ z ≤ 255 := by
  induction f generalizing m with
  | zero => intro z hz; simp only [lim] at h1; simp [enc] at hz; omega
  | succ f ih =>
    intro z hz
    by_cases hm : m < 128
    · rw [enc_lt hm] at hz; simp at hz; omega
    · rw [enc_ge (by omega)] at hz
      rcases List.mem_cons.1 hz with rfl | hz
      · omega
      · exact ih (m / 128) (by omega) (by simp only [lim] at h1; omega) z hz

/-- What is put is got. -/
theorem get_enc (f : Nat) (m : Int) (r : List Int) (p acc : Int) (hf : f ≤ 9) (h0 : 0 ≤ m) (h1 : m < lim f) (hz : f < 9 → 1 ≤ m) :
    getS (enc f m ++ r) (9 - f) p acc = (acc + m * sc (9 - f), p + ((enc f m).length : Int), 0) := by
  induction f generalizing m p acc with
  | zero =>
    simp only [lim] at h1
    have hm : m = 1 := by have := hz (by omega); omega
    subst hm
    simp [enc, getS, mayB]
  | succ f ih =>
    by_cases hm : m < 128
    · rw [enc_lt hm]
      have hmay : mayB (9 - (f + 1)) m = true := by
        unfold mayB
        rw [if_neg (by omega)]
        by_cases h9 : f + 1 = 9
        · simp [h9]
        · have := hz (by omega)
          simp
          omega
      simp only [List.cons_append, List.nil_append, getS]
      rw [if_pos hmay, if_pos hm, show m % 128 = m from by omega]
      simp
    · rw [enc_ge (by omega)]
      have hmay : mayB (9 - (f + 1)) (m % 128 + 128) = true := by
        unfold mayB
        rw [if_neg (by omega)]
        simp
        omega
      simp only [List.cons_append, getS]
      rw [if_pos hmay, if_neg (by omega)]
      have hi := ih (m / 128) (p + 1) (acc + (m % 128 + 128) % 128 * sc (9 - (f + 1))) (by omega) (by omega) (by simp only [lim] at h1; omega) (fun _ => by omega)
      rw [show 9 - (f + 1) + 1 = 9 - f from by omega, hi]
      have hs : sc (9 - f) = 128 * sc (9 - (f + 1)) := by rw [show 9 - f = (9 - (f + 1)) + 1 from by omega]; rfl
      rw [hs]
      generalize sc (9 - (f + 1)) = S
      have e1 : acc + (m % 128 + 128) % 128 * S + m / 128 * (128 * S) = acc + m * S := by
        have e2 : (m % 128 + 128) % 128 = m % 128 := by omega
        have e3 : m / 128 * (128 * S) = (m / 128 * 128) * S := by rw [Int.mul_assoc]
        rw [e2, e3, Int.add_assoc, ← Int.add_mul]
        congr 2
        omega
      rw [e1]
      simp only [List.length_cons]
      congr 2
      omega

theorem get_put (a b : List Int) (n : Int) (h0 : 0 ≤ n) (h1 : n ≤ 18446744073709551615) : getI (a ++ enc 9 n ++ b) a.length = (n, (a.length : Int) + ((enc 9 n).length : Int), 0) := by
  unfold getI
  rw [if_neg (by simp only [List.length_append]; omega), Int.toNat_natCast, List.append_assoc, List.drop_left]
  have := get_enc 9 n b a.length 0 (by omega) h0 (by rw [lim9]; omega) (by omega)
  simpa [sc] using this

/-- What is got is what putting makes. -/
theorem enc_get (f : Nat) (l : List Int) (p acc n q : Int) (hf : f ≤ 9) (ho : ∀ z ∈ l, 0 ≤ z ∧ z ≤ 255) (h : getS l (9 - f) p acc = (n, q, 0)) :
    ∃ (m : Int) (r : List Int), 0 ≤ m ∧ m < lim f ∧ (f < 9 → 1 ≤ m) ∧ l = enc f m ++ r ∧ q = p + ((enc f m).length : Int) ∧ n = acc + m * sc (9 - f) := by
  induction f generalizing l p acc with
  | zero =>
    cases l with
    | nil => simp [getS] at h
    | cons c r =>
      by_cases hc : c = 1
      · subst hc
        simp [getS, mayB] at h
        exact ⟨1, r, by omega, by simp [lim], fun _ => by omega, by simp [enc], by simp [enc]; omega, by rw [← h.1]; simp⟩
      · simp [getS, mayB, hc] at h
  | succ f ih =>
    cases l with
    | nil => simp [getS] at h
    | cons c r =>
      have hoc := ho c List.mem_cons_self
      simp only [getS] at h
      by_cases hm : mayB (9 - (f + 1)) c = true
      · rw [if_pos hm] at h
        by_cases hc : c < 128
        · rw [if_pos hc] at h
          simp only [Prod.mk.injEq] at h
          have h1 : f + 1 < 9 → 1 ≤ c := by
            intro hf9
            unfold mayB at hm
            rw [if_neg (by omega)] at hm
            simp at hm
            omega
          have hl : c < lim (f + 1) := by have := lim_pos f; simp only [lim]; omega
          refine ⟨c, r, hoc.1, hl, h1, by rw [enc_lt hc]; rfl, by rw [enc_lt hc]; simp; omega, ?_⟩
          rw [show c % 128 = c from by omega] at h
          exact h.1.symm
        · rw [if_neg hc, show 9 - (f + 1) + 1 = 9 - f from by omega] at h
          obtain ⟨m, r', hm0, hm1, hm2, hl, hq, hn⟩ := ih r (p + 1) _ (by omega) (fun z hz => ho z (List.mem_cons_of_mem _ hz)) h
          have hm3 := hm2 (by omega)
          have e1 : (c - 128 + 128 * m) / 128 = m := by omega
          have e2 : (c - 128 + 128 * m) % 128 + 128 = c := by omega
          have he : enc (f + 1) (c - 128 + 128 * m) = c :: enc f m := by rw [enc_ge (by omega), e1, e2]
          refine ⟨c - 128 + 128 * m, r', by omega, by simp only [lim]; omega, fun _ => by omega, by rw [he, hl]; rfl, by rw [he, hq]; simp only [List.length_cons]; omega, ?_⟩
          rw [hn]
          have hs : sc (9 - f) = 128 * sc (9 - (f + 1)) := by rw [show 9 - f = (9 - (f + 1)) + 1 from by omega]; rfl
          rw [hs]
          generalize sc (9 - (f + 1)) = S
          have e3 : c % 128 = c - 128 := by omega
          rw [e3, Int.add_mul, show m * (128 * S) = 128 * m * S from by rw [← Int.mul_assoc, Int.mul_comm m 128]]
          omega
      · rw [if_neg hm] at h
        simp at h

theorem getS_err (l : List Int) (i : Nat) (p acc : Int) : (getS l i p acc).2.2 = 0 ∨ getS l i p acc = (0, 0, 8) ∨ getS l i p acc = (0, 0, 21) := by
  induction l generalizing i p acc with
  | nil => simp [getS]
  | cons c r ih =>
    simp only [getS]
    split
    · split
      · simp
      · exact ih _ _ _
    · simp

theorem getI_err (l : List Int) (p : Int) : (getI l p).2.2 = 0 ∨ getI l p = (0, 0, 4) ∨ getI l p = (0, 0, 8) ∨ getI l p = (0, 0, 21) := by
  unfold getI
  split
  · simp
  · rcases getS_err (l.drop p.toNat) 0 p 0 with h | h | h
    · exact .inl h
    · exact .inr (.inr (.inl h))
    · exact .inr (.inr (.inr h))

/-- A number that is got. -/
theorem getI_ok (l : List Int) (p : Int) (n q : Int) (ho : ∀ z ∈ l, 0 ≤ z ∧ z ≤ 255) (h : getI l p = (n, q, 0)) :
    0 ≤ p ∧ 0 ≤ n ∧ n ≤ 18446744073709551615 ∧ p < q ∧ q ≤ l.length ∧ ∃ r, l.drop p.toNat = enc 9 n ++ r ∧ q = p + ((enc 9 n).length : Int) := by
  unfold getI at h
  split at h
  · simp at h
  · obtain ⟨m, r, h0, h1, _, hl, hq, hn⟩ := enc_get 9 (l.drop p.toNat) p 0 n q (by omega) (fun z hz => ho z (List.mem_of_mem_drop hz)) h
    simp [sc] at hn
    subst hn
    have hlen := congrArg List.length hl
    simp only [List.length_drop, List.length_append] at hlen
    have hp := enc_len_pos 9 n
    rw [lim9] at h1
    exact ⟨by omega, h0, by omega, by omega, by omega, r, hl, hq⟩
end Go.Proofs.Ytoadcaennlfadaa.Pl

