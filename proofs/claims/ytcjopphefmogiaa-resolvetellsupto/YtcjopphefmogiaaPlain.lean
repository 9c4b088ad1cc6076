/- The register: numbers below 2^32, one step of it, its way back. -/
namespace Go.Proofs.Ytcjopphefmogiaa.Pl

theorem xmod2 (x y : Nat) : (x ^^^ y) % 2 = x % 2 ^^^ y % 2 := by simpa using Nat.xor_mod_two_pow (a := x) (b := y) (n := 1)
theorem xlc (x y z : Nat) : x ^^^ (y ^^^ z) = y ^^^ (x ^^^ z) := by rw [← Nat.xor_assoc, Nat.xor_comm x y, Nat.xor_assoc]
theorem xx (x y : Nat) : x ^^^ (x ^^^ y) = y := by rw [← Nat.xor_assoc, Nat.xor_self, Nat.zero_xor]
theorem xlt {x y : Nat} (h : x < 4294967296) (k : y < 4294967296) : x ^^^ y < 4294967296 := Nat.xor_lt_two_pow (n := 32) h k

def st (x : Nat) : Nat := x / 2 ^^^ 3988292384 * (x % 2)
def bk (x : Nat) : Nat := (x ^^^ 3988292384 * (x / 2147483648)) * 2 % 4294967296 + x / 2147483648

theorem st_lt {x : Nat} (h : x < 4294967296) : st x < 4294967296 := by
  unfold st
  apply xlt
  · omega
  · rcases Nat.mod_two_eq_zero_or_one x with e | e <;> rw [e] <;> decide

theorem st_xor (x y : Nat) : st (x ^^^ y) = st x ^^^ st y := by
  unfold st
  rw [Nat.xor_div_two, xmod2]
  have : 3988292384 * (x % 2 ^^^ y % 2) = 3988292384 * (x % 2) ^^^ 3988292384 * (y % 2) := by
    rcases Nat.mod_two_eq_zero_or_one x with e | e <;> rcases Nat.mod_two_eq_zero_or_one y with f | f <;> rw [e, f] <;> decide
  rw [this]
  simp only [Nat.xor_assoc, xlc]

theorem xdiv31 (x y : Nat) : (x ^^^ y) / 2147483648 = x / 2147483648 ^^^ y / 2147483648 := Nat.xor_div_two_pow (n := 31)

theorem bk_st {x : Nat} (h : x < 4294967296) : bk (st x) = x := by
  unfold bk st
  have h0 : x / 2 / 2147483648 = 0 := by omega
  rcases Nat.mod_two_eq_zero_or_one x with e | e
  · rw [e, Nat.mul_zero, Nat.xor_zero, h0, Nat.mul_zero, Nat.xor_zero]
    omega
  · rw [e, Nat.mul_one, xdiv31, h0]
    have : (0 ^^^ 3988292384 / 2147483648) = 1 := by decide
    rw [this, Nat.mul_one, Nat.xor_assoc, Nat.xor_self, Nat.xor_zero]
    omega

theorem bk_lt {x : Nat} (h : x < 4294967296) : bk x < 4294967296 := by
  unfold bk
  have : x / 2147483648 = 0 ∨ x / 2147483648 = 1 := by omega
  omega

theorem st_bk {x : Nat} (h : x < 4294967296) : st (bk x) = x := by
  have h2 : x / 2147483648 = 0 ∨ x / 2147483648 = 1 := by omega
  unfold bk
  rcases h2 with e | e
  · rw [e, Nat.mul_zero, Nat.xor_zero]
    unfold st
    have h1 : (x * 2 % 4294967296 + 0) / 2 = x := by omega
    have h2 : (x * 2 % 4294967296 + 0) % 2 = 0 := by omega
    rw [h1, h2, Nat.mul_zero, Nat.xor_zero]
  · rw [e, Nat.mul_one]
    have hy : (x ^^^ 3988292384) / 2147483648 = 0 := by rw [xdiv31, e]; decide
    unfold st
    generalize hz : x ^^^ 3988292384 = y at *
    have h1 : (y * 2 % 4294967296 + 1) / 2 = y := by omega
    have h2 : (y * 2 % 4294967296 + 1) % 2 = 1 := by omega
    rw [h1, h2, ← hz, Nat.mul_one, Nat.xor_assoc, Nat.xor_self, Nat.xor_zero]

def it : Nat → Nat → Nat
  | 0, x => x
  | n + 1, x => it n (st x)
def bt : Nat → Nat → Nat
  | 0, x => x
  | n + 1, x => bt n (bk x)

theorem it_succ (n x : Nat) : it (n + 1) x = st (it n x) := by
  induction n generalizing x with
  | zero => rfl
  | succ n ih => rw [it, ih (st x)]; rfl
theorem bt_succ (n x : Nat) : bt (n + 1) x = bk (bt n x) := by
  induction n generalizing x with
  | zero => rfl
  | succ n ih => rw [bt, ih (bk x)]; rfl
theorem it_add (m n x : Nat) : it (m + n) x = it n (it m x) := by
  induction m generalizing x with
  | zero => rw [Nat.zero_add]; rfl
  | succ m ih => rw [Nat.succ_add]; exact ih _
theorem it_lt {n x : Nat} (h : x < 4294967296) : it n x < 4294967296 := by
  induction n generalizing x with
  | zero => exact h
  | succ n ih => exact ih (st_lt h)
theorem bt_lt {n x : Nat} (h : x < 4294967296) : bt n x < 4294967296 := by
  induction n generalizing x with
  | zero => exact h
  | succ n ih => exact ih (bk_lt h)
theorem it_xor (n x y : Nat) : it n (x ^^^ y) = it n x ^^^ it n y := by
  induction n generalizing x y with
  | zero => rfl
  | succ n ih => rw [it, it, it, st_xor, ih]
theorem it_zero (n : Nat) : it n 0 = 0 := by
  induction n with
  | zero => rfl
  | succ n ih => exact ih
theorem bt_it {n x : Nat} (h : x < 4294967296) : bt n (it n x) = x := by
  induction n generalizing x with
  | zero => rfl
  | succ n ih => rw [bt_succ, it, ih (st_lt h), bk_st h]
theorem it_bt {n x : Nat} (h : x < 4294967296) : it n (bt n x) = x := by
  induction n generalizing x with
  | zero => rfl
  | succ n ih => rw [it_succ, bt, ih (bk_lt h), st_bk h]
theorem it_inj {n x y : Nat} (hx : x < 4294967296) (hy : y < 4294967296) (h : it n x = it n y) : x = y := by
  rw [← bt_it (n := n) hx, h, bt_it hy]

/-- A bit goes down. -/
theorem st_two (x : Nat) : st (2 * x) = x := by
  unfold st
  have h1 : 2 * x / 2 = x := by omega
  have h2 : 2 * x % 2 = 0 := by omega
  rw [h1, h2, Nat.mul_zero, Nat.xor_zero]
theorem it_pow (n x : Nat) : it n (2 ^ n * x) = x := by
  induction n generalizing x with
  | zero => rw [Nat.pow_zero, Nat.one_mul]; rfl
  | succ n ih =>
    rw [it, show 2 ^ (n + 1) * x = 2 * (2 ^ n * x) by rw [Nat.pow_succ, Nat.mul_comm (2 ^ n) 2, Nat.mul_assoc], st_two]
    exact ih x

/-- The register behind octets, and back. -/
def run (c : Nat) (l : List Int) : Nat := l.foldl (fun c o => it 8 (c ^^^ o.toNat)) c
def nur (c : Nat) (l : List Int) : Nat := l.foldr (fun o c => bt 8 c ^^^ o.toNat) c

def Octs (l : List Int) : Prop := ∀ z ∈ l, 0 ≤ z ∧ z ≤ 255

theorem run_nil (c : Nat) : run c [] = c := rfl
theorem run_cons (c : Nat) (o : Int) (l : List Int) : run c (o :: l) = run (it 8 (c ^^^ o.toNat)) l := rfl
theorem run_app (c : Nat) (l m : List Int) : run c (l ++ m) = run (run c l) m := by simp [run, List.foldl_append]
theorem nur_cons (c : Nat) (o : Int) (l : List Int) : nur c (o :: l) = bt 8 (nur c l) ^^^ o.toNat := rfl
theorem run_snoc (c : Nat) (l : List Int) (o : Int) : run c (l ++ [o]) = it 8 (run c l ^^^ o.toNat) := by rw [run_app]; rfl

theorem oct_lt {o : Int} (h : 0 ≤ o ∧ o ≤ 255) : o.toNat < 4294967296 := by omega

theorem run_lt {c : Nat} {l : List Int} (hc : c < 4294967296) (h : Octs l) : run c l < 4294967296 := by
  induction l generalizing c with
  | nil => exact hc
  | cons o r ih =>
    rw [run_cons]
    exact ih (it_lt (xlt hc (oct_lt (h o (by simp))))) (fun z hz => h z (by simp [hz]))
theorem nur_lt {c : Nat} {l : List Int} (hc : c < 4294967296) (h : Octs l) : nur c l < 4294967296 := by
  induction l with
  | nil => exact hc
  | cons o r ih => exact xlt (bt_lt (ih (fun z hz => h z (by simp [hz])))) (oct_lt (h o (by simp)))
theorem nur_run {c : Nat} {l : List Int} (hc : c < 4294967296) (h : Octs l) : nur (run c l) l = c := by
  induction l generalizing c with
  | nil => rfl
  | cons o r ih =>
    have ho := oct_lt (h o (by simp))
    rw [run_cons, nur_cons, ih (it_lt (xlt hc ho)) (fun z hz => h z (by simp [hz])), bt_it (xlt hc ho), Nat.xor_assoc, Nat.xor_self, Nat.xor_zero]
theorem run_nur {c : Nat} {l : List Int} (hc : c < 4294967296) (h : Octs l) : run (nur c l) l = c := by
  induction l with
  | nil => rfl
  | cons o r ih =>
    have hr : Octs r := fun z hz => h z (by simp [hz])
    rw [nur_cons, run_cons, Nat.xor_assoc, Nat.xor_self, Nat.xor_zero, it_bt (nur_lt hc hr), ih hr]

/-- A change of the register goes on by itself. -/
theorem run_xor (c d : Nat) (l : List Int) : run (c ^^^ d) l = run c l ^^^ it (8 * l.length) d := by
  induction l generalizing c d with
  | nil => rfl
  | cons o r ih =>
    rw [run_cons, run_cons, show c ^^^ d ^^^ o.toNat = (c ^^^ o.toNat) ^^^ d by rw [Nat.xor_assoc, Nat.xor_comm d, ← Nat.xor_assoc], it_xor, ih, ← it_add]
    congr 2
    simp only [List.length_cons]
    omega

/-- Three texts, bit by bit. -/
theorem run_three (a b c : List Int) (p q r : Nat) (x : List Int) (h1 : a.length = x.length) (h2 : b.length = x.length) (h3 : c.length = x.length)
    (hx : ∀ i, i < x.length → (x.getD i 0).toNat = (a.getD i 0).toNat ^^^ (b.getD i 0).toNat ^^^ (c.getD i 0).toNat) :
    run (p ^^^ q ^^^ r) x = run p a ^^^ run q b ^^^ run r c := by
  induction x generalizing a b c p q r with
  | nil =>
    obtain rfl := List.length_eq_zero_iff.mp h1
    obtain rfl := List.length_eq_zero_iff.mp h2
    obtain rfl := List.length_eq_zero_iff.mp h3
    rfl
  | cons o x ih =>
    cases a with
    | nil => simp at h1
    | cons a0 a =>
      cases b with
      | nil => simp at h2
      | cons b0 b =>
        cases c with
        | nil => simp at h3
        | cons c0 c =>
          have h0 := hx 0 (by simp)
          simp only [List.getD_cons_zero] at h0
          rw [run_cons, run_cons, run_cons, run_cons, h0, ← ih a b c _ _ _ (by simpa using h1) (by simpa using h2) (by simpa using h3) (fun i hi => by have := hx (i + 1) (by simp; omega); simpa using this), ← it_xor, ← it_xor]
          congr 2
          simp only [Nat.xor_assoc, xlc]
end Go.Proofs.Ytcjopphefmogiaa.Pl
