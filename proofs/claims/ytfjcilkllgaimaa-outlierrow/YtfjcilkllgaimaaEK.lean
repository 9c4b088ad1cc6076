/- outlier: longer each time, plainly. -/
import Derived.Test.YtfjcilkllgaimaaEI
import Derived.Test.YtfjcilkllgaimaaOpenO
namespace Go.Proofs.Ytfjcilkllgaimaa

/-- How long the k-th time is; the tick behind it; what is known then. -/
def Ou.lg (s : Ou.Se) (k : Nat) : Int := if k = 0 then 0 else Ou.long k s
def Ou.tk (s : Ou.Se) : Nat → Int
  | 0 => 0
  | k + 1 => Ou.tk s k + Ou.long ((k : Int) + 1) s
def Ou.ok (s : Ou.Se) : Nat → Ou.St
  | 0 => Ou.zero
  | k + 1 => ⟨0, 0, 0, (k : Int) + 1, Ou.tk s k, Ou.tk s (k + 1), false⟩
theorem Ou.lg_zero (s : Ou.Se) : Ou.lg s 0 = 0 := rfl
theorem Ou.tk_zero (s : Ou.Se) : Ou.tk s 0 = 0 := rfl
theorem Ou.ok_zero (s : Ou.Se) : Ou.ok s 0 = ⟨0, 0, 0, 0, 0, 0, false⟩ := rfl
theorem Ou.lg_succ (s : Ou.Se) (k : Nat) : Ou.lg s (k + 1) = Ou.long ((k : Int) + 1) s := by
  unfold Ou.lg
  rw [if_neg (by omega)]
  rfl
theorem Ou.tk_range {s : Ou.Se} (hs : Ou.sets s = true) (k : Nat) (hk : k ≤ 1000) : 0 ≤ Ou.tk s k ∧ Ou.tk s k ≤ k * 1048576 := by
  induction k with
  | zero => exact ⟨Int.le_refl _, by simp [Ou.tk]⟩
  | succ k ih =>
    obtain ⟨h0, h1⟩ := ih (by omega)
    obtain ⟨_, _, l0, l1, _⟩ := Ou.long_range (n := (k : Int) + 1) hs (by omega) (by omega)
    show 0 ≤ Ou.tk s k + Ou.long ((k : Int) + 1) s ∧ Ou.tk s k + Ou.long ((k : Int) + 1) s ≤ ((k + 1 : Nat) : Int) * 1048576
    refine ⟨by omega, ?_⟩
    rw [Int.natCast_add, Int.add_mul]
    omega
theorem Ou.long_pos {s : Ou.Se} (hs : Ou.sets s = true) (n : Int) (h0 : 1 ≤ n) : 1 ≤ Ou.long n s := by
  obtain ⟨_, b0, b1, x0, x1, _⟩ := Ou.sets_iff.1 hs
  unfold Ou.long
  have : 1 * 1 ≤ s.b * n := Int.mul_le_mul b0 h0 (by omega) (by omega)
  split <;> omega
theorem Ou.chk_of {o : Ou.St} {s : Ou.Se} {t : Int} (hs : Ou.sets s = true) (h1 : 0 ≤ t) (h2 : t ≤ 536870912) (h3 : 0 ≤ o.r ∧ o.r ≤ 1048576 ∧ 0 ≤ o.g ∧ o.g ≤ 1048576 ∧ 0 ≤ o.b ∧ o.b ≤ 1048576) (h4 : 0 ≤ o.n ∧ o.n ≤ 1000 ∧ 0 ≤ o.s ∧ o.s ≤ 1073741824 ∧ 0 ≤ o.u ∧ o.u ≤ 1073741824) : Ou.chk o s t = 0 :=
  Ou.chk_good hs h1 h2 (Ou.may_iff.2 ⟨h3, h4⟩)
theorem Ou.z1 : (0 : Int) ≤ 1000 := by decide
theorem Ou.z2 : (0 : Int) ≤ 1048576 := by decide
theorem Ou.z3 : (0 : Int) ≤ 1073741824 := by decide
theorem Ou.zer : (0 : Int) ≤ 0 ∧ (0 : Int) ≤ 1048576 ∧ (0 : Int) ≤ 0 ∧ (0 : Int) ≤ 1048576 ∧ (0 : Int) ≤ 0 ∧ (0 : Int) ≤ 1048576 := ⟨Int.le_refl 0, Ou.z2, Int.le_refl 0, Ou.z2, Int.le_refl 0, Ou.z2⟩
theorem Ou.ok_chk {s : Ou.Se} (hs : Ou.sets s = true) (k : Nat) (hk : k ≤ 19) : Ou.chk (Ou.ok s k) s (Ou.tk s k) = 0 ∧ (Ou.ok s k).o = false ∧ (Ou.ok s k).n = k := by
  obtain ⟨t0, t1⟩ := Ou.tk_range hs k (by omega)
  cases k with
  | zero => exact ⟨Ou.chk_of hs t0 (by omega) Ou.zer ⟨Int.le_refl 0, Ou.z1, Int.le_refl 0, Ou.z3, Int.le_refl 0, Ou.z3⟩, rfl, rfl⟩
  | succ k =>
    obtain ⟨u0, u1⟩ := Ou.tk_range hs k (by omega)
    refine ⟨Ou.chk_of hs t0 (by omega) Ou.zer ⟨?_, ?_, u0, ?_, t0, ?_⟩, rfl, rfl⟩
    · show (0 : Int) ≤ (k : Int) + 1; omega
    · show (k : Int) + 1 ≤ 1000; omega
    · show Ou.tk s k ≤ 1073741824; omega
    · show Ou.tk s (k + 1) ≤ 1073741824; omega
theorem Ou.longer {s : Ou.Se} (hs : Ou.sets s = true) (k : Nat) (hk : k ≤ 18) :
    (Ou.ejR (Ou.ok s k) s (Ou.tk s k) = ⟨0, 0, 0, (k : Int) + 1, Ou.tk s k, Ou.tk s (k + 1), true⟩ ∧ Ou.ejE (Ou.ok s k) s (Ou.tk s k) = 0) ∧
    (Ou.tickR ⟨0, 0, 0, (k : Int) + 1, Ou.tk s k, Ou.tk s (k + 1), true⟩ s (Ou.tk s (k + 1) - 1) = ⟨0, 0, 0, (k : Int) + 1, Ou.tk s k, Ou.tk s (k + 1), true⟩ ∧ Ou.chk ⟨0, 0, 0, (k : Int) + 1, Ou.tk s k, Ou.tk s (k + 1), true⟩ s (Ou.tk s (k + 1) - 1) = 0) ∧
    (Ou.tickR ⟨0, 0, 0, (k : Int) + 1, Ou.tk s k, Ou.tk s (k + 1), true⟩ s (Ou.tk s (k + 1)) = ⟨0, 0, 0, (k : Int) + 1, Ou.tk s k, Ou.tk s (k + 1), false⟩ ∧ Ou.chk ⟨0, 0, 0, (k : Int) + 1, Ou.tk s k, Ou.tk s (k + 1), true⟩ s (Ou.tk s (k + 1)) = 0) ∧
    (IntKind.i64.wrap (Ou.tk s (k + 1) - Ou.tk s k) = Ou.lg s (k + 1) ∧ IntKind.i64.wrap (Ou.tk s (k + 1) - 1) = Ou.tk s (k + 1) - 1) ∧
    Ou.lg s k ≤ Ou.lg s (k + 1) ∧ (Ou.lg s (k + 1) < s.x → Ou.lg s (k + 1) ≠ Ou.lg s k) ∧ Ou.lg s (k + 1) ≤ s.x := by
  obtain ⟨c0, c1, c2⟩ := Ou.ok_chk hs k (by omega)
  obtain ⟨t0, t1⟩ := Ou.tk_range hs k (by omega)
  obtain ⟨u0, u1⟩ := Ou.tk_range hs (k + 1) (by omega)
  have hp := Ou.long_pos hs ((k : Int) + 1) (by omega)
  obtain ⟨m0, m1, l0, l1, l2⟩ := Ou.long_range (n := (k : Int) + 1) hs (by omega) (by omega)
  have e : Ou.tk s (k + 1) = Ou.tk s k + Ou.long ((k : Int) + 1) s := rfl
  obtain ⟨_, b0, b1, x0, x1, _⟩ := Ou.sets_iff.1 hs
  have hup : Ou.up (Ou.ok s k).n 1000 = (k : Int) + 1 := by
    rw [c2]; unfold Ou.up; rw [if_pos (by omega)]
  have ck : ∀ t, 0 ≤ t → t ≤ 536870912 → Ou.chk ⟨0, 0, 0, (k : Int) + 1, Ou.tk s k, Ou.tk s (k + 1), true⟩ s t = 0 := fun t h1 h2 =>
    Ou.chk_of hs h1 h2 Ou.zer ⟨by show (0 : Int) ≤ (k : Int) + 1; omega, by show (k : Int) + 1 ≤ 1000; omega, t0, by show Ou.tk s k ≤ 1073741824; omega, u0, by show Ou.tk s (k + 1) ≤ 1073741824; omega⟩
  refine ⟨⟨?_, ?_⟩, ⟨?_, ck _ (by omega) (by omega)⟩, ⟨?_, ck _ u0 (by omega)⟩, ⟨?_, wrap_ok (by omega) (by omega)⟩, ?_, ?_, ?_⟩
  · unfold Ou.ejR Ou.eject
    rw [if_pos ⟨c0, c1⟩, hup, ← e]
  · unfold Ou.ejE
    rw [if_pos c0, c1]
    rfl
  · unfold Ou.tickR Ou.wake
    rw [if_pos (ck _ (by omega) (by omega)), if_neg (by show ¬ Ou.tk s (k + 1) ≤ Ou.tk s (k + 1) - 1; omega)]
  · unfold Ou.tickR Ou.wake
    rw [if_pos (ck _ u0 (by omega)), if_pos (Int.le_refl _)]
  · rw [Ou.lg_succ, wrap_ok (by omega) (by omega)]
    omega
  · rw [Ou.lg_succ]
    unfold Ou.lg
    split
    · omega
    · have hm : s.b * (k : Int) ≤ s.b * ((k : Int) + 1) := Int.mul_le_mul_of_nonneg_left (by omega) (by omega)
      unfold Ou.long
      split <;> split <;> omega
  · rw [Ou.lg_succ]
    unfold Ou.lg
    split
    · omega
    · have hm : s.b * ((k : Int) + 1) = s.b * (k : Int) + s.b := by rw [Int.mul_add, Int.mul_one]
      unfold Ou.long
      split <;> split <;> omega
  · rw [Ou.lg_succ]
    exact l2
def Ou.twenty (n : Int) : Int := Int.tmod (Int.tmod n 20 + 20) 20
theorem Ou.twenty_range (n : Int) : 0 ≤ Ou.twenty n ∧ Ou.twenty n ≤ 19 := by
  have h1 := Int.tmod_lt_of_pos n (show (0 : Int) < 20 by decide)
  have h2 := Int.lt_tmod_of_pos n (show (0 : Int) < 20 by decide)
  have h3 := Int.tmod_lt_of_pos (Int.tmod n 20 + 20) (show (0 : Int) < 20 by decide)
  have h4 := Int.tmod_nonneg (a := Int.tmod n 20 + 20) 20 (by omega)
  unfold Ou.twenty
  omega
theorem Ou.twenty_wraps (n : Int) : IntKind.i64.wrap (Int.tmod n 20 + 20) = Int.tmod n 20 + 20 := by
  have h1 := Int.tmod_lt_of_pos n (show (0 : Int) < 20 by decide)
  have h2 := Int.lt_tmod_of_pos n (show (0 : Int) < 20 by decide)
  exact wrap_ok (by omega) (by omega)
theorem Ou.bad_chk {o : Ou.St} {s : Ou.Se} {t : Int} (h : ¬ Ou.sets s = true) : Ou.chk o s t = 4 := by
  unfold Ou.chk
  rw [if_neg]
  rw [Bool.and_eq_true]
  exact fun e => h e.1
end Go.Proofs.Ytfjcilkllgaimaa
