/- outlier: how much room there is, plainly. -/
import Derived.Test.YtfjcilkllgaimaaEI
import Derived.Test.YtfjcilkllgaimaaOpenO
namespace Go.Proofs.Ytfjcilkllgaimaa

theorem Ou.room_good {s : Ou.Se} {n : Int} (h : Ou.mayN s n 0 = true) : (0 ≤ Ou.roomR s n 0 ∧ Ou.roomR s n 0 ≤ n) ∧ Ou.nE s n 0 = 0 ∧ Ou.nE s n (Ou.roomR s n 0) = 0 ∧ Ou.roomR s n (Ou.roomR s n 0) = 0 ∧ Ou.panR s n 0 = (decide (0 < s.c) && decide (0 < n)) ∧ Ou.nE s n n = 0 ∧ Ou.panR s n n = false := by
  obtain ⟨h1, h2, h3, _, _⟩ := Ou.mayN_iff.1 h
  obtain ⟨a1, a2, a3, a4, _, _, _, _⟩ := Ou.room_wraps h
  obtain ⟨_, _, _, _, _, _, _, c0, c1⟩ := Ou.sets_iff.1 h1
  have e : Ou.roomR s n 0 = s.p * n / 100 := by
    unfold Ou.roomR Ou.room
    rw [if_pos h, if_pos (by omega)]
    omega
  have hk : Ou.mayN s n (Ou.roomR s n 0) = true := Ou.mayN_iff.2 ⟨h1, h2, h3, by omega, by omega⟩
  have hn : Ou.mayN s n n = true := Ou.mayN_iff.2 ⟨h1, h2, h3, h2, Int.le_refl _⟩
  refine ⟨⟨by omega, by omega⟩, if_pos h, if_pos hk, ?_, ?_, if_pos hn, ?_⟩
  · show (if Ou.mayN s n (Ou.roomR s n 0) = true then Ou.room s n (Ou.roomR s n 0) else 0) = 0
    rw [if_pos hk]
    unfold Ou.room
    rw [e]
    split <;> omega
  · unfold Ou.panR Ou.pan
    rw [if_pos h]
    by_cases hc : 0 < s.c
    · by_cases hn0 : 0 < n
      · have : 0 < s.c * n := Int.mul_pos hc hn0
        simp [hc, hn0]
        omega
      · have hn1 : n = 0 := by omega
        subst hn1
        simp
    · have hc1 : s.c = 0 := by omega
      rw [hc1]
      simp
  · unfold Ou.panR Ou.pan
    rw [if_pos hn]
    have : s.c * n ≤ 100 * n := Int.mul_le_mul_of_nonneg_right c1 h2
    exact decide_eq_false (by omega)
theorem Ou.room_bad {s : Ou.Se} {n : Int} (h : ¬ Ou.mayN s n 0 = true) : Ou.roomR s n 0 = 0 ∧ Ou.nE s n 0 = 4 := ⟨if_neg h, if_neg h⟩
end Go.Proofs.Ytfjcilkllgaimaa
