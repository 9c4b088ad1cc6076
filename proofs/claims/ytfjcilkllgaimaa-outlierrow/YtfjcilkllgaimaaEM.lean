/- outlier: ends counted, plainly. -/
import Derived.Test.YtfjcilkllgaimaaEI
import Derived.Test.YtfjcilkllgaimaaOpenO
namespace Go.Proofs.Ytfjcilkllgaimaa
set_option linter.unusedVariables false

theorem Ou.up_one {n c : Int} (h : n + 1 ≤ c) : Ou.up n c = n + 1 := if_pos h
theorem Ou.recs_count (l : List Bool) (h : l.length ≤ 524288) (k : Nat) (hk : k ≤ l.length) :
    (Ou.recs Ou.zero (l.take k)).g + (Ou.recs Ou.zero (l.take k)).b = k ∧ 0 ≤ (Ou.recs Ou.zero (l.take k)).g ∧ 0 ≤ (Ou.recs Ou.zero (l.take k)).b ∧ 0 ≤ (Ou.recs Ou.zero (l.take k)).r ∧ (Ou.recs Ou.zero (l.take k)).r ≤ k ∧
    (Ou.recs Ou.zero (l.take k)).n = 0 ∧ (Ou.recs Ou.zero (l.take k)).s = 0 ∧ (Ou.recs Ou.zero (l.take k)).u = 0 ∧ (Ou.recs Ou.zero (l.take k)).o = false := by
  induction k with
  | zero => rw [List.take_zero]; exact ⟨rfl, Int.le_refl 0, Int.le_refl 0, Int.le_refl 0, Int.le_refl 0, rfl, rfl, rfl, rfl⟩
  | succ k ih =>
    obtain ⟨h1, h2, h3, h4, h5, h6, h7, h8, h9⟩ := ih (by omega)
    rw [Ou.recs_take _ _ _ (by omega)]
    generalize Ou.recs Ou.zero (l.take k) = x at *
    generalize l.getD k false = g at *
    obtain ⟨R, G, B, NN, S, U, Q⟩ := x
    dsimp only at *
    unfold Ou.rec1
    cases g
    · rw [if_neg (by decide)]
      dsimp only
      rw [Ou.up_one (by omega), Ou.up_one (by omega)]
      exact ⟨by omega, h2, by omega, by omega, by omega, h6, h7, h8, h9⟩
    · rw [if_pos rfl]
      dsimp only
      rw [Ou.up_one (by omega)]
      exact ⟨by omega, by omega, h3, Int.le_refl 0, by omega, h6, h7, h8, h9⟩
theorem Ou.recs_step (l : List Bool) (h : l.length ≤ 524288) (k : Nat) (hk : k < l.length) :
    ((Ou.recs Ou.zero (l.take (k + 1))).r = if l.getD k false = true then 0 else (Ou.recs Ou.zero (l.take k)).r + 1) ∧ ((Ou.recs Ou.zero (l.take (k + 1))).g = if l.getD k false = true then (Ou.recs Ou.zero (l.take k)).g + 1 else (Ou.recs Ou.zero (l.take k)).g) ∧
    ((Ou.recs Ou.zero (l.take (k + 1))).b = if l.getD k false = true then (Ou.recs Ou.zero (l.take k)).b else (Ou.recs Ou.zero (l.take k)).b + 1) := by
  obtain ⟨h1, h2, h3, h4, h5, _⟩ := Ou.recs_count l h k (by omega)
  rw [Ou.recs_take _ _ _ hk]
  generalize Ou.recs Ou.zero (l.take k) = x at *
  generalize l.getD k false = g at *
  obtain ⟨R, G, B, NN, S, U, Q⟩ := x
  dsimp only at *
  unfold Ou.rec1
  cases g
  · rw [if_neg (by decide), if_neg (by decide), if_neg (by decide), if_neg (by decide)]
    exact ⟨Ou.up_one (n := R) (by omega), rfl, Ou.up_one (n := B) (by omega)⟩
  · rw [if_pos rfl, if_pos rfl, if_pos rfl, if_pos rfl]
    exact ⟨rfl, Ou.up_one (n := G) (by omega), rfl⟩
theorem Ou.recs_whole (l : List Bool) (h : l.length ≤ 524288) : Ou.recs Ou.zero l = ⟨(Ou.recs Ou.zero (l.take l.length)).r, (Ou.recs Ou.zero (l.take l.length)).g, (Ou.recs Ou.zero (l.take l.length)).b, 0, 0, 0, false⟩ := by
  obtain ⟨_, _, _, _, _, h6, h7, h8, h9⟩ := Ou.recs_count l h l.length (Nat.le_refl _)
  rw [List.take_length] at *
  generalize Ou.recs Ou.zero l = x at *
  obtain ⟨R, G, B, NN, S, U, Q⟩ := x
  dsimp only at *
  rw [h6, h7, h8, h9]
end Go.Proofs.Ytfjcilkllgaimaa
