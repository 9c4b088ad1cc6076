/- backoff: what the rows want. -/
import Derived.Test.YtekldjfmdapgpaaBkJ
import Derived.Test.YtekldjfmdapgpaaBkK
import Derived.Deep.DeepCutAuto
namespace Go.Proofs.Ytekldjfmdapgpaa
open Go.RowKit
set_option maxRecDepth 20000
set_option linter.unusedVariables false

/-- A number from 0 to b - 1. -/
def Bf.brought (n b : Int) : Int := Int.tmod (Int.tmod n b + b) b
theorem Bf.brought_wraps (n b : Int) (h1 : 1 ≤ b) (h2 : b ≤ 1000) : (0 ≤ Bf.brought n b ∧ Bf.brought n b ≤ b - 1) ∧ IntKind.i64.wrap (Int.tmod n b + b) = Int.tmod n b + b ∧ IntKind.i64.wrap (Int.tmod n b) = Int.tmod n b ∧ IntKind.i64.wrap (Int.tmod (Int.tmod n b + b) b) = Bf.brought n b ∧ Int.tmod (Int.tmod n b + b) b = Bf.brought n b := by
  have a1 := Int.tmod_lt_of_pos n (show 0 < b by omega)
  have a2 := Int.lt_tmod_of_pos n (show 0 < b by omega)
  have a3 := Int.tmod_lt_of_pos (Int.tmod n b + b) (show 0 < b by omega)
  have a4 := Int.tmod_nonneg (a := Int.tmod n b + b) b (by omega)
  have hr : 0 ≤ Bf.brought n b ∧ Bf.brought n b ≤ b - 1 := by
    unfold Bf.brought
    omega
  refine ⟨hr, wrap_ok (by omega) (by omega), wrap_ok (by omega) (by omega), ?_, rfl⟩
  show IntKind.i64.wrap (Bf.brought n b) = Bf.brought n b
  exact wrap_ok (by omega) (by omega)
theorem Bf.jit {s : Bf.Se} {n : Int} {x y : Nat} (h : x ≤ y) : Bf.delayR s n y ≤ Bf.delayR s n x := by
  by_cases hk : Bf.mostE s n = 0
  · obtain ⟨hs, _, _⟩ := Bf.mostE_zero hk
    obtain ⟨a, b⟩ := Bf.d_num hs (n - 1).toNat
    unfold Bf.delayR
    rw [if_pos hk, if_pos hk]
    exact Bf.one_down hs a b h
  · unfold Bf.delayR
    rw [if_neg hk, if_neg hk]
    exact Int.le_refl 0
theorem Bf.grow_all {s : Bf.Se} {m : Int} (h1 : 0 ≤ m) (h2 : m ≤ 62) : (Bf.mostE s (1 + m) = 0 ∧ Bf.mostE s (1 + m + 1) = 0 ∧ Bf.mostR s (1 + m) ≤ Bf.mostR s (1 + m + 1) ∧ (Bf.mostR s (1 + m + 1) = 2 * Bf.mostR s (1 + m) ∨ Bf.mostR s (1 + m + 1) = s.p) ∧ (1 ≤ Bf.mostR s (1 + m) ∧ Bf.mostR s (1 + m) ≤ 1048576)) ∨
    (Bf.mostE s (1 + m) = 4 ∧ Bf.mostE s (1 + m + 1) = 4 ∧ Bf.mostR s (1 + m) = 0) := by
  by_cases h : Bf.sets s = true
  · exact .inl (Bf.grows h (by omega) (by omega))
  · exact .inr ⟨(Bf.grows_bad h).1, (Bf.grows_bad h).1, (Bf.grows_bad h).2⟩
theorem Bf.sum_all {s : Bf.Se} {l : List Int} (hl : ∀ k, k < l.length → (l.getD k 0).toNat < 18446744073709551616) (h : Bf.sumE s l = 0) : Bf.sets s = true ∧ l.length ≤ 64 ∧ Bf.sumR s l = Bf.sum s l l.length ∧ (l.length : Int) ≤ Bf.sum s l l.length := by
  obtain ⟨h1, h2, h3⟩ := Bf.sum_cases s l
  by_cases hs : Bf.sets s = true
  · by_cases hn : l.length ≤ 64
    · exact ⟨hs, hn, (h1 hs hn).2, (Bf.sum_range hs hl l.length (Nat.le_refl _)).1⟩
    · rw [(h2 hs hn).1] at h
      cases h
  · rw [(h3 hs).1] at h
    cases h
theorem seg_part {k : IntKind} {w : World} {a : Option Addr} {n cap : Nat} {l : List Int} (hs : Seg k w (.slice a n cap) l) (m : Nat) (hm : m ≤ n) : Seg k w (.slice a m cap) (l.take m) := by
  obtain ⟨a', c', he, h1, h2, h3, h4⟩ := hs
  injection he with e1 e2 e3
  subst e1 e3
  have hl : (l.take m).length = m := by rw [List.length_take]; omega
  refine ⟨a, cap, by rw [hl], by omega, h2, fun h => ?_, fun x hx i hi => ?_⟩
  · obtain ⟨g1, g2⟩ := h3 h
    exact ⟨by rw [g1]; simp, g2⟩
  · rw [hl] at hi
    rw [h4 x hx i (by omega)]
    simp [List.getD, hi]
end Go.Proofs.Ytekldjfmdapgpaa
