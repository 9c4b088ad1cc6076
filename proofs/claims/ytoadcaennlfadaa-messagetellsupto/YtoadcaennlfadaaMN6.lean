/- MessageUses: plain facts. -/
import Derived.Test.YtoadcaennlfadaaGG
namespace Go.Proofs.Ytoadcaennlfadaa
open Go.RowKit
set_option maxRecDepth 20000

def usesX (m : Mg) : Mg :=
  if m.k = 1 ∨ m.k = 8 then ⟨m.k, m.c, m.b, 0, 0, 0, 0, m.n, 0, 0, 0⟩ else if m.k = 6 ∨ m.k = 7 then ⟨m.k, m.c, m.b, m.i, m.s, m.q, 0, 0, 0, 0, 0⟩ else m
def usesD (m : Mg) (d : List Int) : List Int := if m.k = 3 ∨ m.k = 4 then d else []

theorem ck_five (x : Mg) (d : List Int) : ckM x d = 23 ∨ ckM x d = 4 ∨ ckM x d = 5 ∨ ckM x d = 0 ∨ ckM x d = 9 := by
  unfold ckM
  repeat' split
  all_goals simp
theorem ck_nine {x : Mg} {d : List Int} (h : ckM x d = 9) : usedP x.k ≠ [] ∧ x.nums.any badN = false ∧ d.length ≤ 1024 := by
  unfold ckM at h
  by_cases h1 : usedP x.k = []
  · rw [if_pos h1] at h; cases h
  rw [if_neg h1] at h
  by_cases h2 : x.nums.any badN = true
  · rw [if_pos h2] at h; cases h
  rw [if_neg h2] at h
  by_cases h3 : 1024 < d.length
  · rw [if_pos h3] at h; cases h
  exact ⟨h1, by simpa using h2, by omega⟩

theorem kinds {k : Int} (h : usedP k ≠ []) : k = 1 ∨ k = 2 ∨ k = 3 ∨ k = 4 ∨ k = 5 ∨ k = 6 ∨ k = 7 ∨ k = 8 := by
  have := used_kind h
  omega

theorem sameM_self (x : Mg) (d : List Int) : sameM x x d d = true := by simp [sameM]
theorem sameM_true {x y : Mg} {d e : List Int} (h : sameM x y d e = true) : x = y ∧ d = e := by
  obtain ⟨a0, a1, a2, a3, a4, a5, a6, a7, a8, a9, a10⟩ := x
  obtain ⟨b0, b1, b2, b3, b4, b5, b6, b7, b8, b9, b10⟩ := y
  simp only [sameM, Bool.and_eq_true, beq_iff_eq] at h
  obtain ⟨⟨⟨⟨⟨⟨⟨⟨⟨⟨⟨g0, g1⟩, g2⟩, g3⟩, g4⟩, g5⟩, g6⟩, g7⟩, g8⟩, g9⟩, g10⟩, g11⟩ := h
  subst g0 g1 g2 g3 g4 g5 g6 g7 g8 g9 g10 g11
  exact ⟨rfl, rfl⟩

theorem okF_zero {x : Mg} {j : Nat} (h : okF x j = true) (hu : (usedP x.k).any ((j : Int) == ·) = false) : x.nums.getD j 0 = 0 := by
  unfold okF at h
  rw [hu] at h
  simpa using h

theorem uses_same {m : Mg} {d : List Int} (h : ckM m d = 0) : sameM (usesX m) m (usesD m d) d = true := by
  obtain ⟨h1, h2, h3, h4, h5⟩ := ck_zero h
  have hk := kinds h1
  have hz : ∀ j : Nat, j < 10 → (usedP m.k).any ((j : Int) == ·) = false → m.nums.getD j 0 = 0 := fun j hj hu => okF_zero (h4 j hj) hu
  obtain ⟨k, c, b, i, s, q, mm, n, l, o, p⟩ := m
  simp only at hk hz h5
  rcases hk with rfl | rfl | rfl | rfl | rfl | rfl | rfl | rfl
  · have z2 := hz 2 (by decide) (by decide); have z3 := hz 3 (by decide) (by decide); have z4 := hz 4 (by decide) (by decide); have z5 := hz 5 (by decide) (by decide); have z7 := hz 7 (by decide) (by decide); have z8 := hz 8 (by decide) (by decide); have z9 := hz 9 (by decide) (by decide)
    have z10 : d = [] := h5.resolve_right (by decide)
    simp [Mg.nums] at z2 z3 z4 z5 z7 z8 z9
    subst z2 z3 z4 z5 z7 z8 z9 z10
    simp [sameM, usesX, usesD]
  · have z10 : d = [] := h5.resolve_right (by decide)
    subst z10
    simp [sameM, usesX, usesD]
  · simp [sameM, usesX, usesD]
  · simp [sameM, usesX, usesD]
  · have z10 : d = [] := h5.resolve_right (by decide)
    subst z10
    simp [sameM, usesX, usesD]
  · have z5 := hz 5 (by decide) (by decide); have z6 := hz 6 (by decide) (by decide); have z7 := hz 7 (by decide) (by decide); have z8 := hz 8 (by decide) (by decide); have z9 := hz 9 (by decide) (by decide)
    have z10 : d = [] := h5.resolve_right (by decide)
    simp [Mg.nums] at z5 z6 z7 z8 z9
    subst z5 z6 z7 z8 z9 z10
    simp [sameM, usesX, usesD]
  · have z5 := hz 5 (by decide) (by decide); have z6 := hz 6 (by decide) (by decide); have z7 := hz 7 (by decide) (by decide); have z8 := hz 8 (by decide) (by decide); have z9 := hz 9 (by decide) (by decide)
    have z10 : d = [] := h5.resolve_right (by decide)
    simp [Mg.nums] at z5 z6 z7 z8 z9
    subst z5 z6 z7 z8 z9 z10
    simp [sameM, usesX, usesD]
  · have z2 := hz 2 (by decide) (by decide); have z3 := hz 3 (by decide) (by decide); have z4 := hz 4 (by decide) (by decide); have z5 := hz 5 (by decide) (by decide); have z7 := hz 7 (by decide) (by decide); have z8 := hz 8 (by decide) (by decide); have z9 := hz 9 (by decide) (by decide)
    have z10 : d = [] := h5.resolve_right (by decide)
    simp [Mg.nums] at z2 z3 z4 z5 z7 z8 z9
    subst z2 z3 z4 z5 z7 z8 z9 z10
    simp [sameM, usesX, usesD]

theorem uses_ok {m : Mg} (h : m.nums.any badN = false) (hk : m.k = 1 ∨ m.k = 8 ∨ m.k = 6 ∨ m.k = 7) : ckM (usesX m) [] = 0 := by
  obtain ⟨k, c, b, i, s, q, mm, n, l, o, p⟩ := m
  simp only [Mg.nums, List.any_cons, List.any_nil, Bool.or_eq_false_iff] at h
  obtain ⟨g0, g1, g2, g3, g4, g5, g6, g7, g8, g9, _⟩ := h
  simp only at hk
  have gz : badN 0 = false := rfl
  rcases hk with rfl | rfl | rfl | rfl
  all_goals simp [ckM, usesX, usedP, Mg.nums, okF, g0, g1, g2, g3, g4, g6, gz]
end Go.Proofs.Ytoadcaennlfadaa
