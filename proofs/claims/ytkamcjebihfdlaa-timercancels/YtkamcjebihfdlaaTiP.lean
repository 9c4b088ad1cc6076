/- timer, plainly: heaps, their first one, all in order. -/
import Derived.Test.YtkamcjebihfdlaaPlain
namespace Go.Proofs.Ytkamcjebihfdlaa
set_option linter.unusedVariables false

structure Ti.T where
  at' : Int
  id' : Int
deriving DecidableEq
def Ti.t0 : Ti.T := ⟨0, 0⟩
/-- Ahead of another one. -/
def Ti.ah (a b : Ti.T) : Bool := decide (a.at' < b.at') || (decide (a.at' = b.at') && decide (a.id' < b.id'))
theorem Ti.ah_iff {a b : Ti.T} : Ti.ah a b = true ↔ a.at' < b.at' ∨ a.at' = b.at' ∧ a.id' < b.id' := by simp [Ti.ah]
theorem Ti.ah_irr (a : Ti.T) : Ti.ah a a = false := by
  cases h : Ti.ah a a with
  | false => rfl
  | true => rw [Ti.ah_iff] at h; omega
theorem Ti.ah_trans {a b c : Ti.T} (h1 : Ti.ah a b = true) (h2 : Ti.ah b c = true) : Ti.ah a c = true := by
  rw [Ti.ah_iff] at *; omega
theorem Ti.ah_asym {a b : Ti.T} (h1 : Ti.ah a b = true) : Ti.ah b a = false := by
  cases h : Ti.ah b a with
  | false => rfl
  | true => rw [Ti.ah_iff] at *; omega
theorem Ti.ah_not {a b : Ti.T} : Ti.ah a b = false ↔ b.at' < a.at' ∨ b.at' = a.at' ∧ b.id' ≤ a.id' := by
  rw [← Bool.not_eq_true, Ti.ah_iff]; omega
/-- Not ahead, and not ahead again. -/
theorem Ti.nah_trans {a b c : Ti.T} (h1 : Ti.ah a b = false) (h2 : Ti.ah b c = false) : Ti.ah a c = false := by
  rw [Ti.ah_not] at *; omega
theorem Ti.ah_nah {a b c : Ti.T} (h1 : Ti.ah a b = true) (h2 : Ti.ah c b = false) : Ti.ah c a = false := by
  rw [Ti.ah_iff] at h1; rw [Ti.ah_not] at *; omega
theorem Ti.ah_or {a b : Ti.T} (h : a.id' ≠ b.id') : Ti.ah a b = true ∨ Ti.ah b a = true := by
  rw [Ti.ah_iff, Ti.ah_iff]; omega

abbrev Ti.g (l : List Ti.T) (i : Nat) : Ti.T := l.getD i Ti.t0
theorem Ti.g_at {l : List Ti.T} {i : Nat} (h : i < l.length) : Ti.g l i = l[i] := by simp [Ti.g, List.getD, h]
def Ti.sw (l : List Ti.T) (i j : Nat) : List Ti.T := (l.set i (Ti.g l j)).set j (Ti.g l i)
theorem Ti.sw_len (l : List Ti.T) (i j : Nat) : (Ti.sw l i j).length = l.length := by simp [Ti.sw]
theorem Ti.sw_g {l : List Ti.T} {i j : Nat} (hi : i < l.length) (hj : j < l.length) (k : Nat) : Ti.g (Ti.sw l i j) k = if k = j then Ti.g l i else if k = i then Ti.g l j else Ti.g l k := by
  unfold Ti.sw Ti.g
  by_cases e1 : k = j
  · subst e1
    rw [if_pos rfl]
    simp [List.getD, hj]
  · rw [if_neg e1]
    by_cases e2 : k = i
    · subst e2
      rw [if_pos rfl]
      rw [List.getD, List.getElem?_set_ne (Ne.symm e1)]
      simp [hi]
    · rw [if_neg e2]
      simp [List.getD, List.getElem?_set_ne (Ne.symm e1), List.getElem?_set_ne (Ne.symm e2)]
theorem Ti.sw_perm {l : List Ti.T} {i j : Nat} (hi : i < l.length) (hj : j < l.length) : (Ti.sw l i j).Perm l := by
  unfold Ti.sw
  rw [Ti.g_at hi, Ti.g_at hj]
  exact List.set_set_perm hi hj

/-- The one above. -/
abbrev Ti.pa (i : Nat) : Nat := (i - 1) / 2
def Ti.heap (l : List Ti.T) : Prop := ∀ i, 0 < i → i < l.length → Ti.ah (Ti.g l i) (Ti.g l (Ti.pa i)) = false
/-- A heap but at place i, upward: i may be ahead of the one above it. -/
def Ti.upto (l : List Ti.T) (i : Nat) : Prop := (∀ j, 0 < j → j < l.length → j ≠ i → Ti.ah (Ti.g l j) (Ti.g l (Ti.pa j)) = false) ∧ (∀ j, 0 < j → j < l.length → Ti.pa j = i → 0 < i → Ti.ah (Ti.g l j) (Ti.g l (Ti.pa i)) = false)
/-- A heap but at place i, downward: those below i may be ahead of it. -/
def Ti.downto (l : List Ti.T) (i : Nat) : Prop := (∀ j, 0 < j → j < l.length → Ti.pa j ≠ i → Ti.ah (Ti.g l j) (Ti.g l (Ti.pa j)) = false) ∧ (∀ j, 0 < j → j < l.length → Ti.pa j = i → 0 < i → Ti.ah (Ti.g l j) (Ti.g l (Ti.pa i)) = false)

/-- Up, as long as it is ahead of the one above it. -/
def Ti.up (l : List Ti.T) (i : Nat) : List Ti.T :=
  if h : 0 < i ∧ Ti.ah (Ti.g l i) (Ti.g l (Ti.pa i)) = true then Ti.up (Ti.sw l i (Ti.pa i)) (Ti.pa i) else l
termination_by i
decreasing_by (obtain ⟨h1, _⟩ := h; show (i - 1) / 2 < i; omega)
theorem Ti.up_go {l : List Ti.T} {i : Nat} (h0 : 0 < i) (h : Ti.ah (Ti.g l i) (Ti.g l (Ti.pa i)) = true) : Ti.up l i = Ti.up (Ti.sw l i (Ti.pa i)) (Ti.pa i) := by
  rw [Ti.up, dif_pos ⟨h0, h⟩]
theorem Ti.up_stop {l : List Ti.T} {i : Nat} (h : i = 0 ∨ Ti.ah (Ti.g l i) (Ti.g l (Ti.pa i)) = false) : Ti.up l i = l := by
  rw [Ti.up, dif_neg]
  rintro ⟨h0, h1⟩
  rcases h with h | h
  · omega
  · rw [h] at h1; cases h1
theorem Ti.up_len (i : Nat) : ∀ l, (Ti.up l i).length = l.length := by
  induction i using Nat.strongRecOn with
  | ind i ih =>
    intro l
    by_cases h : 0 < i ∧ Ti.ah (Ti.g l i) (Ti.g l (Ti.pa i)) = true
    · rw [Ti.up_go h.1 h.2, ih (Ti.pa i) (by show (i - 1) / 2 < i; omega), Ti.sw_len]
    · rw [Ti.up, dif_neg h]
theorem Ti.up_perm (i : Nat) : ∀ l, i < l.length → (Ti.up l i).Perm l := by
  induction i using Nat.strongRecOn with
  | ind i ih =>
    intro l hl
    by_cases h : 0 < i ∧ Ti.ah (Ti.g l i) (Ti.g l (Ti.pa i)) = true
    · have hp : Ti.pa i < l.length := by show (i - 1) / 2 < l.length; omega
      rw [Ti.up_go h.1 h.2]
      exact (ih (Ti.pa i) (by show (i - 1) / 2 < i; omega) _ (by rw [Ti.sw_len]; exact hp)).trans (Ti.sw_perm hl hp)
    · rw [Ti.up, dif_neg h]
theorem Ti.up_heap (i : Nat) : ∀ l, i < l.length → Ti.upto l i → Ti.heap (Ti.up l i) := by
  induction i using Nat.strongRecOn with
  | ind i ih =>
    intro l hl hu
    by_cases h : 0 < i ∧ Ti.ah (Ti.g l i) (Ti.g l (Ti.pa i)) = true
    · obtain ⟨h0, h1⟩ := h
      have hp : Ti.pa i < l.length := by show (i - 1) / 2 < l.length; omega
      have hne : i ≠ Ti.pa i := by show i ≠ (i - 1) / 2; omega
      rw [Ti.up_go h0 h1]
      refine ih (Ti.pa i) (by show (i - 1) / 2 < i; omega) _ (by rw [Ti.sw_len]; exact hp) ?_
      obtain ⟨u1, u2⟩ := hu
      have G := Ti.sw_g hl hp
      constructor
      · intro j j0 jl jp
        rw [Ti.sw_len] at jl
        rw [G j, G (Ti.pa j), if_neg jp]
        by_cases e : j = i
        · subst e
          rw [if_pos rfl, if_pos rfl]
          exact Ti.ah_asym h1
        · rw [if_neg e]
          by_cases e2 : Ti.pa j = Ti.pa i
          · rw [if_pos e2]
            have := u1 j j0 jl e
            rw [e2] at this
            exact Ti.ah_nah h1 this
          · rw [if_neg e2]
            by_cases e3 : Ti.pa j = i
            · rw [if_pos e3]
              exact u2 j j0 jl e3 h0
            · rw [if_neg e3]
              exact u1 j j0 jl e
      · intro j j0 jl jp p0
        rw [Ti.sw_len] at jl
        have hpp : Ti.pa (Ti.pa i) ≠ Ti.pa i := by show ((i - 1) / 2 - 1) / 2 ≠ (i - 1) / 2; have : 0 < (i - 1) / 2 := p0; omega
        have hpi : Ti.pa (Ti.pa i) ≠ i := by show ((i - 1) / 2 - 1) / 2 ≠ i; omega
        have hjp : j ≠ Ti.pa i := by
          intro e
          have : Ti.pa j < j := by show (j - 1) / 2 < j; omega
          omega
        have hup := u1 (Ti.pa i) p0 hp (by omega)
        rw [G j, G (Ti.pa (Ti.pa i)), if_neg hjp, if_neg hpp, if_neg hpi]
        by_cases e : j = i
        · subst e
          rw [if_pos rfl]
          exact hup
        · rw [if_neg e]
          have := u1 j j0 jl e
          rw [jp] at this
          exact Ti.nah_trans this hup
    · rw [Ti.up, dif_neg h]
      intro j j0 jl
      by_cases e : j = i
      · subst e
        cases hh : Ti.ah (Ti.g l j) (Ti.g l (Ti.pa j)) with
        | false => rfl
        | true => exact absurd ⟨j0, hh⟩ h
      · exact hu.1 j j0 jl e

/-- One more. -/
def Ti.put (l : List Ti.T) (t : Ti.T) : List Ti.T := Ti.up (l ++ [t]) l.length
theorem Ti.put_len (l : List Ti.T) (t : Ti.T) : (Ti.put l t).length = l.length + 1 := by unfold Ti.put; rw [Ti.up_len]; simp
theorem Ti.put_perm (l : List Ti.T) (t : Ti.T) : (Ti.put l t).Perm (t :: l) :=
  (Ti.up_perm _ _ (by simp)).trans List.perm_append_comm
theorem Ti.put_heap {l : List Ti.T} (t : Ti.T) (h : Ti.heap l) : Ti.heap (Ti.put l t) := by
  refine Ti.up_heap _ _ (by simp) ⟨fun j j0 jl je => ?_, fun j j0 jl jp h0 => ?_⟩
  · have hj : j < l.length := by simp at jl; omega
    have hp : Ti.pa j < l.length := by show (j - 1) / 2 < l.length; omega
    have := h j j0 hj
    rw [Ti.g_at hj, Ti.g_at hp] at this
    rw [Ti.g_at jl, Ti.g_at (by simp; show (j - 1) / 2 < l.length + 1; omega), List.getElem_append_left hj, List.getElem_append_left hp]
    exact this
  · simp at jl
    have : (j - 1) / 2 = l.length := jp
    omega

/-- The one below place i that is ahead of the other. -/
def Ti.ch (l : List Ti.T) (i : Nat) : Nat := if 2 * i + 2 < l.length ∧ Ti.ah (Ti.g l (2 * i + 2)) (Ti.g l (2 * i + 1)) = true then 2 * i + 2 else 2 * i + 1
theorem Ti.ch_is (l : List Ti.T) (i : Nat) : (Ti.ch l i = 2 * i + 1 ∨ Ti.ch l i = 2 * i + 2 ∧ 2 * i + 2 < l.length) ∧ (∀ j, 0 < j → j < l.length → Ti.pa j = i → Ti.ah (Ti.g l j) (Ti.g l (Ti.ch l i)) = false) := by
  unfold Ti.ch
  by_cases h : 2 * i + 2 < l.length ∧ Ti.ah (Ti.g l (2 * i + 2)) (Ti.g l (2 * i + 1)) = true
  · rw [if_pos h]
    refine ⟨.inr ⟨rfl, h.1⟩, fun j j0 jl jp => ?_⟩
    have jp' : (j - 1) / 2 = i := jp
    have : j = 2 * i + 1 ∨ j = 2 * i + 2 := by omega
    rcases this with e | e
    · subst e; exact Ti.ah_asym h.2
    · subst e; exact Ti.ah_irr _
  · rw [if_neg h]
    refine ⟨.inl rfl, fun j j0 jl jp => ?_⟩
    have jp' : (j - 1) / 2 = i := jp
    have : j = 2 * i + 1 ∨ j = 2 * i + 2 := by omega
    rcases this with e | e
    · subst e; exact Ti.ah_irr _
    · subst e
      cases hh : Ti.ah (Ti.g l (2 * i + 2)) (Ti.g l (2 * i + 1)) with
      | false => rfl
      | true => exact absurd ⟨jl, hh⟩ h
/-- Down, as long as the one below is ahead of it. -/
def Ti.down (l : List Ti.T) (i : Nat) : List Ti.T :=
  if h : 2 * i + 1 < l.length ∧ Ti.ah (Ti.g l (Ti.ch l i)) (Ti.g l i) = true then Ti.down (Ti.sw l i (Ti.ch l i)) (Ti.ch l i) else l
termination_by l.length - i
decreasing_by (obtain ⟨h1, _⟩ := h; rw [Ti.sw_len]; rcases (Ti.ch_is l i).1 with e | ⟨e, _⟩ <;> rw [e] <;> omega)
theorem Ti.down_go {l : List Ti.T} {i : Nat} (h0 : 2 * i + 1 < l.length) (h : Ti.ah (Ti.g l (Ti.ch l i)) (Ti.g l i) = true) : Ti.down l i = Ti.down (Ti.sw l i (Ti.ch l i)) (Ti.ch l i) := by
  rw [Ti.down, dif_pos ⟨h0, h⟩]
theorem Ti.down_stop {l : List Ti.T} {i : Nat} (h : l.length ≤ 2 * i + 1 ∨ Ti.ah (Ti.g l (Ti.ch l i)) (Ti.g l i) = false) : Ti.down l i = l := by
  rw [Ti.down, dif_neg]
  rintro ⟨h0, h1⟩
  rcases h with h | h
  · omega
  · rw [h] at h1; cases h1
theorem Ti.down_perm (n : Nat) : ∀ l i, l.length - i ≤ n → (Ti.down l i).Perm l := by
  induction n with
  | zero =>
    intro l i h
    rw [Ti.down_stop (.inl (by omega))]
  | succ n ih =>
    intro l i hn
    by_cases h : 2 * i + 1 < l.length ∧ Ti.ah (Ti.g l (Ti.ch l i)) (Ti.g l i) = true
    · have hc : i < Ti.ch l i ∧ Ti.ch l i < l.length := by rcases (Ti.ch_is l i).1 with e | ⟨e, e2⟩ <;> rw [e] <;> omega
      rw [Ti.down_go h.1 h.2]
      exact (ih _ _ (by rw [Ti.sw_len]; omega)).trans (Ti.sw_perm (by omega) hc.2)
    · rw [Ti.down, dif_neg h]
theorem Ti.down_len (l : List Ti.T) (i : Nat) : (Ti.down l i).length = l.length := (Ti.down_perm _ l i (Nat.le_refl _)).length_eq
theorem Ti.down_heap (n : Nat) : ∀ l i, l.length - i ≤ n → i < l.length → Ti.downto l i → Ti.heap (Ti.down l i) := by
  induction n with
  | zero => intro l i h hi; omega
  | succ n ih =>
    intro l i hn hi hd
    obtain ⟨d1, d2⟩ := hd
    obtain ⟨c1, c2⟩ := Ti.ch_is l i
    by_cases h : 2 * i + 1 < l.length ∧ Ti.ah (Ti.g l (Ti.ch l i)) (Ti.g l i) = true
    · obtain ⟨h0, h1⟩ := h
      have hc : i < Ti.ch l i ∧ Ti.ch l i < l.length ∧ Ti.pa (Ti.ch l i) = i := by
        rcases c1 with e | ⟨e, e2⟩ <;> rw [e] <;> refine ⟨by omega, by omega, ?_⟩
        · show (2 * i + 1 - 1) / 2 = i; omega
        · show (2 * i + 2 - 1) / 2 = i; omega
      rw [Ti.down_go h0 h1]
      generalize Ti.ch l i = c at *
      obtain ⟨k1, k2, k3⟩ := hc
      have G := Ti.sw_g hi k2
      refine ih _ _ (by rw [Ti.sw_len]; omega) (by rw [Ti.sw_len]; exact k2) ⟨fun j j0 jl jp => ?_, fun j j0 jl jp c0 => ?_⟩
      · rw [Ti.sw_len] at jl
        rw [G j, G (Ti.pa j), if_neg jp]
        by_cases e : j = c
        · subst e
          rw [if_pos rfl, k3, if_pos rfl]
          exact Ti.ah_asym h1
        · rw [if_neg e]
          by_cases e2 : j = i
          · subst e2
            rw [if_pos rfl]
            have hne : Ti.pa j ≠ j := by show (j - 1) / 2 ≠ j; omega
            rw [if_neg hne]
            exact d2 c (by omega) k2 k3 j0
          · rw [if_neg e2]
            by_cases e3 : Ti.pa j = i
            · rw [if_pos e3]
              exact c2 j j0 jl e3
            · rw [if_neg e3]
              exact d1 j j0 jl e3
      · rw [Ti.sw_len] at jl
        have hjc : j ≠ c := by
          intro e
          have : Ti.pa j < j := by show (j - 1) / 2 < j; omega
          omega
        have hji : j ≠ i := by
          intro e
          have : Ti.pa j < j := by show (j - 1) / 2 < j; omega
          omega
        rw [G j, G (Ti.pa c), if_neg hjc, if_neg hji, k3, if_neg (by omega : ¬ i = c), if_pos rfl]
        have := d1 j j0 jl (by omega)
        rw [jp] at this
        exact this
    · rw [Ti.down, dif_neg h]
      intro j j0 jl
      by_cases e : Ti.pa j = i
      · have hs : 2 * i + 1 < l.length := by have : (j - 1) / 2 = i := e; omega
        have hf : Ti.ah (Ti.g l (Ti.ch l i)) (Ti.g l i) = false := by
          cases hh : Ti.ah (Ti.g l (Ti.ch l i)) (Ti.g l i) with
          | false => rfl
          | true => exact absurd ⟨hs, hh⟩ h
        rw [e]
        exact Ti.nah_trans (c2 j j0 jl e) hf
      · exact d1 j j0 jl e

/-- The first one off. -/
def Ti.take (l : List Ti.T) : List Ti.T := Ti.down ((l.set 0 (Ti.g l (l.length - 1))).take (l.length - 1)) 0
theorem Ti.take_len (l : List Ti.T) : (Ti.take l).length = l.length - 1 := by
  unfold Ti.take
  rw [Ti.down_len, List.length_take, List.length_set]
  omega
theorem Ti.take_perm {l : List Ti.T} (h : 0 < l.length) : (Ti.g l 0 :: Ti.take l).Perm l := by
  unfold Ti.take
  refine ((Ti.down_perm _ _ 0 (Nat.le_refl _)).cons _).trans ?_
  cases l with
  | nil => simp at h
  | cons x xs =>
    cases hx : xs.reverse with
    | nil =>
      have : xs = [] := by simpa using hx
      subst this
      exact List.Perm.refl _
    | cons y ys =>
      have e : xs = ys.reverse ++ [y] := by
        have := congrArg List.reverse hx
        simpa using this
      subst e
      have e1 : (x :: (ys.reverse ++ [y])).length - 1 = ys.length + 1 := by simp
      have e2 : Ti.g (x :: (ys.reverse ++ [y])) (ys.length + 1) = y := by
        rw [Ti.g_at (by simp)]
        simp
      have e3 : Ti.g (x :: (ys.reverse ++ [y])) 0 = x := rfl
      rw [e1, e2, e3]
      have e4 : ((x :: (ys.reverse ++ [y])).set 0 y).take (ys.length + 1) = y :: ys.reverse := by
        show (y :: (ys.reverse ++ [y])).take (ys.length + 1) = _
        rw [List.take_succ_cons, List.take_append_of_le_length (by simp), List.take_of_length_le (by simp)]
      rw [e4]
      refine List.Perm.cons _ ?_
      exact (List.perm_append_comm (l₁ := [y]) (l₂ := ys.reverse))
theorem Ti.take_heap {l : List Ti.T} (h : Ti.heap l) : Ti.heap (Ti.take l) := by
  unfold Ti.take
  by_cases h1 : l.length ≤ 1
  · rw [Ti.down_stop (.inl (by rw [List.length_take, List.length_set]; omega))]
    intro j j0 jl
    rw [List.length_take, List.length_set] at jl
    omega
  · have hlen : ((l.set 0 (Ti.g l (l.length - 1))).take (l.length - 1)).length = l.length - 1 := by rw [List.length_take, List.length_set]; omega
    have G : ∀ j, 0 < j → j < l.length - 1 → Ti.g ((l.set 0 (Ti.g l (l.length - 1))).take (l.length - 1)) j = Ti.g l j := by
      intro j j0 jl
      rw [Ti.g_at (by rw [hlen]; exact jl), List.getElem_take, List.getElem_set_ne (by omega), ← Ti.g_at]
    refine Ti.down_heap _ _ 0 (Nat.le_refl _) (by rw [hlen]; omega) ⟨fun j j0 jl jp => ?_, fun j j0 jl jp h0 => absurd h0 (Nat.lt_irrefl 0)⟩
    rw [hlen] at jl
    have hp : 0 < Ti.pa j := by have : Ti.pa j ≠ 0 := jp; omega
    have hpl : Ti.pa j < l.length - 1 := by show (j - 1) / 2 < l.length - 1; omega
    rw [G j j0 jl, G _ hp hpl]
    exact h j j0 (by omega)
/-- The first of a heap is ahead of all. -/
theorem Ti.first {l : List Ti.T} (h : Ti.heap l) (i : Nat) : i < l.length → Ti.ah (Ti.g l i) (Ti.g l 0) = false := by
  induction i using Nat.strongRecOn with
  | ind i ih =>
    intro hi
    by_cases e : i = 0
    · subst e; exact Ti.ah_irr _
    · have hp : Ti.pa i < i := by show (i - 1) / 2 < i; omega
      exact Ti.nah_trans (h i (by omega) hi) (ih (Ti.pa i) hp (by omega))
theorem Ti.first_mem {l : List Ti.T} (h : Ti.heap l) {x : Ti.T} (hx : x ∈ l) : Ti.ah x (Ti.g l 0) = false := by
  obtain ⟨i, hi, rfl⟩ := List.mem_iff_getElem.1 hx
  rw [← Ti.g_at hi]
  exact Ti.first h i hi

theorem Ti.ah_ne {a b : Ti.T} (h : Ti.ah a b = false) (hne : a ≠ b) : Ti.ah b a = true := by
  rw [Ti.ah_not] at h
  rw [Ti.ah_iff]
  by_cases e : a.at' = b.at' ∧ a.id' = b.id'
  · exfalso
    apply hne
    obtain ⟨x, y⟩ := a
    obtain ⟨u, v⟩ := b
    dsimp only at e
    rw [e.1, e.2]
  · omega
/-- In order. -/
abbrev Ti.so (l : List Ti.T) : Prop := l.Pairwise (fun a b => Ti.ah a b = true)
theorem Ti.so_one {a b : List Ti.T} (ha : Ti.so a) (hb : Ti.so b) (h : a.Perm b) : a = b := by
  induction a generalizing b with
  | nil => exact (List.nil_perm.1 h).symm
  | cons x a ih =>
    cases b with
    | nil => exact absurd h.length_eq (by simp)
    | cons y b =>
      rw [Ti.so, List.pairwise_cons] at ha hb
      have hx : x ∈ y :: b := h.mem_iff.1 List.mem_cons_self
      have hy : y ∈ x :: a := h.mem_iff.2 List.mem_cons_self
      have e : x = y := by
        rw [List.mem_cons] at hx hy
        rcases hx with hx | hx
        · exact hx
        · rcases hy with hy | hy
          · exact hy.symm
          · have h1 := hb.1 x hx
            have h2 := ha.1 y hy
            rw [Ti.ah_asym h1] at h2
            cases h2
      subst e
      rw [ih ha.2 hb.2 (List.Perm.cons_inv h)]
/-- All in order. -/
def Ti.ord (l : List Ti.T) : List Ti.T := l.mergeSort (fun a b => !Ti.ah b a)
theorem Ti.ord_perm (l : List Ti.T) : (Ti.ord l).Perm l := List.mergeSort_perm _ _
theorem Ti.ord_len (l : List Ti.T) : (Ti.ord l).length = l.length := (Ti.ord_perm l).length_eq
theorem Ti.ord_so {l : List Ti.T} (h : l.Nodup) : Ti.so (Ti.ord l) := by
  have h1 : (Ti.ord l).Pairwise (fun a b => (!Ti.ah b a) = true) := by
    refine List.pairwise_mergeSort ?_ ?_ l
    · intro a b c h1 h2
      rw [Bool.not_eq_true'] at h1 h2 ⊢
      exact Ti.nah_trans h2 h1
    · intro a b
      cases h : Ti.ah b a with
      | false => rfl
      | true => rw [Ti.ah_asym h]; rfl
  have h2 : (Ti.ord l).Nodup := (Ti.ord_perm l).nodup_iff.2 h
  refine (List.Pairwise.and h1 h2).imp ?_
  rintro a b ⟨h3, h4⟩
  rw [Bool.not_eq_true'] at h3
  exact Ti.ah_ne h3 (Ne.symm h4)
theorem Ti.ord_is {a l : List Ti.T} (h : l.Nodup) (ha : Ti.so a) (hp : a.Perm l) : a = Ti.ord l := Ti.so_one ha (Ti.ord_so h) (hp.trans (Ti.ord_perm l).symm)
theorem Ti.ord_same {a b : List Ti.T} (ha : a.Nodup) (h : a.Perm b) : Ti.ord a = Ti.ord b := Ti.ord_is (h.nodup_iff.1 ha) (Ti.ord_so ha) ((Ti.ord_perm a).trans h)
theorem Ti.ord_cons {x : Ti.T} {l : List Ti.T} (h : (x :: l).Nodup) (hx : ∀ y ∈ l, Ti.ah y x = false) : Ti.ord (x :: l) = x :: Ti.ord l := by
  rw [List.nodup_cons] at h
  refine (Ti.ord_is (List.nodup_cons.2 h) ?_ ((Ti.ord_perm l).cons x)).symm
  refine List.pairwise_cons.2 ⟨fun y hy => ?_, Ti.ord_so h.2⟩
  have hy2 := (Ti.ord_perm l).mem_iff.1 hy
  exact Ti.ah_ne (hx y hy2) (fun e => h.1 (e ▸ hy2))
/-- The first one of a heap, and the rest in order. -/
theorem Ti.ord_take {l : List Ti.T} (hn : l.Nodup) (h : Ti.heap l) (h0 : 0 < l.length) : Ti.ord l = Ti.g l 0 :: Ti.ord (Ti.take l) ∧ (Ti.take l).Nodup := by
  have hp := Ti.take_perm h0
  have hn2 : (Ti.g l 0 :: Ti.take l).Nodup := hp.nodup_iff.2 hn
  refine ⟨?_, (List.nodup_cons.1 hn2).2⟩
  rw [← Ti.ord_same hn2 hp]
  refine Ti.ord_cons hn2 (fun y hy => ?_)
  exact Ti.first_mem h (hp.mem_iff.1 (List.mem_cons_of_mem _ hy))
/-- Those that are due, taken off one by one. -/
def Ti.due (t : Int) : Nat → List Ti.T → List Ti.T × List Int
  | 0, l => (l, [])
  | n + 1, l => if 0 < l.length ∧ (Ti.g l 0).at' ≤ t then ((Ti.due t n (Ti.take l)).1, (Ti.g l 0).id' :: (Ti.due t n (Ti.take l)).2) else (l, [])
def Ti.isDue (t : Int) (x : Ti.T) : Bool := decide (x.at' ≤ t)
/-- P20.3. -/
theorem Ti.due_is (t : Int) (n : Nat) : ∀ l, l.length ≤ n → l.Nodup → Ti.heap l → (Ti.due t n l).2 = ((Ti.ord l).takeWhile (Ti.isDue t)).map Ti.T.id' ∧ Ti.ord (Ti.due t n l).1 = (Ti.ord l).dropWhile (Ti.isDue t) ∧ Ti.heap (Ti.due t n l).1 ∧ (Ti.due t n l).1.Nodup ∧ (∀ x ∈ (Ti.due t n l).1, x ∈ l) := by
  induction n with
  | zero =>
    intro l hl hn hh
    have : l = [] := List.length_eq_zero_iff.1 (by omega)
    subst this
    have e : Ti.ord [] = [] := by simp [Ti.ord]
    refine ⟨?_, ?_, hh, hn, fun x hx => hx⟩
    · show [] = _; rw [e]; rfl
    · show Ti.ord [] = _; rw [e]; rfl
  | succ n ih =>
    intro l hl hn hh
    by_cases h : 0 < l.length ∧ (Ti.g l 0).at' ≤ t
    · obtain ⟨h0, h1⟩ := h
      obtain ⟨o1, o2⟩ := Ti.ord_take hn hh h0
      obtain ⟨i1, i2, i3, i4, i5⟩ := ih (Ti.take l) (by rw [Ti.take_len]; omega) o2 (Ti.take_heap hh)
      have e : Ti.due t (n + 1) l = ((Ti.due t n (Ti.take l)).1, (Ti.g l 0).id' :: (Ti.due t n (Ti.take l)).2) := if_pos ⟨h0, h1⟩
      have hd : Ti.isDue t (Ti.g l 0) = true := decide_eq_true h1
      rw [e, o1, List.takeWhile_cons_of_pos hd, List.dropWhile_cons_of_pos hd]
      exact ⟨by dsimp only; rw [i1]; rfl, i2, i3, i4, fun x hx => (Ti.take_perm h0).mem_iff.1 (List.mem_cons_of_mem _ (i5 x hx))⟩
    · have e : Ti.due t (n + 1) l = (l, []) := if_neg h
      rw [e]
      by_cases h0 : 0 < l.length
      · obtain ⟨o1, o2⟩ := Ti.ord_take hn hh h0
        have hd : ¬ Ti.isDue t (Ti.g l 0) = true := by
          intro e2
          exact h ⟨h0, of_decide_eq_true e2⟩
        refine ⟨?_, ?_, hh, hn, fun x hx => hx⟩
        · rw [o1, List.takeWhile_cons_of_neg hd]; rfl
        · rw [o1, List.dropWhile_cons_of_neg hd]
      · have : l = [] := List.length_eq_zero_iff.1 (by omega)
        subst this
        have e3 : Ti.ord [] = [] := by simp [Ti.ord]
        refine ⟨by rw [e3]; rfl, by rw [e3]; rfl, hh, hn, fun x hx => hx⟩
/-- Put one by one. -/
def Ti.puts (l more : List Ti.T) : List Ti.T := more.foldl Ti.put l
theorem Ti.puts_perm (more : List Ti.T) : ∀ l, (Ti.puts l more).Perm (more ++ l) := by
  induction more with
  | nil => intro l; exact List.Perm.refl _
  | cons x more ih =>
    intro l
    refine (ih (Ti.put l x)).trans ?_
    refine ((Ti.put_perm l x).append_left more).trans ?_
    exact List.perm_middle
theorem Ti.puts_heap (more : List Ti.T) : ∀ l, Ti.heap l → Ti.heap (Ti.puts l more) := by
  induction more with
  | nil => intro l h; exact h
  | cons x more ih => intro l h; exact ih _ (Ti.put_heap x h)
theorem Ti.heap_nil : Ti.heap [] := fun i _ h => absurd h (Nat.not_lt_zero _)
/-- Those without these IDs, put anew. -/
def Ti.rest (ids : List Int) (l : List Ti.T) : List Ti.T := l.filter (fun x => !ids.contains x.id')
theorem Ti.cancel_is {l : List Ti.T} (ids : List Int) (hn : l.Nodup) : Ti.heap (Ti.puts [] (Ti.rest ids l)) ∧ (Ti.puts [] (Ti.rest ids l)).Nodup ∧ Ti.ord (Ti.puts [] (Ti.rest ids l)) = Ti.rest ids (Ti.ord l) ∧ (Ti.puts [] (Ti.rest ids l)).Perm (Ti.rest ids l) := by
  have hp : (Ti.puts [] (Ti.rest ids l)).Perm (Ti.rest ids l) := by
    have := Ti.puts_perm (Ti.rest ids l) []
    rw [List.append_nil] at this
    exact this
  have hn2 : (Ti.rest ids l).Nodup := hn.filter _
  have hn3 := hp.nodup_iff.2 hn2
  refine ⟨Ti.puts_heap _ _ Ti.heap_nil, hn3, ?_, hp⟩
  refine (Ti.ord_is hn3 ?_ ?_).symm
  · exact (Ti.ord_so hn).filter _
  · exact ((Ti.ord_perm l).filter _).trans hp.symm
/-- The first one is ahead of all others. -/
theorem Ti.first_or {l : List Ti.T} (h : Ti.heap l) {x : Ti.T} (hx : x ∈ l) : x = Ti.g l 0 ∨ Ti.ah (Ti.g l 0) x = true := by
  by_cases e : x = Ti.g l 0
  · exact .inl e
  · exact .inr (Ti.ah_ne (Ti.first_mem h hx) e)
end Go.Proofs.Ytkamcjebihfdlaa
