/- histo, plainly: what the calls tell. -/
import Derived.Test.YthdaldgmolhljaaZP
namespace Go.Proofs.Ythdaldgmolhljaa
set_option linter.unusedVariables false
set_option linter.unusedSimpArgs false

/-- A histogram. -/
structure Hi.H where
  c : List Int
  t : Int
abbrev Hi.H.z : Hi.H := ⟨[], 0⟩
def Hi.ranged (c : List Int) : Bool := c.all fun x => decide (0 ≤ x) && decide (x ≤ 1073741824)
def Hi.chk (h : Hi.H) : Int := if h.c.length ≠ 0 ∧ h.c.length ≠ 81 then 9 else if Hi.ranged h.c = false then 9 else if Hi.pre h.c h.c.length ≠ h.t ∨ 1073741824 < Hi.pre h.c h.c.length then 9 else 0
theorem Hi.chk_two (h : Hi.H) : Hi.chk h = 0 ∨ Hi.chk h = 9 := by
  unfold Hi.chk
  split
  · exact .inr rfl
  · split
    · exact .inr rfl
    · split
      · exact .inr rfl
      · exact .inl rfl
theorem Hi.ranged_at {c : List Int} (h : Hi.ranged c = true) (k : Nat) : 0 ≤ c.getD k 0 ∧ c.getD k 0 ≤ 1073741824 := by
  unfold Hi.ranged at h
  rw [List.all_eq_true] at h
  by_cases hk : k < c.length
  · have := h c[k] (List.getElem_mem hk)
    rw [Bool.and_eq_true, decide_eq_true_iff, decide_eq_true_iff] at this
    simpa [List.getD, hk] using this
  · simp [List.getD, hk]
theorem Hi.chk_zero {h : Hi.H} (k : Hi.chk h = 0) : (h.c.length = 0 ∨ h.c.length = 81) ∧ (∀ j, 0 ≤ h.c.getD j 0 ∧ h.c.getD j 0 ≤ 1073741824) ∧ Hi.pre h.c h.c.length = h.t ∧ 0 ≤ h.t ∧ h.t ≤ 1073741824 := by
  unfold Hi.chk at k
  split at k
  · cases k
  · split at k
    · cases k
    · split at k
      · cases k
      · rename_i h1 h2 h3
        have h2' := Hi.ranged_at (by simpa using h2)
        have := Hi.pre_pos (c := h.c) (fun j => (h2' j).1) h.c.length
        exact ⟨by omega, h2', by omega, by omega, by omega⟩
theorem Hi.pre_some {c : List Int} (h : ∀ j, j < c.length → 0 ≤ c.getD j 0 ∧ c.getD j 0 ≤ 1073741824) (k : Nat) (hk : k ≤ c.length) : 0 ≤ Hi.pre c k ∧ Hi.pre c k ≤ 1073741824 * k := by
  induction k with
  | zero => exact ⟨Int.le_refl 0, Int.le_refl 0⟩
  | succ k ih =>
    have := ih (by omega)
    have := h k (by omega)
    show 0 ≤ Hi.pre c k + c.getD k 0 ∧ Hi.pre c k + c.getD k 0 ≤ 1073741824 * ((k + 1 : Nat) : Int)
    omega
theorem Hi.pre_range {c : List Int} (h : ∀ j, 0 ≤ c.getD j 0 ∧ c.getD j 0 ≤ 1073741824) (k : Nat) : 0 ≤ Hi.pre c k ∧ Hi.pre c k ≤ 1073741824 * k := by
  induction k with
  | zero => exact ⟨Int.le_refl 0, Int.le_refl 0⟩
  | succ k ih =>
    have := h k
    show 0 ≤ Hi.pre c k + c.getD k 0 ∧ Hi.pre c k + c.getD k 0 ≤ 1073741824 * ((k + 1 : Nat) : Int)
    omega
theorem Hi.pre_le {h : Hi.H} (k : Hi.chk h = 0) {j : Nat} (hj : j ≤ h.c.length) : 0 ≤ Hi.pre h.c j ∧ Hi.pre h.c j ≤ h.t := by
  obtain ⟨_, h2, h3, _⟩ := Hi.chk_zero k
  have a := Hi.pre_pos (c := h.c) (fun j => (h2 j).1) j
  have b := Hi.pre_up (c := h.c) (fun j => (h2 j).1) hj
  omega
/-- As a check goes. -/
theorem Hi.ranged_not {c : List Int} {k : Nat} (hk : k < c.length) (h : c.getD k 0 < 0 ∨ 1073741824 < c.getD k 0) : Hi.ranged c = false := by
  rw [← Bool.not_eq_true]
  intro e
  have := Hi.ranged_at e k
  omega
theorem Hi.ranged_all {c : List Int} (h : ∀ k, k < c.length → 0 ≤ c.getD k 0 ∧ c.getD k 0 ≤ 1073741824) : Hi.ranged c = true := by
  unfold Hi.ranged
  rw [List.all_eq_true]
  intro x hx
  obtain ⟨k, hk, rfl⟩ := List.getElem_of_mem hx
  have := h k hk
  rw [Bool.and_eq_true, decide_eq_true_iff, decide_eq_true_iff]
  simpa [List.getD, hk] using this
theorem Hi.chk_len {h : Hi.H} (k : h.c.length ≠ 0 ∧ h.c.length ≠ 81) : Hi.chk h = 9 := if_pos k
theorem Hi.chk_bad {h : Hi.H} (k : Hi.ranged h.c = false) : Hi.chk h = 9 := by
  unfold Hi.chk
  rw [if_pos k]
  split <;> rfl
theorem Hi.chk_sum {h : Hi.H} (h1 : ¬ (h.c.length ≠ 0 ∧ h.c.length ≠ 81)) (h2 : Hi.ranged h.c = true) : Hi.chk h = if Hi.pre h.c h.c.length ≠ h.t ∨ 1073741824 < Hi.pre h.c h.c.length then 9 else 0 := by
  unfold Hi.chk
  rw [if_neg h1, if_neg (by simp [h2])]

/-- Counts, laid if there are none. -/
def Hi.pad (c : List Int) : List Int := if c.length = 0 then Hi.zeros else c
theorem Hi.zeros_len : Hi.zeros.length = 81 := by simp [Hi.zeros]
theorem Hi.pad_len {c : List Int} (h : c.length = 0 ∨ c.length = 81) : (Hi.pad c).length = 81 := by
  unfold Hi.pad
  split
  · exact Hi.zeros_len
  · omega
/-- Add. -/
def Hi.addE (h : Hi.H) (l : List Int) : Int := if Hi.chk h = 0 then (if l.any (fun n => decide (n < 0)) = true then 4 else if 1073741824 < h.t + l.length then 72 else 0) else 9
def Hi.addR (h : Hi.H) (l : List Int) : Hi.H := if Hi.addE h l = 0 then ⟨Hi.adds (Hi.pad h.c) l, h.t + l.length⟩ else Hi.H.z
theorem Hi.addE_zero {h : Hi.H} {l : List Int} (k : Hi.addE h l = 0) : Hi.chk h = 0 ∧ l.any (fun n => decide (n < 0)) = false ∧ (∀ x, x ∈ l → 0 ≤ x) ∧ h.t + l.length ≤ 1073741824 := by
  unfold Hi.addE at k
  split at k
  · rename_i h1
    split at k
    · cases k
    · rename_i h2
      split at k
      · cases k
      · refine ⟨h1, by simpa using h2, fun x hx => ?_, by omega⟩
        rcases Int.lt_or_le x 0 with hl | hl
        · exact absurd (List.any_eq_true.2 ⟨x, hx, decide_eq_true hl⟩) h2
        · exact hl
  · cases k
theorem Hi.adds_range {c l : List Int} (k : Nat) (h : ∀ j, 0 ≤ c.getD j 0 ∧ c.getD j 0 ≤ 1073741824) (j : Nat) : 0 ≤ (Hi.adds c l).getD j 0 ∧ (Hi.adds c l).getD j 0 ≤ 1073741824 + l.length := by
  by_cases hj : j < c.length
  · rw [Hi.adds_at _ _ _ hj]
    have := h j
    have := Hi.cntB_pos j l
    have := Hi.cntB_len j l
    omega
  · have e : (Hi.adds c l).getD j 0 = 0 := by
      rw [List.getD, List.getElem?_eq_none (by rw [Hi.adds_len]; omega)]
      rfl
    rw [e]
    omega
/-- The first place at which so many are reached. -/
def Hi.idxF (c : List Int) (w : Int) : Nat → Nat → Nat
  | 0, k => k
  | f + 1, k => if w ≤ Hi.pre c (k + 1) then k else Hi.idxF c w f (k + 1)
def Hi.idx (c : List Int) (w : Int) : Nat := Hi.idxF c w 81 0
theorem Hi.idxF_at {c : List Int} (h : ∀ k, 0 ≤ c.getD k 0) {w : Int} {k : Nat} (ha : Hi.at c w k) (f j : Nat) (h1 : j ≤ k) (h2 : k < j + f) : Hi.idxF c w f j = k := by
  induction f generalizing j with
  | zero => omega
  | succ f ih =>
    unfold Hi.idxF
    split
    · rename_i hw
      by_cases e : j = k
      · exact e
      · have := Hi.pre_up h (show j + 1 ≤ k by omega)
        have := ha.1
        omega
    · rename_i hw
      refine ih (j + 1) ?_ (by omega)
      by_cases e : j = k
      · subst e
        exact absurd ha.2 hw
      · omega
theorem Hi.idx_at {c : List Int} (h : ∀ k, 0 ≤ c.getD k 0) {w : Int} {k : Nat} (ha : Hi.at c w k) (hk : k < 81) : Hi.idx c w = k := Hi.idxF_at h ha 81 0 (by omega) (by omega)
/-- Quantile. -/
def Hi.quE (h : Hi.H) (m : Int) : Int := if Hi.chk h = 0 then (if m < 1 ∨ 1000 < m then 4 else if h.t = 0 then 71 else 0) else 9
def Hi.quR (h : Hi.H) (m : Int) : Int := if Hi.quE h m = 0 then Hi.top (Hi.idx h.c (Hi.want m h.t)) else 0
theorem Hi.quE_zero {h : Hi.H} {m : Int} (k : Hi.quE h m = 0) : Hi.chk h = 0 ∧ 1 ≤ m ∧ m ≤ 1000 ∧ 1 ≤ h.t ∧ h.t ≤ 1073741824 ∧ h.c.length = 81 ∧ Hi.at h.c (Hi.want m h.t) (Hi.idx h.c (Hi.want m h.t)) ∧ Hi.idx h.c (Hi.want m h.t) < 81 := by
  unfold Hi.quE at k
  split at k
  · rename_i h1
    split at k
    · cases k
    · split at k
      · cases k
      · obtain ⟨c1, c2, c3, c4, c5⟩ := Hi.chk_zero h1
        have ht : 1 ≤ h.t := by omega
        have h81 : h.c.length = 81 := by
          rcases c1 with c1 | c1
          · rw [c1] at c3
            have : Hi.pre h.c 0 = 0 := rfl
            omega
          · exact c1
        obtain ⟨w1, w2, _, _⟩ := Hi.want_range (m := m) (t := h.t) (by omega) (by omega) ht c5
        obtain ⟨i, hi, ha⟩ := Hi.at_some (c := h.c) (w := Hi.want m h.t) 81 w1 (by rw [← h81, c3]; exact w2)
        have e := Hi.idx_at (fun j => (c2 j).1) ha hi
        rw [← e] at ha hi
        exact ⟨h1, by omega, by omega, ht, c5, h81, ha, hi⟩
  · cases k
/-- As a sum goes: counts put onto counts. -/
def Hi.onto (c d : List Int) : Nat → List Int
  | 0 => c
  | k + 1 => (Hi.onto c d k).set k ((Hi.onto c d k).getD k 0 + d.getD k 0)
theorem Hi.onto_len (c d : List Int) (k : Nat) : (Hi.onto c d k).length = c.length := by
  induction k with
  | zero => rfl
  | succ k ih => show ((Hi.onto c d k).set k _).length = _; rw [List.length_set, ih]
theorem Hi.onto_at (c d : List Int) (k j : Nat) (h : j < c.length) : (Hi.onto c d k).getD j 0 = c.getD j 0 + (if j < k then d.getD j 0 else 0) := by
  induction k with
  | zero => simp [Hi.onto]
  | succ k ih =>
    show ((Hi.onto c d k).set k ((Hi.onto c d k).getD k 0 + d.getD k 0)).getD j 0 = _
    by_cases e : k = j
    · subst e
      rw [if_pos (by omega)]
      rw [if_neg (by omega)] at ih
      rw [ih]
      simp [List.getD, Hi.onto_len, h]
    · rw [List.getD, List.getElem?_set_ne e]
      show (Hi.onto c d k).getD j 0 = _
      rw [ih]
      have : (j < k) = (j < k + 1) := by rw [eq_iff_iff]; omega
      simp only [this]
theorem Hi.onto_both {c d : List Int} (h : c.length = d.length) : Hi.onto c d d.length = Hi.both c d := by
  refine Hi.ext (by rw [Hi.onto_len, Hi.both_len _ _ h]) (fun k hk => ?_)
  rw [Hi.onto_len] at hk
  rw [Hi.onto_at _ _ _ _ hk, Hi.both_at _ _ h k hk, if_pos (by omega)]
theorem Hi.zeros_both {d : List Int} (h : d.length = 81) : Hi.both Hi.zeros d = d := by
  refine Hi.ext (by rw [Hi.both_len _ _ (by rw [Hi.zeros_len, h]), Hi.zeros_len, h]) (fun k hk => ?_)
  rw [Hi.both_len _ _ (by rw [Hi.zeros_len, h]), Hi.zeros_len] at hk
  rw [Hi.both_at _ _ (by rw [Hi.zeros_len, h]) k (by rw [Hi.zeros_len]; exact hk), Hi.zeros_at]
  omega
/-- Counts taken onto counts that may be none. -/
def Hi.take (c d : List Int) : List Int := if d.length = 0 then c else Hi.both (Hi.pad c) d
theorem Hi.take_zeros {d : List Int} (h : d.length = 0 ∨ d.length = 81) : Hi.take Hi.zeros d = Hi.pad d := by
  unfold Hi.take Hi.pad
  split
  · rfl
  · rw [if_neg (by rw [Hi.zeros_len]; decide), Hi.zeros_both (by omega)]
theorem Hi.take_nil {d : List Int} (h : d.length = 0 ∨ d.length = 81) : Hi.take [] d = d := by
  unfold Hi.take
  split
  · rename_i h0
    exact (List.length_eq_zero_iff.1 h0).symm
  · show Hi.both Hi.zeros d = d
    exact Hi.zeros_both (by omega)
theorem Hi.take_len {c d : List Int} (h : c.length = 0 ∨ c.length = 81) (h2 : d.length = 0 ∨ d.length = 81) : (Hi.take c d).length = 0 ∨ (Hi.take c d).length = 81 := by
  unfold Hi.take
  split
  · exact h
  · rw [Hi.both_len _ _ (by rw [Hi.pad_len h]; omega), Hi.pad_len h]
    exact .inr rfl
/-- Merge: of the first k. -/
def Hi.tot (l : List Hi.H) : Nat → Int
  | 0 => 0
  | k + 1 => Hi.tot l k + (l.getD k Hi.H.z).t
def Hi.merC (l : List Hi.H) : Nat → List Int
  | 0 => []
  | k + 1 => Hi.take (Hi.merC l k) (l.getD k Hi.H.z).c
def Hi.merE (l : List Hi.H) : Int := if l.any (fun h => decide (Hi.chk h ≠ 0)) = true then 9 else if 1073741824 < Hi.tot l l.length then 72 else 0
def Hi.merR (l : List Hi.H) : Hi.H := if Hi.merE l = 0 then ⟨Hi.merC l l.length, Hi.tot l l.length⟩ else Hi.H.z
theorem Hi.all_at {l : List Hi.H} (h : l.any (fun h => decide (Hi.chk h ≠ 0)) = false) (k : Nat) : Hi.chk (l.getD k Hi.H.z) = 0 := by
  by_cases hk : k < l.length
  · rw [List.any_eq_false] at h
    have := h l[k] (List.getElem_mem hk)
    simpa [List.getD, hk] using this
  · simp [List.getD, hk]
    decide
theorem Hi.tot_up {l : List Hi.H} (h : ∀ k, k < l.length → Hi.chk (l.getD k Hi.H.z) = 0) (n : Nat) (hn : n ≤ l.length) (k : Nat) (hk : k ≤ n) : 0 ≤ Hi.tot l k ∧ Hi.tot l k ≤ Hi.tot l n ∧ Hi.tot l k ≤ 1073741824 * k := by
  have h0 : ∀ k, k < l.length → 0 ≤ (l.getD k Hi.H.z).t ∧ (l.getD k Hi.H.z).t ≤ 1073741824 := fun k hk => by
    obtain ⟨_, _, _, a, b⟩ := Hi.chk_zero (h k hk)
    exact ⟨a, b⟩
  have hp : ∀ k, k ≤ n → 0 ≤ Hi.tot l k ∧ Hi.tot l k ≤ 1073741824 * k := fun k => by
    induction k with
    | zero => exact fun _ => ⟨Int.le_refl 0, Int.le_refl 0⟩
    | succ k ih =>
      intro hk
      have := ih (by omega)
      have := h0 k (by omega)
      show 0 ≤ Hi.tot l k + (l.getD k Hi.H.z).t ∧ Hi.tot l k + (l.getD k Hi.H.z).t ≤ 1073741824 * ((k + 1 : Nat) : Int)
      omega
  have hu : ∀ d, k + d ≤ n → Hi.tot l k ≤ Hi.tot l (k + d) := fun d => by
    induction d with
    | zero => exact fun _ => Int.le_refl _
    | succ d ih =>
      intro hd
      have := ih (by omega)
      have := h0 (k + d) (by omega)
      show Hi.tot l k ≤ Hi.tot l (k + d) + (l.getD (k + d) Hi.H.z).t
      omega
  obtain ⟨d, rfl⟩ := Nat.exists_eq_add_of_le hk
  exact ⟨(hp k hk).1, hu d (Nat.le_refl _), (hp k hk).2⟩
theorem Hi.merE_zero {l : List Hi.H} (k : Hi.merE l = 0) : (∀ j, Hi.chk (l.getD j Hi.H.z) = 0) ∧ Hi.tot l l.length ≤ 1073741824 := by
  unfold Hi.merE at k
  split at k
  · cases k
  · rename_i h1
    split at k
    · cases k
    · exact ⟨Hi.all_at (by simpa using h1), by omega⟩
theorem Hi.merC_len {l : List Hi.H} (h : ∀ j, Hi.chk (l.getD j Hi.H.z) = 0) (k : Nat) : (Hi.merC l k).length = 0 ∨ (Hi.merC l k).length = 81 := by
  induction k with
  | zero => exact .inl rfl
  | succ k ih => exact Hi.take_len ih (Hi.chk_zero (h k)).1
/-- The reference's sum: laid at once, if any has counts. -/
def Hi.refC (l : List Hi.H) : Nat → List Int
  | 0 => Hi.zeros
  | k + 1 => Hi.take (Hi.refC l k) (l.getD k Hi.H.z).c
def Hi.anyC (l : List Hi.H) (k : Nat) : Bool := (l.take k).any fun h => decide (0 < h.c.length)
theorem Hi.anyC_next (l : List Hi.H) (k : Nat) (hk : k < l.length) : Hi.anyC l (k + 1) = (Hi.anyC l k || decide (0 < (l.getD k Hi.H.z).c.length)) := by
  unfold Hi.anyC
  rw [List.take_succ_eq_append_getElem hk]
  simp only [List.any_append, List.any_cons, List.any_nil, Bool.or_false]
  simp [List.getD, hk]
theorem Hi.refC_len {l : List Hi.H} (h : ∀ j, Hi.chk (l.getD j Hi.H.z) = 0) (k : Nat) : (Hi.refC l k).length = 81 := by
  induction k with
  | zero => exact Hi.zeros_len
  | succ k ih =>
    show (Hi.take _ _).length = 81
    unfold Hi.take
    split
    · exact ih
    · have := (Hi.chk_zero (h k)).1
      rw [Hi.both_len _ _ (by rw [Hi.pad_len (.inr ih)]; omega), Hi.pad_len (.inr ih)]
theorem Hi.mer_ref {l : List Hi.H} (h : ∀ j, Hi.chk (l.getD j Hi.H.z) = 0) (k : Nat) (hk : k ≤ l.length) : Hi.merC l k = if Hi.anyC l k = true then Hi.refC l k else [] := by
  induction k with
  | zero => rfl
  | succ k ih =>
    rw [Hi.anyC_next l k (by omega)]
    show Hi.take (Hi.merC l k) _ = if _ then Hi.take (Hi.refC l k) _ else []
    have hk' := ih (by omega)
    have hl := (Hi.chk_zero (h k)).1
    generalize (l.getD k Hi.H.z).c = d at *
    by_cases ha : Hi.anyC l k = true
    · rw [if_pos ha] at hk'
      rw [hk', ha]
      rfl
    · rw [if_neg ha] at hk'
      rw [hk']
      rw [Bool.not_eq_true] at ha
      rw [ha, Bool.false_or]
      have hz : Hi.anyC l k = false → Hi.refC l k = Hi.zeros := fun h0 => by
        clear ha hk' ih
        induction k with
        | zero => rfl
        | succ k ih2 =>
          rw [Hi.anyC_next l k (by omega), Bool.or_eq_false_iff, decide_eq_false_iff_not] at h0
          show Hi.take (Hi.refC l k) _ = _
          rw [ih2 (by omega) h0.1]
          unfold Hi.take
          rw [if_pos (by omega)]
      rw [hz ha]
      by_cases hd : 0 < d.length
      · rw [decide_eq_true hd, if_pos rfl, Hi.take_zeros hl, Hi.take_nil hl]
        unfold Hi.pad
        rw [if_neg (by omega)]
      · rw [decide_eq_false hd]
        unfold Hi.take
        rw [if_pos (by omega)]
        rfl
/-- Two in any order, and one. -/
theorem Hi.adds_chk {a : List Int} (h : Hi.addE Hi.H.z a = 0) : Hi.chk (Hi.addR Hi.H.z a) = 0 ∧ Hi.addR Hi.H.z a = ⟨Hi.adds Hi.zeros a, a.length⟩ := by
  have e : Hi.addR Hi.H.z a = ⟨Hi.adds Hi.zeros a, a.length⟩ := by
    unfold Hi.addR
    rw [if_pos h]
    show (⟨_, 0 + (a.length : Int)⟩ : Hi.H) = _
    rw [Int.zero_add]
    rfl
  obtain ⟨_, _, h3, h4⟩ := Hi.addE_zero h
  have hz : (0 : Int) + a.length ≤ 1073741824 := h4
  rw [e]
  refine ⟨?_, rfl⟩
  have hl : (Hi.adds Hi.zeros a).length = 81 := by rw [Hi.adds_len, Hi.zeros_len]
  have hr : Hi.ranged (Hi.adds Hi.zeros a) = true := Hi.ranged_all fun k hk => by
    rw [Hi.adds_at _ _ _ (by rw [Hi.zeros_len]; omega), Hi.zeros_at]
    have := Hi.cntB_pos k a
    have := Hi.cntB_len k a
    omega
  rw [Hi.chk_sum (by show ¬ ((Hi.adds Hi.zeros a).length ≠ 0 ∧ (Hi.adds Hi.zeros a).length ≠ 81); omega) hr]
  show (if Hi.pre (Hi.adds Hi.zeros a) (Hi.adds Hi.zeros a).length ≠ (a.length : Int) ∨ _ then _ else _) = _
  rw [hl, Hi.pre_adds _ _ (Nat.le_refl _), Hi.cntLt_all]
  rw [if_neg (by omega)]
end Go.Proofs.Ythdaldgmolhljaa
