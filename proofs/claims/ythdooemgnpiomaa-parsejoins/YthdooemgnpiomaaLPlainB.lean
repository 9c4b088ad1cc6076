/- Texts as tokens: lines. -/
import Derived.Test.YthdooemgnpiomaaXJ
namespace Go.Proofs.Ythdooemgnpiomaa.Pl

/-- A token some lines further down. -/
def addL (m : Nat) (t : Tok) : Tok := ⟨t.kind, t.text, t.line + m⟩
def shiftT (m : Nat) (x : List Tok × Nat × Int) : List Tok × Nat × Int := (x.1.map (addL m), (if x.2.2 = 0 then 0 else x.2.1 + m), x.2.2)

theorem shift_cons (m : Nat) (t : Tok) (x : List Tok × Nat × Int) : shiftT m (tokCons t x) = tokCons (addL m t) (shiftT m x) := by
  obtain ⟨a, b, c⟩ := x
  unfold shiftT tokCons
  by_cases h : c = 0
  · simp [h]
  · simp [h]

theorem tok_shift (m f : Nat) : ∀ (l : List Nat) (ln : Nat), tokS f l (ln + m) = shiftT m (tokS f l ln) := by
  induction f with
  | zero => intro l ln; rfl
  | succ f ih =>
    intro l ln
    cases l with
    | nil => rfl
    | cons c r =>
      simp only [tokS]
      split
      · rw [show ln + m + 1 = ln + 1 + m by omega]; exact ih _ _
      · split
        · exact ih _ _
        · split
          · exact ih _ _
          · split
            · rw [shift_cons, ih]; rfl
            · split
              · split
                · rw [shift_cons, ih]; rfl
                · rename_i h
                  simp [shiftT, h]
              · simp [shiftT]

theorem tok_down (l : List Nat) (m : Nat) : tok (List.replicate m 10 ++ l) 1 = shiftT m (tok l 1) := by
  have h := tok_newlines (l.length + 1) m l 1
  rw [tok_of _ _ _ (by simp; omega), tok_shift] at h
  exact h

/-- Lines are from the first one on, and no more than octets. -/
def within (ln n : Nat) (x : List Tok × Nat × Int) : Prop := (∀ t ∈ x.1, ln ≤ t.line ∧ t.line ≤ ln + n) ∧ x.2.1 ≤ ln + n

theorem within_cons {ln n : Nat} {t : Tok} {x : List Tok × Nat × Int} (ht : ln ≤ t.line ∧ t.line ≤ ln + n) (h : within ln n x) : within ln n (tokCons t x) := by
  unfold tokCons
  split
  · refine ⟨fun u hu => ?_, Nat.zero_le _⟩
    rcases List.mem_cons.1 hu with rfl | hu
    · exact ht
    · exact h.1 u hu
  · exact ⟨fun u hu => (by cases hu), h.2⟩
theorem within_mono {ln ln' n n' : Nat} {x : List Tok × Nat × Int} (h : within ln n x) (h1 : ln' ≤ ln) (h2 : ln + n ≤ ln' + n') : within ln' n' x :=
  ⟨fun t ht => by have := h.1 t ht; omega, by have := h.2; omega⟩

theorem tok_within (f : Nat) : ∀ (l : List Nat) (ln : Nat), within ln l.length (tokS f l ln) := by
  induction f with
  | zero => intro l ln; exact ⟨fun t ht => (by cases ht), Nat.zero_le _⟩
  | succ f ih =>
    intro l ln
    cases l with
    | nil => exact ⟨fun t ht => (by cases ht), Nat.zero_le _⟩
    | cons c r =>
      simp only [tokS, List.length_cons]
      split
      · exact within_mono (ih _ _) (by omega) (by omega)
      · split
        · exact within_mono (ih _ _) (by omega) (by omega)
        · split
          · exact within_mono (ih _ _) (by omega) (by have := dropWhile_le (fun d => d != 10) r; omega)
          · split
            · exact within_cons ⟨Nat.le_refl _, by simp⟩ (within_mono (ih _ _) (by omega) (by omega))
            · split
              · rename_i hp
                split
                · exact within_cons ⟨Nat.le_refl _, by simp⟩ (within_mono (ih _ _) (by omega) (by have := part_drop c r hp; omega))
                · exact ⟨fun t ht => (by cases ht), by simp⟩
              · exact ⟨fun t ht => (by cases ht), by simp⟩
end Go.Proofs.Ythdooemgnpiomaa.Pl
