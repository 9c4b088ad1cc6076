/- Frames read again and again: one step at a time. -/
import Derived.Test.YtoadcaennlfadaaFPlainB
namespace Go.Proofs.Ytoadcaennlfadaa.Pl

theorem octs_drop {l : List Int} (h : Octs l) (k : Nat) : Octs (l.drop k) := fun z hz => h z (List.mem_of_mem_drop hz)
theorem octs_take {l : List Int} (h : Octs l) (k : Nat) : Octs (l.take k) := fun z hz => h z (List.mem_of_mem_take hz)
theorem octs_nil : Octs [] := fun z hz => by simp at hz

theorem getF_pos (b p : List Int) (k : Nat) (ho : Octs b) (h : getF b = (p, k, 0)) : 6 ≤ k ∧ k ≤ b.length ∧ fits p ∧ p.length ≤ k := by
  obtain ⟨hf, hk, r, hr⟩ := getF_ok b p k ho h
  have h1 := frame_len p
  have h2 := enc_len_pos 9 p.length
  have h3 := hf.1
  have h4 := congrArg List.length hr
  rw [List.length_append] at h4
  exact ⟨by omega, by omega, hf, by omega⟩

theorem scanS_fuel (f g : Nat) (b : List Int) (ho : Octs b) (hf : b.length < f) (hg : b.length < g) : scanS f b = scanS g b := by
  induction f generalizing g b with
  | zero => omega
  | succ f ih =>
    cases g with
    | zero => omega
    | succ g =>
      simp only [scanS]
      by_cases h1 : (getF b).2.2 = 71
      · rw [if_pos h1, if_pos h1]
      · rw [if_neg h1, if_neg h1]
        by_cases h2 : (getF b).2.2 = 0
        · rw [if_neg (by simp [h2]), if_neg (by simp [h2])]
          obtain ⟨p, k, hpk⟩ : ∃ p k, getF b = (p, k, 0) := by
            generalize getF b = q at h2
            obtain ⟨p, k, e⟩ := q
            simp only at h2
            subst h2
            exact ⟨p, k, rfl⟩
          have hp := getF_pos b p k ho hpk
          rw [hpk]
          simp only
          rw [ih g (b.drop k) (octs_drop ho k) (by rw [List.length_drop]; omega) (by rw [List.length_drop]; omega)]
        · rw [if_pos h2, if_pos h2]

theorem scanF_none (b p : List Int) (k : Nat) (h : getF b = (p, k, 71)) : scanF b = ([], 0, 0) := by
  unfold scanF
  simp only [scanS]
  rw [h]
  rfl
theorem scanF_bad (b p : List Int) (k : Nat) (er : Int) (h : getF b = (p, k, er)) (h1 : er ≠ 71) (h2 : er ≠ 0) : scanF b = ([], 0, er) := by
  unfold scanF
  simp only [scanS]
  rw [h]
  simp only
  rw [if_neg h1, if_pos h2]
theorem scanF_step (b p : List Int) (k : Nat) (ho : Octs b) (h : getF b = (p, k, 0)) : scanF b = (p :: (scanF (b.drop k)).1, k + (scanF (b.drop k)).2.1, (scanF (b.drop k)).2.2) := by
  have hp := getF_pos b p k ho h
  unfold scanF
  rw [scanS_fuel ((b.drop k).length + 1) b.length (b.drop k) (octs_drop ho k) (by omega) (by rw [List.length_drop]; omega)]
  rw [scanS, h]
  simp only
  rw [if_neg (by decide), if_neg (by simp)]

/-- What Scan tells: whole texts, a place within. -/
theorem scanF_ok (f : Nat) (b : List Int) (ho : Octs b) (hf : b.length ≤ f) : (scanF b).2.1 ≤ b.length ∧ 6 * (scanF b).1.length ≤ (scanF b).2.1 ∧ (∀ p ∈ (scanF b).1, fits p) := by
  induction f generalizing b with
  | zero =>
    have : b = [] := List.length_eq_zero_iff.1 (by omega)
    subst this
    rw [scanF_none [] [] 0 getF_nil]
    simp
  | succ f ih =>
    obtain ⟨p, k, er, h⟩ : ∃ p k er, getF b = (p, k, er) := ⟨_, _, _, rfl⟩
    by_cases h1 : er = 71
    · subst h1
      rw [scanF_none b p k h]
      simp
    · by_cases h2 : er = 0
      · subst h2
        have hp := getF_pos b p k ho h
        have hi := ih (b.drop k) (octs_drop ho k) (by rw [List.length_drop]; omega)
        rw [scanF_step b p k ho h]
        simp only [List.length_cons, List.mem_cons, forall_eq_or_imp]
        rw [List.length_drop] at hi
        exact ⟨by omega, by omega, hp.2.2.1, hi.2.2⟩
      · rw [scanF_bad b p k er h h1 h2]
        simp
theorem scanF_fits (b : List Int) (ho : Octs b) : (scanF b).2.1 ≤ b.length ∧ 6 * (scanF b).1.length ≤ (scanF b).2.1 ∧ (∀ p ∈ (scanF b).1, fits p) := scanF_ok b.length b ho (Nat.le_refl _)
end Go.Proofs.Ytoadcaennlfadaa.Pl
