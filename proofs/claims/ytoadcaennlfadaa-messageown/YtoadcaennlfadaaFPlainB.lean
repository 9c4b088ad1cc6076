/- Frames in pieces; a frame of which one octet is another one. -/
import Derived.Test.YtoadcaennlfadaaFPlain
namespace Go.Proofs.Ytoadcaennlfadaa.Pl

theorem getF_nil : getF [] = ([], 0, 71) := by
  unfold getF
  simp [getI, getS]

/-- The beginning of frames: whole ones, and what is none yet. -/
theorem frames_prefix (m : List (List Int)) (u y : List Int) (hm : ∀ p ∈ m, fits p) (h : u ++ y = framesOf m) :
    ∃ i, i ≤ m.length ∧ ∃ c, u = framesOf (m.take i) ++ c ∧ (getF c).2.2 = 71 ∧ c ++ y = framesOf (m.drop i) := by
  induction m generalizing u with
  | nil =>
    have h0 : u ++ y = [] := by simpa [framesOf] using h
    obtain ⟨rfl, rfl⟩ := List.append_eq_nil_iff.1 h0
    exact ⟨0, Nat.le_refl _, [], by simp [framesOf], by rw [getF_nil], by simp [framesOf]⟩
  | cons p m ih =>
    have hp := hm p (by simp)
    have e : framesOf (p :: m) = frameOf p ++ framesOf m := by simp [framesOf]
    rw [e] at h
    by_cases hl : u.length < (frameOf p).length
    · refine ⟨0, Nat.zero_le _, u, by simp [framesOf], ?_, by simpa [framesOf] using h⟩
      have hu : frameOf p = u ++ (frameOf p).drop u.length := by
        have h3 := congrArg (List.take u.length) h
        rw [List.take_left, List.take_append_of_le_length (by omega)] at h3
        conv => lhs; rw [← List.take_append_drop u.length (frameOf p), ← h3]
      rw [getF_cut p u _ hp (by
        intro e
        have := congrArg List.length e
        simp at this
        omega) hu]
    · have hu : u = frameOf p ++ u.drop (frameOf p).length := by
        have h3 := congrArg (List.take (frameOf p).length) h
        rw [List.take_left, List.take_append_of_le_length (by omega)] at h3
        conv => lhs; rw [← List.take_append_drop (frameOf p).length u, h3]
      have h4 : u.drop (frameOf p).length ++ y = framesOf m := by
        rw [hu, List.append_assoc] at h
        exact List.append_cancel_left h
      obtain ⟨i, hi, c, h5, h6, h7⟩ := ih _ (fun q hq => hm q (by simp [hq])) h4
      refine ⟨i + 1, by simp; omega, c, ?_, h6, by simpa using h7⟩
      rw [hu, h5]
      simp [framesOf]

/-- What is read of the beginning of frames. -/
theorem scanF_prefix (m : List (List Int)) (u y : List Int) (hm : ∀ p ∈ m, fits p) (h : u ++ y = framesOf m) :
    ∃ i, i ≤ m.length ∧ scanF u = (m.take i, (framesOf (m.take i)).length, 0) ∧ (getF (u.drop (framesOf (m.take i)).length)).2.2 = 71 ∧ u.drop (framesOf (m.take i)).length ++ y = framesOf (m.drop i) := by
  obtain ⟨i, hi, c, rfl, h1, h2⟩ := frames_prefix m u y hm h
  refine ⟨i, hi, scanF_frames _ c (fun q hq => hm q (List.mem_of_mem_take hq)) h1, ?_, ?_⟩
  · rw [List.drop_left]
    exact h1
  · rw [List.drop_left]
    exact h2

theorem frames_nil {m : List (List Int)} (hm : ∀ p ∈ m, fits p) (h : framesOf m = []) : m = [] := by
  cases m with
  | nil => rfl
  | cons p m =>
    have h1 := frame_len p
    simp only [framesOf, List.flatMap_cons] at h
    have := (List.append_eq_nil_iff.1 h).1
    rw [this] at h1
    simp at h1

/-- What is left behind frames that were read is none yet, and no more than so long. -/
theorem scanS_rest (f : Nat) (b : List Int) (ho : Octs b) (hf : b.length < f) (he : (scanS f b).2.2 = 0) : (scanS f b).2.1 ≤ b.length ∧ (getF (b.drop (scanS f b).2.1)).2.2 = 71 := by
  induction f generalizing b with
  | zero => omega
  | succ f ih =>
    simp only [scanS] at he ⊢
    by_cases h1 : (getF b).2.2 = 71
    · rw [if_pos h1]
      exact ⟨Nat.zero_le _, by simpa using h1⟩
    · rw [if_neg h1] at he ⊢
      by_cases h2 : (getF b).2.2 = 0
      · rw [if_neg (by simp [h2])] at he ⊢
        obtain ⟨p, k, hpk⟩ : ∃ p k, getF b = (p, k, 0) := by
          generalize getF b = g at h2
          obtain ⟨p, k, e⟩ := g
          simp only at h2
          subst h2
          exact ⟨p, k, rfl⟩
        obtain ⟨hfit, hk, r, hr⟩ := getF_ok b p k ho hpk
        have hl := frame_len p
        have hlb := congrArg List.length hr
        rw [List.length_append] at hlb
        rw [hpk] at he ⊢
        simp only at he ⊢
        have hi := ih (b.drop k) (fun z hz => ho z (List.mem_of_mem_drop hz)) (by rw [List.length_drop]; omega) he
        rw [List.length_drop, List.drop_drop] at hi
        exact ⟨by omega, hi.2⟩
      · rw [if_pos h2] at he
        exact absurd he h2
theorem scanF_rest (b : List Int) (ho : Octs b) (he : (scanF b).2.2 = 0) : (scanF b).2.1 ≤ b.length ∧ (getF (b.drop (scanF b).2.1)).2.2 = 71 := scanS_rest _ b ho (Nat.lt_succ_self _) he

theorem getS_short (l : List Int) (i : Nat) (p acc : Int) (hi : i ≤ 9) (h : (getS l i p acc).2.2 = 8) : i + l.length ≤ 9 := by
  induction l generalizing i p acc with
  | nil => simpa using hi
  | cons c r ih =>
    simp only [getS] at h
    split at h
    · rename_i hm
      split at h
      · simp at h
      · rename_i hc
        have : i ≠ 9 := by
          rintro rfl
          have := mayB_nine hm
          omega
        have := ih (i + 1) _ _ (by omega) h
        simp only [List.length_cons]
        omega
    · simp at h
theorem getF_none_len (b : List Int) (ho : Octs b) (h : (getF b).2.2 = 71) : b.length ≤ 4109 := by
  unfold getF at h
  split at h
  · rename_i h1
    unfold getI at h1
    rw [if_neg (by omega)] at h1
    have := getS_short _ 0 0 0 (by omega) h1
    simp at this
    omega
  split at h
  · rename_i h1 h2
    rcases getI_err b 0 with e | e | e | e
    · exact absurd e h2
    · rw [e] at h; simp at h
    · rw [e] at h; simp at h
    · rw [e] at h; simp at h
  split at h
  · simp at h
  split at h
  · simp at h
  split at h
  · rename_i e1 e2 e3 e4 e5
    obtain ⟨n, q, e⟩ : ∃ n q, getI b 0 = (n, q, 0) := by
      have hz : (getI b 0).2.2 = 0 := by
        by_cases hz : (getI b 0).2.2 = 0
        · exact hz
        · exact absurd hz e2
      generalize getI b 0 = g at hz
      obtain ⟨n, q, x⟩ := g
      simp only at hz
      subst hz
      exact ⟨n, q, rfl⟩
    obtain ⟨_, g1, g2, g3, g4, r, g5, g6⟩ := getI_ok b 0 n q ho e
    rw [e] at e4 e5
    simp only at e4 e5
    have := enc_len_le 9 n
    omega
  split at h
  · simp at h
  · simp at h

/-- One octet that is another one. -/
theorem run_set (c : Nat) (l : List Int) (i t : Nat) (h : i < l.length) : run c (l.set i (((l.getD i 0).toNat ^^^ t : Nat) : Int)) = run c l ^^^ it (8 * (l.length - i)) t := by
  induction l generalizing c i with
  | nil => simp at h
  | cons o r ih =>
    cases i with
    | zero =>
      simp only [List.getD_cons_zero, List.set_cons_zero, run_cons, Int.toNat_natCast]
      rw [← Nat.xor_assoc, it_xor, run_xor, ← it_add]
      congr 2
      simp only [List.length_cons]
      omega
    | succ i =>
      simp only [List.getD_cons_succ, List.set_cons_succ, run_cons]
      rw [ih _ i (by simpa using h)]
      congr 2
      simp only [List.length_cons]
      omega
theorem sum_set (l : List Int) (i t : Nat) (h : i < l.length) (ht : t < 4294967296) (h0 : t ≠ 0) : sumOf (l.set i (((l.getD i 0).toNat ^^^ t : Nat) : Int)) ≠ sumOf l := by
  intro e
  unfold sumOf at e
  have e1 := congrArg (4294967295 ^^^ ·) e
  simp only [xx] at e1
  rw [run_set _ _ _ _ h] at e1
  have e2 := congrArg (run 4294967295 l ^^^ ·) e1
  simp only [xx, Nat.xor_self] at e2
  have : it (8 * (l.length - i)) t = it (8 * (l.length - i)) 0 := by rw [it_zero]; exact e2
  exact h0 (it_inj ht (by decide) this)

/-- A frame of which one octet, behind those of its length, is another one. -/
theorem getF_rot (p : List Int) (i t : Nat) (h : fits p) (hi : (enc 9 p.length).length ≤ i) (hl : i < (frameOf p).length) (ht : t < 256) (h0 : t ≠ 0) :
    getF ((frameOf p).set i ((((frameOf p).getD i 0).toNat ^^^ t : Nat) : Int)) = ([], 0, 21) := by
  obtain ⟨h1, h2, ho⟩ := h
  have hfl := frame_len p
  generalize hz : ((((frameOf p).getD i 0).toNat ^^^ t : Nat) : Int) = z
  have hne : (frameOf p).getD i 0 ≠ z := by
    intro e
    rw [← hz] at e
    have e1 : ((frameOf p).getD i 0).toNat = ((frameOf p).getD i 0).toNat ^^^ t := by
      have := congrArg Int.toNat e
      rw [Int.toNat_natCast] at this
      exact this
    have e2 := congrArg (((frameOf p).getD i 0).toNat ^^^ ·) e1
    simp only [xx, Nat.xor_self] at e2
    exact h0 e2.symm
  obtain ⟨d, hd⟩ : ∃ d, (frameOf p).set i z = enc 9 p.length ++ d := by
    unfold frameOf bodyOf
    rw [List.append_assoc, List.set_append_right _ _ hi]
    exact ⟨_, rfl⟩
  have hg : getI ((frameOf p).set i z) 0 = ((p.length : Int), ((enc 9 p.length).length : Int), 0) := by
    rw [hd]
    have := get_put [] d p.length (by omega) (by omega)
    simpa using this
  unfold getF
  rw [hg]
  simp only
  rw [if_neg (by decide), if_neg (by simp), if_neg (by omega), if_neg (by omega), if_neg (by rw [List.length_set]; omega)]
  simp only [Int.toNat_natCast]
  rw [← hfl, show ((frameOf p).set i z).take (frameOf p).length = (frameOf p).set i z from List.take_of_length_le (by rw [List.length_set]; exact Nat.le_refl _)]
  refine if_neg ?_
  intro e
  by_cases hib : i < (bodyOf p).length
  · have hbl : (bodyOf p).length = (enc 9 p.length).length + p.length := by simp [bodyOf]
    have hs : (frameOf p).set i z = (bodyOf p).set i z ++ four (sumOf (bodyOf p)) := by
      unfold frameOf
      rw [List.set_append_left _ _ hib]
    have hb2 : (bodyOf p).set i z = enc 9 p.length ++ p.set (i - (enc 9 p.length).length) z := by
      unfold bodyOf
      rw [List.set_append_right _ _ hi]
    have hp2 : (((frameOf p).set i z).drop (enc 9 p.length).length).take p.length = p.set (i - (enc 9 p.length).length) z := by
      rw [hs, hb2, List.append_assoc, List.drop_left, List.take_left' (by simp)]
    rw [hp2, hs, frameOf] at e
    have hbody : bodyOf (p.set (i - (enc 9 p.length).length) z) = (bodyOf p).set i z := by
      rw [hb2]
      simp [bodyOf]
    rw [hbody] at e
    have e2 := List.append_cancel_left e
    have hzb : z = ((((bodyOf p).getD i 0).toNat ^^^ t : Nat) : Int) := by
      rw [← hz]
      unfold frameOf
      rw [show (bodyOf p ++ four (sumOf (bodyOf p))).getD i 0 = (bodyOf p).getD i 0 by simp [List.getD, List.getElem?_append_left hib]]
    have hob := octs_body ho (by omega)
    have ho2 : Octs ((bodyOf p).set i z) := by
      rw [hzb]
      intro x hx
      rcases List.mem_or_eq_of_mem_set hx with hx | rfl
      · exact hob x hx
      · have g1 : ((bodyOf p).getD i 0).toNat < 2 ^ 8 := by
          have := hob ((bodyOf p).getD i 0) (by simp [List.getD, hib])
          omega
        have := Nat.xor_lt_two_pow g1 (show t < 2 ^ 8 by omega)
        omega
    have e3 := four_inj (sumOf_lt ho2) (sumOf_lt hob) e2
    rw [hzb] at e3
    exact sum_set _ _ _ hib (by omega) h0 e3
  · have hbl : (bodyOf p).length = (enc 9 p.length).length + p.length := by simp [bodyOf]
    have hs : (frameOf p).set i z = bodyOf p ++ (four (sumOf (bodyOf p))).set (i - (bodyOf p).length) z := by
      unfold frameOf
      rw [List.set_append_right _ _ (by omega)]
    have hp2 : (((frameOf p).set i z).drop (enc 9 p.length).length).take p.length = p := by
      rw [hs]
      unfold bodyOf
      rw [List.append_assoc, List.drop_left, List.take_left]
    rw [hp2] at e
    have e2 : (frameOf p).getD i 0 = ((frameOf p).set i z).getD i 0 := congrArg (fun l => l.getD i 0) e
    rw [show ((frameOf p).set i z).getD i 0 = z by simp [List.getD, hl]] at e2
    exact hne e2
end Go.Proofs.Ytoadcaennlfadaa.Pl
