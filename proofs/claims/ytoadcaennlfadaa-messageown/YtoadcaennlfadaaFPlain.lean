/- Frames: a payload's frame, a frame read, frames read one behind the other. -/
import Derived.Test.YtoadcaennlfadaaVPlainC
import Derived.Test.YtoadcaennlfadaaCrcB
namespace Go.Proofs.Ytoadcaennlfadaa.Pl

/-- The length's octets, and the payload. -/
def bodyOf (p : List Int) : List Int := enc 9 p.length ++ p
def frameOf (p : List Int) : List Int := bodyOf p ++ four (sumOf (bodyOf p))
def framesOf (l : List (List Int)) : List Int := l.flatMap frameOf
def fits (p : List Int) : Prop := 1 ≤ p.length ∧ p.length ≤ 4096 ∧ Octs p

/-- A frame read: the payload, how many octets it took, the error. -/
def getF (b : List Int) : List Int × Nat × Int :=
  if (getI b 0).2.2 = 8 then ([], 0, 71)
  else if (getI b 0).2.2 ≠ 0 then ([], 0, (getI b 0).2.2)
  else if (getI b 0).1 = 0 then ([], 0, 8)
  else if 4096 < (getI b 0).1 then ([], 0, 5)
  else if (b.length : Int) - (getI b 0).2.1 < (getI b 0).1 + 4 then ([], 0, 71)
  else if frameOf ((b.drop (getI b 0).2.1.toNat).take (getI b 0).1.toNat) = b.take ((getI b 0).2.1.toNat + (getI b 0).1.toNat + 4) then ((b.drop (getI b 0).2.1.toNat).take (getI b 0).1.toNat, (getI b 0).2.1.toNat + (getI b 0).1.toNat + 4, 0)
  else ([], 0, 21)

theorem four_len (W : Nat) : (four W).length = 4 := rfl
theorem frame_len (p : List Int) : (frameOf p).length = (enc 9 p.length).length + p.length + 4 := by
  simp only [frameOf, bodyOf, List.length_append, four_len]
theorem octs_app {l m : List Int} (h : Octs l) (k : Octs m) : Octs (l ++ m) := fun z hz => (List.mem_append.1 hz).elim (h z) (k z)
theorem octs_body {p : List Int} (h : Octs p) (hl : p.length ≤ 9223372036854775807) : Octs (bodyOf p) :=
  octs_app (enc_oct 9 _ (by omega) (by rw [lim9]; omega)) h
theorem octs_frame {p : List Int} (h : Octs p) (hl : p.length ≤ 9223372036854775807) : Octs (frameOf p) := octs_app (octs_body h hl) (octs_four _)

/-- A number that is cut off. -/
theorem getS_cut (f : Nat) (m : Int) (c r : List Int) (p acc : Int) (hf : f ≤ 9) (h0 : 0 ≤ m) (h1 : m < lim f) (hz : f < 9 → 1 ≤ m) (hr : r ≠ []) (hc : enc f m = c ++ r) :
    getS c (9 - f) p acc = (0, 0, 8) := by
  induction f generalizing m c p acc with
  | zero =>
    cases c with
    | nil => rfl
    | cons x c =>
      simp only [enc, List.cons_append, List.cons.injEq] at hc
      have := List.append_eq_nil_iff.1 hc.2.symm
      exact absurd this.2 hr
  | succ f ih =>
    by_cases hm : m < 128
    · rw [enc_lt hm] at hc
      cases c with
      | nil => rfl
      | cons x c =>
        simp only [List.cons_append, List.cons.injEq] at hc
        have := List.append_eq_nil_iff.1 hc.2.symm
        exact absurd this.2 hr
    · rw [enc_ge (by omega)] at hc
      cases c with
      | nil => rfl
      | cons x c =>
        simp only [List.cons_append, List.cons.injEq] at hc
        obtain ⟨rfl, hc⟩ := hc
        have hmay : mayB (9 - (f + 1)) (m % 128 + 128) = true := by
          unfold mayB
          rw [if_neg (by omega)]
          simp
          omega
        simp only [getS]
        rw [if_pos hmay, if_neg (by omega), show 9 - (f + 1) + 1 = 9 - f from by omega]
        exact ih (m / 128) c _ _ (by omega) (by omega) (by simp only [lim] at h1; omega) (fun _ => by omega) hc
theorem getI_cut (n : Int) (c r : List Int) (h0 : 0 ≤ n) (h1 : n ≤ 18446744073709551615) (hr : r ≠ []) (hc : enc 9 n = c ++ r) : getI c 0 = (0, 0, 8) := by
  unfold getI
  rw [if_neg (by omega)]
  exact getS_cut 9 n c r 0 0 (by omega) h0 (by rw [lim9]; omega) (by omega) hr hc

theorem getI_body (p c : List Int) (hp : p.length ≤ 4096) : getI (bodyOf p ++ c) 0 = ((p.length : Int), ((enc 9 p.length).length : Int), 0) := by
  have := get_put [] (p ++ c) p.length (by omega) (by omega)
  unfold bodyOf
  simpa using this

/-- What is put is got. -/
theorem getF_put (p c : List Int) (h : fits p) : getF (frameOf p ++ c) = (p, (frameOf p).length, 0) := by
  obtain ⟨h1, h2, ho⟩ := h
  have hg : getI (frameOf p ++ c) 0 = ((p.length : Int), ((enc 9 p.length).length : Int), 0) := by
    unfold frameOf
    rw [List.append_assoc]
    exact getI_body p _ h2
  have hl := frame_len p
  have hd : ((frameOf p ++ c).drop (enc 9 p.length).length).take p.length = p := by
    unfold frameOf bodyOf
    rw [List.append_assoc, List.append_assoc, List.drop_left, List.take_left]
  unfold getF
  rw [hg]
  simp only
  rw [if_neg (by decide), if_neg (by simp), if_neg (by omega), if_neg (by omega), if_neg (by rw [List.length_append]; omega)]
  simp only [Int.toNat_natCast]
  rw [hd, ← hl, List.take_left, if_pos rfl]

/-- What is cut off is no frame yet. -/
theorem getF_cut (p c r : List Int) (h : fits p) (hr : r ≠ []) (hc : frameOf p = c ++ r) : getF c = ([], 0, 71) := by
  obtain ⟨h1, h2, ho⟩ := h
  have hl := frame_len p
  have hlc := congrArg List.length hc
  rw [List.length_append] at hlc
  have hrp : 1 ≤ r.length := by
    cases r with
    | nil => exact absurd rfl hr
    | cons x r => simp
  by_cases hs : c.length < (enc 9 p.length).length
  · have he : enc 9 p.length = c ++ (enc 9 p.length).drop c.length := by
      have ht : (enc 9 p.length).take c.length = c := by
        have h3 := congrArg (List.take c.length) hc
        rw [List.take_left] at h3
        unfold frameOf bodyOf at h3
        rw [List.append_assoc, List.take_append_of_le_length (by omega)] at h3
        exact h3
      conv => lhs; rw [← List.take_append_drop c.length (enc 9 p.length), ht]
    have := getI_cut p.length c _ (by omega) (by omega) (by
      intro e
      have := congrArg List.length e
      simp at this
      omega) he
    unfold getF
    rw [this]
    rfl
  · obtain ⟨d, hd⟩ : ∃ d, c = enc 9 p.length ++ d := by
      refine ⟨c.drop (enc 9 p.length).length, ?_⟩
      have h3 := congrArg (List.take (enc 9 p.length).length) hc
      rw [List.take_append_of_le_length (by omega)] at h3
      unfold frameOf bodyOf at h3
      rw [List.append_assoc, List.take_left] at h3
      conv => lhs; rw [← List.take_append_drop (enc 9 p.length).length c, ← h3]
    have hg : getI c 0 = ((p.length : Int), ((enc 9 p.length).length : Int), 0) := by
      rw [hd]
      have := get_put [] d p.length (by omega) (by omega)
      simpa using this
    unfold getF
    rw [hg]
    simp only
    rw [if_neg (by decide), if_neg (by simp), if_neg (by omega), if_neg (by omega), if_pos (by omega)]

/-- What is got is what putting makes. -/
theorem getF_ok (b p : List Int) (k : Nat) (ho : Octs b) (h : getF b = (p, k, 0)) : fits p ∧ k = (frameOf p).length ∧ ∃ r, b = frameOf p ++ r := by
  unfold getF at h
  split at h
  · simp at h
  split at h
  · rename_i h1
    simp at h
    exact absurd h.2.2 h1
  split at h
  · simp at h
  split at h
  · simp at h
  split at h
  · simp at h
  split at h
  · rename_i e1 e2 e3 e4 e5 e6
    simp only [Prod.mk.injEq] at h
    obtain ⟨rfl, rfl, _⟩ := h
    obtain ⟨n, q, e⟩ : ∃ n q, getI b 0 = (n, q, 0) := by
      have hz : (getI b 0).2.2 = 0 := by
        by_cases hz : (getI b 0).2.2 = 0
        · exact hz
        · exact absurd hz e2
      generalize getI b 0 = g at hz
      obtain ⟨n, q, x⟩ := g
      simp only at hz
      subst hz
      exact ⟨n, q, rfl⟩
    obtain ⟨_, g1, g2, g3, g4, r, g5, g6⟩ := getI_ok b 0 n q ho e
    rw [e] at e3 e4 e5 e6 ⊢
    simp only at e3 e4 e5 e6 ⊢
    have hl : ((b.drop q.toNat).take n.toNat).length = n.toNat := by
      rw [List.length_take, List.length_drop]
      omega
    refine ⟨⟨by omega, by omega, fun z hz => ho z (List.mem_of_mem_drop (List.mem_of_mem_take hz))⟩, ?_, b.drop (q.toNat + n.toNat + 4), ?_⟩
    · rw [e6, List.length_take]
      omega
    · rw [e6, List.take_append_drop]
  · simp at h

/-- Frames read one behind the other: the payloads, how many octets they took, the error. -/
def scanS : Nat → List Int → List (List Int) × Nat × Int
  | 0, _ => ([], 0, 0)
  | f + 1, b =>
    if (getF b).2.2 = 71 then ([], 0, 0)
    else if (getF b).2.2 ≠ 0 then ([], 0, (getF b).2.2)
    else ((getF b).1 :: (scanS f (b.drop (getF b).2.1)).1, (getF b).2.1 + (scanS f (b.drop (getF b).2.1)).2.1, (scanS f (b.drop (getF b).2.1)).2.2)
def scanF (b : List Int) : List (List Int) × Nat × Int := scanS (b.length + 1) b

theorem scanS_frames (f : Nat) (l : List (List Int)) (c : List Int) (hl : ∀ p ∈ l, fits p) (hc : (getF c).2.2 = 71) (hf : l.length < f) : scanS f (framesOf l ++ c) = (l, (framesOf l).length, 0) := by
  induction l generalizing f with
  | nil =>
    cases f with
    | zero => omega
    | succ f =>
      simp only [framesOf, List.flatMap_nil, List.nil_append, scanS]
      rw [if_pos hc]
      rfl
  | cons p l ih =>
    cases f with
    | zero => omega
    | succ f =>
      have hp := getF_put p (framesOf l ++ c) (hl p (by simp))
      have e : framesOf (p :: l) ++ c = frameOf p ++ (framesOf l ++ c) := by simp [framesOf]
      have hi := ih f (fun q hq => hl q (by simp [hq])) (by simp at hf; omega)
      rw [e]
      simp only [scanS]
      rw [hp]
      simp only
      rw [if_neg (by decide), if_neg (by simp), List.drop_left, hi]
      simp [framesOf]
theorem frames_len (l : List (List Int)) (hl : ∀ p ∈ l, fits p) : 6 * l.length ≤ (framesOf l).length := by
  induction l with
  | nil => simp [framesOf]
  | cons p l ih =>
    have h1 := ih (fun q hq => hl q (by simp [hq]))
    have h2 := frame_len p
    have h3 := (hl p (by simp)).1
    have h4 := enc_len_pos 9 p.length
    simp only [framesOf, List.flatMap_cons, List.length_append, List.length_cons] at h1 ⊢
    omega
theorem scanF_frames (l : List (List Int)) (c : List Int) (hl : ∀ p ∈ l, fits p) (hc : (getF c).2.2 = 71) : scanF (framesOf l ++ c) = (l, (framesOf l).length, 0) := by
  unfold scanF
  refine scanS_frames _ l c hl hc ?_
  have := frames_len l hl
  rw [List.length_append]
  omega
end Go.Proofs.Ytoadcaennlfadaa.Pl
