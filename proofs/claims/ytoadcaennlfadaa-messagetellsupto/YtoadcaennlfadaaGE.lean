/- Frames: a payload's frame, a frame read, frames read one behind the other. Frames in pieces; a frame of which one octet is another one. Frames read again and again: one step at a time. -/
import Derived.Test.YtoadcaennlfadaaGA
import Derived.Test.YtoadcaennlfadaaGD
namespace Go.Proofs.Ytoadcaennlfadaa.Pl

/-- The length's octets, and the payload. -/
def bodyOf (p : List Int) : List Int := enc 9 p.length ++ p
def frameOf (p : List Int) : List Int := bodyOf p ++ four (sumOf (bodyOf p))
def framesOf (l : List (List Int)) : List Int := l.flatMap frameOf
def fits (p : List Int) : Prop := 1 ≤ p.length ∧ p.length ≤ 4096 ∧ Octs p

/-- A frame read: the payload, how many octets it took, the error. -/
def getF (b : List Int) : List Int × Nat × Int :=
  if (getI b 0).2.2 = 8 then ([], 0, 71)
  else if (getI b 0).2.2 ≠ 0 then ([], 0, (getI b 0).2.2)
  else if (getI b 0).1 = 0 then ([], 0, 8)
  else if 4096 < (getI b 0).1 then ([], 0, 5)
  else if (b.length : Int) - (getI b 0).2.1 < (getI b 0).1 + 4 then ([], 0, 71)
  else if frameOf ((b.drop (getI b 0).2.1.toNat).take (getI b 0).1.toNat) = b.take ((getI b 0).2.1.toNat + (getI b 0).1.toNat + 4) then ((b.drop (getI b 0).2.1.toNat).take (getI b 0).1.toNat, (getI b 0).2.1.toNat + (getI b 0).1.toNat + 4, 0)
  else ([], 0, 21)

theorem four_len (W : Nat) : (four W).length = 4 := rfl
theorem frame_len (p : List Int) : (frameOf p).length = (enc 9 p.length).length + p.length + 4 := by
  simp only [frameOf, bodyOf, List.length_append, four_len]
theorem octs_app {l m : List Int} (h : Octs l) (k : Octs m) : Octs (l ++ m) := fun z hz => (List.mem_append.1 hz).elim (h z) (k z)
theorem octs_body {p : List Int} (h : Octs p) (hl : p.length ≤ 9223372036854775807) : Octs (bodyOf p) :=
  octs_app (enc_oct 9 _ (by omega) (by rw [lim9]; omega)) h
theorem octs_frame {p : List Int} (h : Octs p) (hl : p.length ≤ 9223372036854775807) : Octs (frameOf p) := octs_app (octs_body h hl) (octs_four _)

/-- A number that is cut off. -/
theorem getS_cut (f : Nat) (m : Int) (c r : List Int) (p acc : Int) (hf : f ≤ 9) (h0 : 0 ≤ m) (h1 : m < lim f) (hz : f < 9 → 1 ≤ m) (hr : r ≠ []) (hc : enc f m = c ++ r) :
    getS c (9 - f) p acc = (0, 0, 8) := by
  induction f generalizing m c p acc with
  | zero =>
    cases c with
    | nil => rfl
    | cons x c =>
      simp only [enc, List.cons_append, List.cons.injEq] at hc
      have := List.append_eq_nil_iff.1 hc.2.symm
      exact absurd this.2 hr
  | succ f ih =>
    by_cases hm : m < 128
    · rw [enc_lt hm] at hc
      cases c with
      | nil => rfl
      | cons x c =>
        simp only [List.cons_append, List.cons.injEq] at hc
        have := List.append_eq_nil_iff.1 hc.2.symm
        exact absurd this.2 hr
    · rw [enc_ge (by omega)] at hc
      cases c with
      | nil => rfl
      | cons x c =>
        simp only [List.cons_append, List.cons.injEq] at hc
        obtain ⟨rfl, hc⟩ := hc
        have hmay : mayB (9 - (f + 1)) (m % 128 + 128) = true := by
          unfold mayB
          rw [if_neg (by omega)]
          simp
          omega
        simp only [getS]
        rw [if_pos hmay, if_neg (by omega), show 9 - (f + 1) + 1 = 9 - f from by omega]
        exact ih (m / 128) c _ _ (by omega) (by omega) (by simp only [lim] at h1; omega) (fun _ => by omega) hc
theorem getI_cut (n : Int) (c r : List Int) (h0 : 0 ≤ n) (h1 : n ≤ 18446744073709551615) (hr : r ≠ []) (hc : enc 9 n = c ++ r) : getI c 0 = (0, 0, 8) := by
  unfold getI
  rw [if_neg (by omega)]
  exact getS_cut 9 n c r 0 0 (by omega) h0 (by rw [lim9]; omega) (by omega) hr hc

theorem getI_body (p c : List Int) (hp : p.length ≤ 4096) : getI (bodyOf p ++ c) 0 = ((p.length : Int), ((enc 9 p.length).length : Int), 0) := by
  have := get_put [] (p ++ c) p.length (by omega) (by omega)
  unfold bodyOf
  simpa using this

/-- What is put is got. -/
theorem getF_put (p c : List Int) (h : fits p) : getF (frameOf p ++ c) = (p, (frameOf p).length, 0) := by
  obtain ⟨h1, h2, ho⟩ := h
  have hg : getI (frameOf p ++ c) 0 = ((p.length : Int), ((enc 9 p.length).length : Int), 0) := by
    unfold frameOf
    rw [List.append_assoc]
    exact getI_body p _ h2
  have hl := frame_len p
  have hd : ((frameOf p ++ c).drop (enc 9 p.length).length).take p.length = p := by
    unfold frameOf bodyOf
    rw [List.append_assoc, List.append_assoc, List.drop_left, List.take_left]
  unfold getF
  rw [hg]
  simp only
  rw [if_neg (by decide), if_neg (by simp), if_neg (by omega), if_neg (by omega), if_neg (by rw [List.length_append]; omega)]
  simp only [Int.toNat_natCast]
  rw [hd, ← hl, List.take_left, if_pos rfl]

/-- What is cut off is no frame yet. -/
theorem getF_cut (p c r : List Int) (h : fits p) (hr : r ≠ []) (hc : frameOf p = c ++ r) : getF c = ([], 0, 71) := by
  obtain ⟨h1, h2, ho⟩ := h
  have hl := frame_len p
  have hlc := congrArg List.length hc
  rw [List.length_append] at hlc
  have hrp : 1 ≤ r.length := by
    cases r with
    | nil => exact absurd rfl hr
    | cons x r => simp
  by_cases hs : c.length < (enc 9 p.length).length
  · have he : enc 9 p.length = c ++ (enc 9 p.length).drop c.length := by
      have ht : (enc 9 p.length).take c.length = c := by
        have h3 := congrArg (List.take c.length) hc
        rw [List.take_left] at h3
        unfold frameOf bodyOf at h3
        rw [List.append_assoc, List.take_append_of_le_length (by omega)] at h3
        exact h3
      conv => lhs; rw [← List.take_append_drop c.length (enc 9 p.length), ht]
    have := getI_cut p.length c _ (by omega) (by omega) (by
      intro e
      have := congrArg List.length e
      simp at this
      omega) he
    unfold getF
    rw [this]
    rfl
  · obtain ⟨d, hd⟩ : ∃ d, c = enc 9 p.length ++ d := by
      refine ⟨c.drop (enc 9 p.length).length, ?_⟩
      have h3 := congrArg (List.take (enc 9 p.length).length) hc
      rw [List.take_append_of_le_length (by omega)] at h3
      unfold frameOf bodyOf at h3
      rw [List.append_assoc, List.take_left] at h3
      conv => lhs; rw [← List.take_append_drop (enc 9 p.length).length c, ← h3]
    have hg : getI c 0 = ((p.length : Int), ((enc 9 p.length).length : Int), 0) := by
      rw [hd]
      have := get_put [] d p.length (by omega) (by omega)
      simpa using this
    unfold getF
    rw [hg]
    simp only
    rw [if_neg (by decide), if_neg (by simp), if_neg (by omega), if_neg (by omega), if_pos (by omega)]

/-- What is got is what putting makes. -/
theorem getF_ok (b p : List Int) (k : Nat) (ho : Octs b) (h : getF b = (p, k, 0)) : fits p ∧ k = (frameOf p).length ∧ ∃ r, b = frameOf p ++ r := by
  unfold getF at h
  split at h
  · simp at h
  split at h
  · rename_i h1
    simp at h
    exact absurd h.2.2 h1
  split at h
  · simp at h
  split at h
  · simp at h
  split at h
  · simp at h
  split at h
  · rename_i e1 e2 e3 e4 e5 e6
    simp only [Prod.mk.injEq] at h
    obtain ⟨rfl, rfl, _⟩ := h
    obtain ⟨n, q, e⟩ : ∃ n q, getI b 0 = (n, q, 0) := by
      have hz : (getI b 0).2.2 = 0 := by
        by_cases hz : (getI b 0).2.2 = 0
        · exact hz
        · exact absurd hz e2
      generalize getI b 0 = g at hz
      obtain ⟨n, q, x⟩ := g
      simp only at hz
      subst hz
      exact ⟨n, q, rfl⟩
    obtain ⟨_, g1, g2, g3, g4, r, g5, g6⟩ := getI_ok b 0 n q ho e
    rw [e] at e3 e4 e5 e6 ⊢
    simp only at e3 e4 e5 e6 ⊢
    have hl : ((b.drop q.toNat).take n.toNat).length = n.toNat := by
      rw [List.length_take, List.length_drop]
      omega
    refine ⟨⟨by omega, by omega, fun z hz => ho z (List.mem_of_mem_drop (List.mem_of_mem_take hz))⟩, ?_, b.drop (q.toNat + n.toNat + 4), ?_⟩
    · rw [e6, List.length_take]
      omega
    · rw [e6, List.take_append_drop]
  · simp at h

/-- Frames read one behind the other: the payloads, how many octets they took, the error. -/
def scanS : Nat → List Int → List (List Int) × Nat × Int
  | 0, _ => ([], 0, 0)
  | f + 1, b =>
    if (getF b).2.2 = 71 then ([], 0, 0)
    else if (getF b).2.2 ≠ 0 then ([], 0, (getF b).2.2)
    else ((getF b).1 :: (scanS f (b.drop (getF b).2.1)).1, (getF b).2.1 + (scanS f (b.drop (getF b).2.1)).2.1, (scanS f (b.drop (getF b).2.1)).2.2)
def scanF (b : List Int) : List (List Int) × Nat × Int := scanS (b.length + 1) b

theorem scanS_frames (f : Nat) (l : List (List Int)) (c : List Int) (hl : ∀ p ∈ l, fits p) (hc : (getF c).2.2 = 71) (hf : l.length < f) : scanS f (framesOf l ++ c) = (l, (framesOf l).length, 0) := by
  induction l generalizing f with
  | nil =>
    cases f with
    | zero => omega
    | succ f =>
      simp only [framesOf, List.flatMap_nil, List.nil_append, scanS]
      rw [if_pos hc]
      rfl
  | cons p l ih =>
    cases f with
    | zero => omega
    | succ f =>
      have hp := getF_put p (framesOf l ++ c) (hl p (by simp))
      have e : framesOf (p :: l) ++ c = frameOf p ++ (framesOf l ++ c) := by simp [framesOf]
      have hi := ih f (fun q hq => hl q (by simp [hq])) (by simp at hf; omega)
      rw [e]
      simp only [scanS]
      rw [hp]
      simp only
      rw [if_neg (by decide), if_neg (by simp), List.drop_left, hi]
      simp [framesOf]
theorem frames_len (l : List (List Int)) (hl : ∀ p ∈ l, fits p) : 6 * l.length ≤ (framesOf l).length := by
  induction l with
  | nil => simp [framesOf]
  | cons p l ih =>
    have h1 := ih (fun q hq => hl q (by simp [hq]))
    have h2 := frame_len p
    have h3 := (hl p (by simp)).1
    have h4 := enc_len_pos 9 p.length
    simp only [framesOf, List.flatMap_cons, List.length_append, List.length_cons] at h1 ⊢
    omega
theorem scanF_frames (l : List (List Int)) (c : List Int) (hl : ∀ p ∈ l, fits p) (hc : (getF c).2.2 = 71) : scanF (framesOf l ++ c) = (l, (framesOf l).length, 0) := by
  unfold scanF
  refine scanS_frames _ l c hl hc ?_
  have := frames_len l hl
  rw [List.length_append]
  omega
end Go.Proofs.Ytoadcaennlfadaa.Pl

namespace Go.Proofs.Ytoadcaennlfadaa.Pl

theorem getF_nil : getF [] = ([], 0, 71) := by
  unfold getF
  simp [getI, getS]

/-- The beginning of frames: whole ones, and what is none yet. -/
theorem frames_prefix (m : List (List Int)) (u y : List Int) (hm : ∀ p ∈ m, fits p) (h : u ++ y = framesOf m) :
    ∃ i, i ≤ m.length ∧ ∃ c, u = framesOf (m.take i) ++ c ∧ (getF c).2.2 = 71 ∧ c ++ y = framesOf (m.drop i) := by
  induction m generalizing u with
  | nil =>
    have h0 : u ++ y = [] := by simpa [framesOf] using h
    obtain ⟨rfl, rfl⟩ := List.append_eq_nil_iff.1 h0
    exact ⟨0, Nat.le_refl _, [], by simp [framesOf], by rw [getF_nil], by simp [framesOf]⟩
  | cons p m ih =>
    have hp := hm p (by simp)
    have e : framesOf (p :: m) = frameOf p ++ framesOf m := by simp [framesOf]
    rw [e] at h
    by_cases hl : u.length < (frameOf p).length
    · refine ⟨0, Nat.zero_le _, u, by simp [framesOf], ?_, by simpa [framesOf] using h⟩
      have hu : frameOf p = u ++ (frameOf p).drop u.length := by
        have h3 := congrArg (List.take u.length) h
        rw [List.take_left, List.take_append_of_le_length (by omega)] at h3
        conv => lhs; rw [← List.take_append_drop u.length (frameOf p), ← h3]
      rw [getF_cut p u _ hp (by
        intro e
        have := congrArg List.length e
        simp at this
        omega) hu]
    · have hu : u = frameOf p ++ u.drop (frameOf p).length := by
        have h3 := congrArg (List.take (frameOf p).length) h
        rw [List.take_left, List.take_append_of_le_length (by omega)] at h3
        conv => lhs; rw [← List.take_append_drop (frameOf p).length u, h3]
      have h4 : u.drop (frameOf p).length ++ y = framesOf m := by
        rw [hu, List.append_assoc] at h
        exact List.append_cancel_left h
      obtain ⟨i, hi, c, h5, h6, h7⟩ := ih _ (fun q hq => hm q (by simp [hq])) h4
      refine ⟨i + 1, by simp; omega, c, ?_, h6, by simpa using h7⟩
      rw [hu, h5]
      simp [framesOf]

/-- What is read of the beginning of frames. -/
theorem scanF_prefix (m : List (List Int)) (u y : List Int) (hm : ∀ p ∈ m, fits p) (h : u ++ y = framesOf m) :
    ∃ i, i ≤ m.length ∧ scanF u = (m.take i, (framesOf (m.take i)).length, 0) ∧ (getF (u.drop (framesOf (m.take i)).length)).2.2 = 71 ∧ u.drop (framesOf (m.take i)).length ++ y = framesOf (m.drop i) := by
  obtain ⟨i, hi, c, rfl, h1, h2⟩ := frames_prefix m u y hm h
  refine ⟨i, hi, scanF_frames _ c (fun q hq => hm q (List.mem_of_mem_take hq)) h1, ?_, ?_⟩
  · rw [List.drop_left]
    exact h1
  · rw [List.drop_left]
    exact h2

theorem frames_nil {m : List (List Int)} (hm : ∀ p ∈ m, fits p) (h : framesOf m = []) : m = [] := by
  cases m with
  | nil => rfl
  | cons p m =>
    have h1 := frame_len p
    simp only [framesOf, List.flatMap_cons] at h
    have := (List.append_eq_nil_iff.1 h).1
    rw [this] at h1
    simp at h1

/-- What is left behind frames that were read is none yet, and no more than so long. -/
theorem scanS_rest (f : Nat) (b : List Int) (ho : Octs b) (hf : b.length < f) (he : (scanS f b).2.2 = 0) : (scanS f b).2.1 ≤ b.length ∧ (getF (b.drop (scanS f b).2.1)).2.2 = 71 := by
  induction f generalizing b with
  | zero => omega
  | succ f ih =>
    simp only [scanS] at he ⊢
    by_cases h1 : (getF b).2.2 = 71
    · rw [if_pos h1]
      exact ⟨Nat.zero_le _, by simpa using h1⟩
    · rw [if_neg h1] at he ⊢
      by_cases h2 : (getF b).2.2 = 0
      · rw [if_neg (by simp [h2])] at he ⊢
        obtain ⟨p, k, hpk⟩ : ∃ p k, getF b = (p, k, 0) := by
          generalize getF b = g at h2
          obtain ⟨p, k, e⟩ := g
          simp only at h2
          subst h2
          exact ⟨p, k, rfl⟩
        obtain ⟨hfit, hk, r, hr⟩ := getF_ok b p k ho hpk
        have hl := frame_len p
        have hlb := congrArg List.length hr
        rw [List.length_append] at hlb
        rw [hpk] at he ⊢
        simp only at he ⊢
        have hi := ih (b.drop k) (fun z hz => ho z (List.mem_of_mem_drop hz)) (by rw [List.length_drop]; omega) he
        rw [List.length_drop, List.drop_drop] at hi
        exact ⟨by omega, hi.2⟩
      · rw [if_pos h2] at he
        exact absurd he h2
theorem scanF_rest (b : List Int) (ho : Octs b) (he : (scanF b).2.2 = 0) : (scanF b).2.1 ≤ b.length ∧ (getF (b.drop (scanF b).2.1)).2.2 = 71 := scanS_rest _ b ho (Nat.lt_succ_self _) he

theorem getS_short (l : List Int) (i : Nat) (p acc : Int) (hi : i ≤ 9) (h : (getS l i p acc).2.2 = 8) : i + l.length ≤ 9 := by
  induction l generalizing i p acc with
  | nil => simpa using hi
  | cons c r ih =>
    simp only [getS] at h
    split at h
    · rename_i hm
      split at h
      · simp at h
      · rename_i hc
        have : i ≠ 9 := by
          rintro rfl
          have := mayB_nine hm
          omega
        have := ih (i + 1) _ _ (by omega) h
        simp only [List.length_cons]
        omega
    · simp at h
theorem getF_none_len (b : List Int) (ho : Octs b) (h : (getF b).2.2 = 71) : b.length ≤ 4109 := by
  unfold getF at h
  split at h
  · rename_i h1
    unfold getI at h1
    rw [if_neg (by omega)] at h1
    have := getS_short _ 0 0 0 (by omega) h1
    simp at this
    omega
  split at h
  · rename_i h1 h2
    rcases getI_err b 0 with e | e | e | e
    · exact absurd e h2
    · rw [e] at h; simp at h
    · rw [e] at h; simp at h
    · rw [e] at h; simp at h
  split at h
  · simp at h
  split at h
  · simp at h
  split at h
  · rename_i e1 e2 e3 e4 e5
    obtain ⟨n, q, e⟩ : ∃ n q, getI b 0 = (n, q, 0) := by
      have hz : (getI b 0).2.2 = 0 := by
        by_cases hz : (getI b 0).2.2 = 0
        · exact hz
        · exact absurd hz e2
      generalize getI b 0 = g at hz
      obtain ⟨n, q, x⟩ := g
      simp only at hz
      subst hz
      exact ⟨n, q, rfl⟩
    obtain ⟨_, g1, g2, g3, g4, r, g5, g6⟩ := getI_ok b 0 n q ho e
    rw [e] at e4 e5
    simp only at e4 e5
    have := enc_len_le 9 n
    omega
  split at h
  · simp at h
  · simp at h

/-- One octet that is another one. -/
theorem run_set (c : Nat) (l : List Int) (i t : Nat) (h : i < l.length) : run c (l.set i (((l.getD i 0).toNat ^^^ t : Nat) : Int)) = run c l ^^^ it (8 * (l.length - i)) t := by
  induction l generalizing c i with
  | nil => simp at h
  | cons o r ih =>
    cases i with
    | zero =>
      simp only [List.getD_cons_zero, List.set_cons_zero, run_cons, Int.toNat_natCast]
      rw [← Nat.xor_assoc, it_xor, run_xor, ← it_add]
      congr 2
      simp only [List.length_cons]
      omega
    | succ i =>
      simp only [List.getD_cons_succ, List.set_cons_succ, run_cons]
      rw [ih _ i (by simpa using h)]
      congr 2
      simp only [List.length_cons]
      omega
theorem sum_set (l : List Int) (i t : Nat) (h : i < l.length) (ht : t < 4294967296) (h0 : t ≠ 0) : sumOf (l.set i (((l.getD i 0).toNat ^^^ t : Nat) : Int)) ≠ sumOf l := by
  intro e
  unfold sumOf at e
  have e1 := congrArg (4294967295 ^^^ ·) e
  simp only [xx] at e1
  rw [run_set _ _ _ _ h] at e1
  have e2 := congrArg (run 4294967295 l ^^^ ·) e1
  simp only [xx, Nat.xor_self] at e2
  have : it (8 * (l.length - i)) t = it (8 * (l.length - i)) 0 := by rw [it_zero]; exact e2
  exact h0 (it_inj ht (by decide) this)

/-- A frame of which one octet, behind those of its length, is another one. -/
theorem getF_rot (p : List Int) (i t : Nat) (h : fits p) (hi : (enc 9 p.length).length ≤ i) (hl : i < (frameOf p).length) (ht : t < 256) (h0 : t ≠ 0) :
    getF ((frameOf p).set i ((((frameOf p).getD i 0).toNat ^^^ t : Nat) : Int)) = ([], 0, 21) := by
  obtain ⟨h1, h2, ho⟩ := h
  have hfl := frame_len p
  generalize hz : ((((frameOf p).getD i 0).toNat ^^^ t : Nat) : Int) = z
  have hne : (frameOf p).getD i 0 ≠ z := by
    intro e
    rw [← hz] at e
    have e1 : ((frameOf p).getD i 0).toNat = ((frameOf p).getD i 0).toNat ^^^ t := by
      have := congrArg Int.toNat e
      rw [Int.toNat_natCast] at this
      exact this
    have e2 := congrArg (((frameOf p).getD i 0).toNat ^^^ ·) e1
    simp only [xx, Nat.xor_self] at e2
    exact h0 e2.symm
  obtain ⟨d, hd⟩ : ∃ d, (frameOf p).set i z = enc 9 p.length ++ d := by
    unfold frameOf bodyOf
    rw [List.append_assoc, List.set_append_right _ _ hi]
    exact ⟨_, rfl⟩
  have hg : getI ((frameOf p).set i z) 0 = ((p.length : Int), ((enc 9 p.length).length : Int), 0) := by
    rw [hd]
    have := get_put [] d p.length (by omega) (by omega)
    simpa using this
  unfold getF
  rw [hg]
  simp only
  rw [if_neg (by decide), if_neg (by simp), if_neg (by omega), if_neg (by omega), if_neg (by rw [List.length_set]; omega)]
  simp only [Int.toNat_natCast]
  rw [← hfl, show ((frameOf p).set i z).take (frameOf p).length = (frameOf p).set i z from List.take_of_length_le (by rw [List.length_set]; exact Nat.le_refl _)]
  refine if_neg ?_
  intro e
  by_cases hib : i < (bodyOf p).length
  · have hbl : (bodyOf p).length = (enc 9 p.length).length + p.length := by simp [bodyOf]
    have hs : (frameOf p).set i z = (bodyOf p).set i z ++ four (sumOf (bodyOf p)) := by
      unfold frameOf
      rw [List.set_append_left _ _ hib]
    have hb2 : (bodyOf p).set i z = enc 9 p.length ++ p.set (i - (enc 9 p.length).length) z := by
      unfold bodyOf
      rw [List.set_append_right _ _ hi]
    have hp2 : (((frameOf p).set i z).drop (enc 9 p.length).length).take p.length = p.set (i - (enc 9 p.length).length) z := by
      rw [hs, hb2, List.append_assoc, List.drop_left, List.take_left' (by simp)]
    rw [hp2, hs, frameOf] at e
    have hbody : bodyOf (p.set (i - (enc 9 p.length).length) z) = (bodyOf p).set i z := by
      rw [hb2]
      simp [bodyOf]
    rw [hbody] at e
    have e2 := List.append_cancel_left e
    have hzb : z = ((((bodyOf p).getD i 0).toNat ^^^ t : Nat) : Int) := by
      rw [← hz]
      unfold frameOf
      rw [show (bodyOf p ++ four (sumOf (bodyOf p))).getD i 0 = (bodyOf p).getD i 0 by simp [List.getD, List.getElem?_append_left hib]]
    have hob := octs_body ho (by omega)
    have ho2 : Octs ((bodyOf p).set i z) := by
      rw [hzb]
      intro x hx
      rcases List.mem_or_eq_of_mem_set hx with hx | rfl
      · exact hob x hx
      · have g1 : ((bodyOf p).getD i 0).toNat < 2 ^ 8 := by
          have := hob ((bodyOf p).getD i 0) (by simp [List.getD, hib])
          omega
        have := Nat.xor_lt_two_pow g1 (show t < 2 ^ 8 by omega)
        omega
    have e3 := four_inj (sumOf_lt ho2) (sumOf_lt hob) e2
    rw [hzb] at e3
    exact sum_set _ _ _ hib (by omega) h0 e3
  · have hbl : (bodyOf p).length = (enc 9 p.length).length + p.length := by simp [bodyOf]
    have hs : (frameOf p).set i z = bodyOf p ++ (four (sumOf (bodyOf p))).set (i - (bodyOf p).length) z := by
      unfold frameOf
      rw [List.set_append_right _ _ (by omega)]
    have hp2 : (((frameOf p).set i z).drop (enc 9 p.length).length).take p.length = p := by
      rw [hs]
      unfold bodyOf
      rw [List.append_assoc, List.drop_left, List.take_left]
    rw [hp2] at e
    have e2 : (frameOf p).getD i 0 = ((frameOf p).set i z).getD i 0 := congrArg (fun l => l.getD i 0) e
    rw [show ((frameOf p).set i z).getD i 0 = z by simp [List.getD, hl]] at e2
    exact hne e2
end Go.Proofs.Ytoadcaennlfadaa.Pl

namespace Go.Proofs.Ytoadcaennlfadaa.Pl

theorem octs_drop {l : List Int} (h : Octs l) (k : Nat) : Octs (l.drop k) := fun z hz => h z (List.mem_of_mem_drop hz)
theorem octs_take {l : List Int} (h : Octs l) (k : Nat) : Octs (l.take k) := fun z hz => h z (List.mem_of_mem_take hz)
theorem octs_nil : Octs [] := fun z hz => by simp at hz

theorem getF_pos (b p : List Int) (k : Nat) (ho : Octs b) (h : getF b = (p, k, 0)) : 6 ≤ k ∧ k ≤ b.length ∧ fits p ∧ p.length ≤ k := by
  obtain ⟨hf, hk, r, hr⟩ := getF_ok b p k ho h
  have h1 := frame_len p
  have h2 := enc_len_pos 9 p.length
  have h3 := hf.1
  have h4 := congrArg List.length hr
  rw [List.length_append] at h4
  exact ⟨by omega, by omega, hf, by omega⟩

theorem scanS_fuel (f g : Nat) (b : List Int) (ho : Octs b) (hf : b.length < f) (hg : b.length < g) : scanS f b = scanS g b := by
  induction f generalizing g b with
  | zero => omega
  | succ f ih =>
    cases g with
    | zero => omega
    | succ g =>
      simp only [scanS]
      by_cases h1 : (getF b).2.2 = 71
      · rw [if_pos h1, if_pos h1]
      · rw [if_neg h1, if_neg h1]
        by_cases h2 : (getF b).2.2 = 0
        · rw [if_neg (by simp [h2]), if_neg (by simp [h2])]
          obtain ⟨p, k, hpk⟩ : ∃ p k, getF b = (p, k, 0) := by
            generalize getF b = q at h2
            obtain ⟨p, k, e⟩ := q
            simp only at h2
            subst h2
            exact ⟨p, k, rfl⟩
          have hp := getF_pos b p k ho hpk
          rw [hpk]
          simp only
          rw [ih g (b.drop k) (octs_drop ho k) (by rw [List.length_drop]; omega) (by rw [List.length_drop]; omega)]
        · rw [if_pos h2, if_pos h2]

theorem scanF_none (b p : List Int) (k : Nat) (h : getF b = (p, k, 71)) : scanF b = ([], 0, 0) := by
  unfold scanF
  simp only [scanS]
  rw [h]
  rfl
theorem scanF_bad (b p : List Int) (k : Nat) (er : Int) (h : getF b = (p, k, er)) (h1 : er ≠ 71) (h2 : er ≠ 0) : scanF b = ([], 0, er) := by
  unfold scanF
  simp only [scanS]
  rw [h]
  simp only
  rw [if_neg h1, if_pos h2]
theorem scanF_step (b p : List Int) (k : Nat) (ho : Octs b) (h : getF b = (p, k, 0)) : scanF b = (p :: (scanF (b.drop k)).1, k + (scanF (b.drop k)).2.1, (scanF (b.drop k)).2.2) := by
  have hp := getF_pos b p k ho h
  unfold scanF
  rw [scanS_fuel ((b.drop k).length + 1) b.length (b.drop k) (octs_drop ho k) (by omega) (by rw [List.length_drop]; omega)]
  rw [scanS, h]
  simp only
  rw [if_neg (by decide), if_neg (by simp)]

/-- What Scan tells: whole texts, a place within. -/
theorem scanF_ok (f : Nat) (b : List Int) (ho : Octs b) (hf : b.length ≤ f) : (scanF b).2.1 ≤ b.length ∧ 6 * (scanF b).1.length ≤ (scanF b).2.1 ∧ (∀ p ∈ (scanF b).1, fits p) := by
  induction f generalizing b with
  | zero =>
    have : b = [] := List.length_eq_zero_iff.1 (by omega)
    subst this
    rw [scanF_none [] [] 0 getF_nil]
    simp
  | succ f ih =>
    obtain ⟨p, k, er, h⟩ : ∃ p k er, getF b = (p, k, er) := ⟨_, _, _, rfl⟩
    by_cases h1 : er = 71
    · subst h1
      rw [scanF_none b p k h]
      simp
    · by_cases h2 : er = 0
      · subst h2
        have hp := getF_pos b p k ho h
        have hi := ih (b.drop k) (octs_drop ho k) (by rw [List.length_drop]; omega)
        rw [scanF_step b p k ho h]
        simp only [List.length_cons, List.mem_cons, forall_eq_or_imp]
        rw [List.length_drop] at hi
        exact ⟨by omega, by omega, hp.2.2.1, hi.2.2⟩
      · rw [scanF_bad b p k er h h1 h2]
        simp
theorem scanF_fits (b : List Int) (ho : Octs b) : (scanF b).2.1 ≤ b.length ∧ 6 * (scanF b).1.length ≤ (scanF b).2.1 ∧ (∀ p ∈ (scanF b).1, fits p) := scanF_ok b.length b ho (Nat.le_refl _)
end Go.Proofs.Ytoadcaennlfadaa.Pl

