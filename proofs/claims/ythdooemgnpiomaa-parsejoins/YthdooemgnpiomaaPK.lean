/- Tokens of texts one behind the other. -/
import Derived.Test.YthdooemgnpiomaaPJ
import Derived.Test.YthdooemgnpiomaaLPlainB
namespace Go.Proofs.Ythdooemgnpiomaa.Pl

theorem takeWhile_stop (p : Nat → Bool) (l : List Nat) (c : Nat) (r : List Nat) (hc : p c = false) : (l ++ c :: r).takeWhile p = l.takeWhile p ∧ (l ++ c :: r).dropWhile p = l.dropWhile p ++ c :: r := by
  induction l with
  | nil => simp [hc]
  | cons d l ih =>
    rw [List.cons_append, List.takeWhile_cons, List.takeWhile_cons, List.dropWhile_cons, List.dropWhile_cons]
    by_cases hd : p d = true
    · simp only [if_pos hd, ih.1, ih.2]
      exact ⟨trivial, trivial⟩
    · simp only [if_neg hd]
      exact ⟨trivial, by simp⟩

theorem preT_pre (l : List Tok) (t : Tok) (x : List Tok × Nat × Int) : tokCons t (preT l x) = preT (t :: l) x := by
  unfold preT tokCons
  by_cases h : x.2.2 = 0
  · simp [h]
  · simp [h]

theorem cons_zero {t : Tok} {x : List Tok × Nat × Int} (h : (tokCons t x).2.2 = 0) : x.2.2 = 0 ∧ (tokCons t x).1 = t :: x.1 := by
  unfold tokCons at h ⊢
  by_cases hx : x.2.2 = 0
  · rw [if_pos hx]
    exact ⟨hx, rfl⟩
  · rw [if_neg hx] at h
    exact absurd h hx

/-- A text that is taken, a newline and another text. -/
theorem tok_join (f : Nat) : ∀ (a : List Nat) (ln : Nat), a.length < f → (tok a ln).2.2 = 0 → ∃ ln', ∀ b, tok (a ++ 10 :: b) ln = preT (tok a ln).1 (tok b ln') := by
  induction f with
  | zero => intro a ln h; omega
  | succ f ih =>
    intro a ln hf h0
    cases a with
    | nil => exact ⟨ln + 1, fun b => by rw [List.nil_append, tok_nl, tok_nil, preT_nil]⟩
    | cons c r =>
      rw [List.length_cons] at hf
      by_cases h1 : c = 10
      · subst h1
        rw [tok_nl] at h0 ⊢
        obtain ⟨ln', h⟩ := ih r (ln + 1) (by omega) h0
        exact ⟨ln', fun b => by rw [List.cons_append, tok_nl]; exact h b⟩
      by_cases h2 : isBlank c = true
      · rw [tok_blank c r ln h2] at h0 ⊢
        obtain ⟨ln', h⟩ := ih r ln (by omega) h0
        exact ⟨ln', fun b => by rw [List.cons_append, tok_blank _ _ _ h2]; exact h b⟩
      by_cases h3 : c = 35
      · subst h3
        rw [tok_remark] at h0 ⊢
        obtain ⟨ln', h⟩ := ih (r.dropWhile (fun d => d != 10)) ln (by have := dropWhile_le (fun d => d != 10) r; omega) h0
        refine ⟨ln', fun b => ?_⟩
        rw [List.cons_append, tok_remark, (takeWhile_stop _ r 10 b (by decide)).2]
        exact h b
      by_cases h4 : isSign c = true
      · rw [tok_sign c r ln h4] at h0 ⊢
        obtain ⟨h5, h6⟩ := cons_zero h0
        obtain ⟨ln', h⟩ := ih r ln (by omega) h5
        exact ⟨ln', fun b => by rw [List.cons_append, tok_sign _ _ _ h4, h b, h6, preT_pre]⟩
      by_cases h5 : isPart c = true
      · rw [tok_part c r ln h5] at h0 ⊢
        split at h0
        · rename_i hw
          rw [if_pos hw]
          obtain ⟨h6, h7⟩ := cons_zero h0
          obtain ⟨ln', h⟩ := ih ((c :: r).dropWhile isPart) ln (by have := part_drop c r h5; omega) h6
          refine ⟨ln', fun b => ?_⟩
          obtain ⟨q1, q2⟩ := takeWhile_stop isPart (c :: r) 10 b (by decide)
          rw [List.cons_append] at q1 q2 ⊢
          rw [tok_part _ _ _ h5, q1, q2, if_pos hw, h b, h7, preT_pre]
        · rename_i hw
          exact absurd h0 hw
      · rw [tok_else c r ln h1 (by simpa using h2) h3 (by simpa using h4) (by simpa using h5)] at h0
        simp at h0

def kt (t : Tok) : Kt := (t.kind, t.text)

/-- Both texts are taken, and so is the first, a newline and the second. -/
theorem toks_join (a b : List Nat) (h1 : (tok a 1).2.2 = 0) (h2 : (tok b 1).2.2 = 0) : (tok (a ++ 10 :: b) 1).2.2 = 0 ∧ (tok (a ++ 10 :: b) 1).1.map kt = (tok a 1).1.map kt ++ (tok b 1).1.map kt := by
  obtain ⟨ln', h⟩ := tok_join (a.length + 1) a 1 (by omega) h1
  rw [h b]
  have hs : tok b ln' = tok b ln' := rfl
  have key : ∀ ln, (tok b ln).2.2 = (tok b 1).2.2 ∧ (tok b ln).1.map kt = (tok b 1).1.map kt := by
    intro ln
    unfold tok
    have e0 := tok_shift ln (b.length + 1) b 0
    have e1 := tok_shift 1 (b.length + 1) b 0
    rw [Nat.zero_add] at e0 e1
    rw [e0, e1]
    simp only [shiftT, List.map_map]
    exact ⟨trivial, List.map_congr_left fun t _ => rfl⟩
  obtain ⟨k1, k2⟩ := key ln'
  unfold preT
  rw [if_pos (by rw [k1]; exact h2)]
  refine ⟨rfl, ?_⟩
  rw [List.map_append, k2]
end Go.Proofs.Ythdooemgnpiomaa.Pl
