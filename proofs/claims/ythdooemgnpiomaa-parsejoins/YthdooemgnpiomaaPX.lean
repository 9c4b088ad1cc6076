/- The text of declarations, and its tokens. -/
import Derived.Test.YthdooemgnpiomaaPW
namespace Go.Proofs.Ythdooemgnpiomaa.Pl

/-- A piece of a text, and its tokens, whatever stands behind it. -/
def Lx (x : List Nat) (ks : List Kt) : Prop := ∀ ln, ∃ ln' ts, ts.map kt = ks ∧ ∀ b, tok (x ++ b) ln = preT ts (tok b ln')

theorem Lx.nil : Lx [] [] := fun ln => ⟨ln, [], rfl, fun b => by rw [List.nil_append, preT_nil]⟩
theorem preT_preT (a b : List Tok) (x : List Tok × Nat × Int) : preT a (preT b x) = preT (a ++ b) x := by
  unfold preT
  by_cases h : x.2.2 = 0
  · simp [h]
  · simp [h]
theorem Lx.append {x y : List Nat} {k l : List Kt} (h1 : Lx x k) (h2 : Lx y l) : Lx (x ++ y) (k ++ l) := by
  intro ln
  obtain ⟨ln1, t1, e1, p1⟩ := h1 ln
  obtain ⟨ln2, t2, e2, p2⟩ := h2 ln1
  exact ⟨ln2, t1 ++ t2, by rw [List.map_append, e1, e2], fun b => by rw [List.append_assoc, p1, p2, preT_preT]⟩
theorem Lx.sign (c : Nat) (h : isSign c = true) : Lx [c] [(3, [c])] := fun ln => ⟨ln, [⟨3, [c], ln⟩], rfl, fun b => by
  have h1 := tok_sign c b ln h
  have h2 := preT_pre [] ⟨3, [c], ln⟩ (tok b ln)
  rw [preT_nil] at h2
  rw [← h2]
  exact h1⟩
theorem Lx.blank (c : Nat) (h : isBlank c = true) : Lx [c] [] := fun ln => ⟨ln, [], rfl, fun b => by
  rw [preT_nil]
  exact tok_blank c b ln h⟩
theorem Lx.nl : Lx [10] [] := fun ln => ⟨ln + 1, [], rfl, fun b => by
  rw [preT_nil]
  exact tok_nl b ln⟩

/-- A word or a number, and what ends it. -/
theorem Lx.word (k : Nat) (x : List Nat) (h : okKt (k, x)) (hk : k ≠ 3) (c : Nat) (hc : isPart c = false) {l : List Kt} (hl : Lx [c] l) : Lx (x ++ [c]) ((k, x) :: l) := by
  intro ln
  obtain ⟨ln', ts, e, p⟩ := hl ln
  rcases h with ⟨h1, _⟩ | ⟨h1, h2, h3⟩
  · exact absurd h1 hk
  · simp only at h1 h2 h3
    refine ⟨ln', ⟨k, x, ln⟩ :: ts, by rw [List.map_cons, e]; rfl, fun b => ?_⟩
    cases x with
    | nil => exact absurd rfl h1
    | cons d r =>
      obtain ⟨q1, q2⟩ := takeWhile_sep (d :: r) c b h2 hc
      have e1 : d :: r ++ [c] ++ b = d :: (r ++ c :: b) := by simp
      have e2 : d :: (r ++ c :: b) = d :: r ++ c :: b := rfl
      rw [e1, tok_part _ _ _ (h2 d (by simp)), e2, q1, q2, h3]
      have hp := p b
      rw [List.cons_append, List.nil_append] at hp
      rw [if_pos rfl, hp, preT_pre]

theorem Lx.name (n : List Nat) (h : okName n) (c : Nat) (hc : isPart c = false) {l : List Kt} (hl : Lx [c] l) : Lx (n ++ [c]) ((1, n) :: l) := Lx.word 1 n h.1 (by decide) c hc hl

theorem word_ok (x : List Nat) (h1 : x ≠ []) (h2 : ∀ c ∈ x, isPart c = true) (h3 : wordE x = (1, 0)) : okKt (1, x) := .inr ⟨h1, h2, h3⟩
theorem plainW_ok (k : Nat) : okKt (1, plainW k) := by
  unfold plainW
  split
  · exact word_ok _ (by decide) (by decide) (by decide)
  · split
    · exact word_ok _ (by decide) (by decide) (by decide)
    · split
      · exact word_ok _ (by decide) (by decide) (by decide)
      · split <;> exact word_ok _ (by decide) (by decide) (by decide)

/-- A type, and a sign behind it. -/
theorem Lx.type (t : Ty) : okTy t → ∀ c, isSign c = true → Lx (tyX t ++ [c]) (tyK t ++ [(3, [c])]) := by
  induction t with
  | plain k =>
    intro _ c hc
    exact Lx.word 1 _ (plainW_ok k) (by decide) c (by cases h : isPart c with
      | false => rfl
      | true => have := (part_not c h).2.2.2; rw [hc] at this; cases this) (Lx.sign c hc)
  | named n =>
    intro h c hc
    exact Lx.name n h c (by cases h : isPart c with
      | false => rfl
      | true => have := (part_not c h).2.2.2; rw [hc] at this; cases this) (Lx.sign c hc)
  | list t ih =>
    intro h c hc
    have h1 := (Lx.sign 91 (by decide)).append ((ih h 93 (by decide)).append (Lx.sign c hc))
    have e1 : tyX (.list t) ++ [c] = [91] ++ (tyX t ++ [93] ++ [c]) := by simp [tyX]
    have e2 : tyK (.list t) ++ [(3, [c])] = [(3, [91])] ++ (tyK t ++ [(3, [93])] ++ [(3, [c])]) := by simp [tyK]
    rw [e1, e2]
    exact h1
  | opt t ih =>
    intro h c hc
    have h1 := (Lx.sign 63 (by decide)).append (ih h c hc)
    have e1 : tyX (.opt t) ++ [c] = [63] ++ (tyX t ++ [c]) := by simp [tyX]
    have e2 : tyK (.opt t) ++ [(3, [c])] = [(3, [63])] ++ (tyK t ++ [(3, [c])]) := by simp [tyK]
    rw [e1, e2]
    exact h1

def fldX (f : Fld) : List Nat := [9] ++ (dec f.num ++ [32]) ++ (f.name ++ [58]) ++ [32] ++ (tyX f.ty ++ [59]) ++ [10]
def casX (c : Cas) : List Nat := [9] ++ (dec c.num ++ [32]) ++ (c.name ++ [59]) ++ [10]
def mthX (m : Mth) : List Nat := [9] ++ ((if m.once then wOnce else wRead) ++ [32]) ++ (m.name ++ [40]) ++ (tyX m.arg ++ [41]) ++ [32] ++ (tyX m.res ++ [59]) ++ [10]
def bodyX (w name : List Nat) (ps : List (List Nat)) : List Nat := (w ++ [32]) ++ (name ++ [32]) ++ [123] ++ [10] ++ ps.flatten ++ [125] ++ [10]
def declX : Decl → List Nat
  | .st n l => bodyX wStruct n (l.map fldX)
  | .en n l => bodyX wEnum n (l.map casX)
  | .sv n l => bodyX wService n (l.map mthX)

theorem Lx.cast {x : List Nat} {k l : List Kt} (h : Lx x k) (e : k = l) : Lx x l := e ▸ h
theorem Lx.fld (f : Fld) (h : okFld f) : Lx (fldX f) (fldK f) :=
  ((((((Lx.blank 9 rfl).append (Lx.word 2 _ (dec_ok f.num h.1).1 (by decide) 32 rfl (Lx.blank 32 rfl))).append (Lx.name f.name h.2.1 58 rfl (Lx.sign 58 rfl))).append (Lx.blank 32 rfl)).append (Lx.type f.ty h.2.2.1 59 rfl)).append Lx.nl).cast (by simp [fldK])
theorem Lx.cas (f : Cas) (h : okCas f) : Lx (casX f) (casK f) :=
  ((((Lx.blank 9 rfl).append (Lx.word 2 _ (dec_ok f.num h.1).1 (by decide) 32 rfl (Lx.blank 32 rfl))).append (Lx.name f.name h.2 59 rfl (Lx.sign 59 rfl))).append Lx.nl).cast (by simp [casK])
theorem once_ok (b : Bool) : okKt (1, if b then wOnce else wRead) := by cases b <;> exact word_ok _ (by decide) (by decide) (by decide)
theorem Lx.mth (f : Mth) (h : okMth f) : Lx (mthX f) (mthK f) :=
  (((((((Lx.blank 9 rfl).append (Lx.word 1 _ (once_ok f.once) (by decide) 32 rfl (Lx.blank 32 rfl))).append (Lx.name f.name h.1 40 rfl (Lx.sign 40 rfl))).append (Lx.type f.arg h.2.1 41 rfl)).append (Lx.blank 32 rfl)).append (Lx.type f.res h.2.2.2.1 59 rfl)).append Lx.nl).cast (by simp [mthK])

theorem Lx.flat {α : Type} (X : α → List Nat) (K : α → List Kt) (l : List α) (h : ∀ a ∈ l, Lx (X a) (K a)) : Lx (l.map X).flatten (l.map K).flatten := by
  induction l with
  | nil => exact Lx.nil
  | cons a l ih => exact (h a (by simp)).append (ih fun b hb => h b (by simp [hb]))
theorem Lx.body (w n : List Nat) (hw : okKt (1, w)) (hn : okName n) (xs : List (List Nat)) (ks : List (List Kt)) (h : Lx xs.flatten ks.flatten) : Lx (bodyX w n xs) (bodyK w n ks) :=
  (((((((Lx.word 1 w hw (by decide) 32 rfl (Lx.blank 32 rfl)).append (Lx.name n hn 32 rfl (Lx.blank 32 rfl))).append (Lx.sign 123 rfl)).append Lx.nl).append h).append (Lx.sign 125 rfl)).append Lx.nl).cast (by simp [bodyK])
theorem Lx.decl (d : Decl) (h : okDecl d) : Lx (declX d) (declK d) := by
  cases d with
  | st n l => exact Lx.body wStruct n (word_ok _ (by decide) (by decide) (by decide)) h.1 _ _ (Lx.flat _ _ l fun a ha => Lx.fld a (h.2.2 a ha))
  | en n l => exact Lx.body wEnum n (word_ok _ (by decide) (by decide) (by decide)) h.1 _ _ (Lx.flat _ _ l fun a ha => Lx.cas a (h.2.2 a ha))
  | sv n l => exact Lx.body wService n (word_ok _ (by decide) (by decide) (by decide)) h.1 _ _ (Lx.flat _ _ l fun a ha => Lx.mth a (h.2.2 a ha))

/-- The declarations' text has their tokens. -/
theorem text_toks (ds : List Decl) (h : ∀ d ∈ ds, okDecl d) : (tok (ds.map declX).flatten 1).2.2 = 0 ∧ (tok (ds.map declX).flatten 1).1.map kt = (ds.map declK).flatten := by
  obtain ⟨ln', ts, e, p⟩ := Lx.flat _ _ ds (fun d hd => Lx.decl d (h d hd)) 1
  have := p []
  rw [List.append_nil, tok_nil] at this
  rw [this]
  exact ⟨rfl, by simp [preT]; exact e⟩
end Go.Proofs.Ythdooemgnpiomaa.Pl
