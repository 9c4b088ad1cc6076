/- The text of declarations, its tokens, and the declarations of these. -/
import Derived.Test.YthdooemgnpiomaaPK
namespace Go.Proofs.Ythdooemgnpiomaa.Pl

def plainW (k : Nat) : List Nat := if k = 1 then wBool else if k = 2 then wInt else if k = 3 then wUint else if k = 4 then wText else wBytes

/-- A type's text. -/
def tyX : Ty → List Nat
  | .plain k => plainW k
  | .list t => 91 :: tyX t ++ [93]
  | .opt t => 63 :: tyX t
  | .named n => n
def tyK : Ty → List Kt
  | .plain k => [(1, plainW k)]
  | .list t => (3, [91]) :: tyK t ++ [(3, [93])]
  | .opt t => (3, [63]) :: tyK t
  | .named n => [(1, n)]
def tyD : Ty → Nat
  | .plain _ => 1
  | .list t => tyD t + 1
  | .opt t => tyD t + 1
  | .named _ => 1

/-- A name that may be. -/
def okName (n : List Nat) : Prop := okKt (1, n) ∧ nameT (1, n) = true
def okTy : Ty → Prop
  | .plain k => 1 ≤ k ∧ k ≤ 5
  | .list t => okTy t
  | .opt t => okTy t
  | .named n => okName n

theorem name_word {n : List Nat} (h : okName n) : n ≠ [91] ∧ n ≠ [63] ∧ begT (1, n) = true ∧ isGram n = false ∧ plainK n = 0 := by
  obtain ⟨h1, h2⟩ := h
  simp only [nameT, Bool.and_eq_true, decide_eq_true_eq, Bool.not_eq_true'] at h2
  have h3 : ∀ c, isSign c = true → n ≠ [c] := by
    rintro c hc rfl
    rcases h1 with ⟨h1, _⟩ | ⟨_, h4, _⟩
    · cases h1
    · have := (part_not c (h4 c (by simp))).2.2.2
      rw [hc] at this
      cases this
  exact ⟨h3 91 (by decide), h3 63 (by decide), by simp [begT, h2.2], h2.2, h2.1.2⟩

theorem type_back (t : Ty) : ∀ d, okTy t → tyD t ≤ d → ∀ m, typeP d (tyK t ++ m) = .ok t m := by
  induction t with
  | plain k =>
    intro d hk hd m
    cases d with
    | zero => simp [tyD] at hd
    | succ d =>
      have h1 : k = 1 ∨ k = 2 ∨ k = 3 ∨ k = 4 ∨ k = 5 := by have := hk.1; have := hk.2; omega
      have hb : begT (1, plainW k) = true ∧ plainW k ≠ [91] ∧ plainW k ≠ [63] ∧ nameT (1, plainW k) = false ∧ plainK (plainW k) = k := by
        rcases h1 with rfl | rfl | rfl | rfl | rfl <;> decide
      obtain ⟨b1, b2, b3, b4, b5⟩ := hb
      simp only [tyK, List.cons_append, List.nil_append, typeP, takeP, b1, if_true, Res.bind, if_neg b2, if_neg b3, b4, b5]
      simp
  | list t ih =>
    intro d hk hd m
    cases d with
    | zero => simp [tyD] at hd
    | succ d =>
      simp only [tyD] at hd
      have e : tyK (.list t) ++ m = (3, [91]) :: (tyK t ++ ((3, [93]) :: m)) := by simp [tyK]
      rw [e]
      simp only [typeP, takeP, show begT (3, [91]) = true from by decide, if_true, Res.bind, ih d hk (by omega), show isT [93] (3, [93]) = true from by decide]
  | opt t ih =>
    intro d hk hd m
    cases d with
    | zero => simp [tyD] at hd
    | succ d =>
      simp only [tyD] at hd
      have e : tyK (.opt t) ++ m = (3, [63]) :: (tyK t ++ m) := by simp [tyK]
      rw [e]
      simp only [typeP, takeP, show begT (3, [63]) = true from by decide, if_true, Res.bind, ih d hk (by omega), show ¬ ((63 : Nat) = 91) from by decide, List.cons.injEq, false_and, if_false]
  | named n =>
    intro d hk hd m
    cases d with
    | zero => simp [tyD] at hd
    | succ d =>
      obtain ⟨n1, n2, n3, n4, n5⟩ := name_word hk
      have hnm : nameT (1, n) = true := hk.2
      simp only [tyK, List.cons_append, List.nil_append, typeP, takeP, n3, if_true, Res.bind, if_neg n1, if_neg n2, hnm]

/-- A number's digits. -/
def decS : Nat → Nat → List Nat
  | 0, _ => []
  | f + 1, n => if n < 10 then [48 + n] else decS f (n / 10) ++ [48 + n % 10]
def dec (n : Nat) : List Nat := decS 20 n

theorem valN_append (x : List Nat) (c : Nat) : valN (x ++ [c]) = valN x * 10 + (c - 48) := by
  unfold valN
  rw [List.foldl_append]
  rfl
theorem decS_val (f : Nat) : ∀ n, n < 10 ^ f → valN (decS f n) = n := by
  induction f with
  | zero => intro n h; simp at h; subst h; rfl
  | succ f ih =>
    intro n h
    unfold decS
    by_cases hn : n < 10
    · rw [if_pos hn]
      simp [valN]
    · rw [if_neg hn, valN_append, ih (n / 10) (by rw [Nat.pow_succ] at h; omega)]
      omega
theorem decS_digits (f : Nat) : ∀ n, ∀ c ∈ decS f n, isDigit c = true := by
  induction f with
  | zero => intro n c hc; cases hc
  | succ f ih =>
    intro n c hc
    unfold decS at hc
    split at hc
    · simp at hc
      subst hc
      simp [isDigit]
      omega
    · rcases List.mem_append.1 hc with hc | hc
      · exact ih _ c hc
      · simp at hc
        subst hc
        simp [isDigit]
        omega
theorem decS_len (f : Nat) : ∀ n m, n < 10 ^ m → 1 ≤ m → (decS f n).length ≤ m := by
  induction f with
  | zero => intro n m _ _; simp [decS]
  | succ f ih =>
    intro n m hn hm
    unfold decS
    split
    · simpa using hm
    · rename_i h10
      cases m with
      | zero => omega
      | succ m =>
        cases m with
        | zero => simp at hn; omega
        | succ m =>
          have := ih (n / 10) (m + 1) (by rw [Nat.pow_succ] at hn; omega) (by omega)
          rw [List.length_append]
          simp
          omega
theorem decS_head (f : Nat) : ∀ n, n < 10 ^ f → 1 ≤ n → ∃ c r, decS f n = c :: r ∧ c ≠ 48 := by
  induction f with
  | zero => intro n h h1; simp at h; omega
  | succ f ih =>
    intro n h h1
    unfold decS
    by_cases hn : n < 10
    · rw [if_pos hn]
      exact ⟨_, _, rfl, by omega⟩
    · rw [if_neg hn]
      obtain ⟨c, r, h2, h3⟩ := ih (n / 10) (by rw [Nat.pow_succ] at h; omega) (by omega)
      rw [h2]
      exact ⟨c, r ++ [48 + n % 10], rfl, h3⟩

theorem dec_ok (n : Nat) (h : n ≤ 999999999) : okKt (2, dec n) ∧ valN (dec n) = n := by
  have hv := decS_val 20 n (by omega)
  have hd := decS_digits 20 n
  have hl := decS_len 20 n 9 (by omega) (by omega)
  refine ⟨.inr ?_, hv⟩
  by_cases h0 : n = 0
  · subst h0
    decide
  · obtain ⟨c, r, h1, h2⟩ := decS_head 20 n (by omega) (by omega)
    have e : dec n = c :: r := h1
    simp only [e]
    unfold dec at e
    rw [e] at hd hl
    have hc := hd c (by simp)
    refine ⟨by simp, fun d hd' => by simp [isPart, hd d hd'], ?_⟩
    have hnl : isLetter c = false := by
      simp only [isDigit, Bool.and_eq_true, decide_eq_true_eq] at hc
      simp only [isLetter, Bool.or_eq_false_iff, Bool.and_eq_false_iff, decide_eq_false_iff_not]
      omega
    have hall : (c :: r).all isDigit = true := List.all_eq_true.2 hd
    simp only [wordE]
    rw [if_neg (by simp [hnl]), if_neg (by simp [hc]), if_neg (by rw [hall]; simp), if_neg (by
      rintro (h | h)
      · omega
      · exact h2 h.1)]

def fldK (f : Fld) : List Kt := (2, dec f.num) :: ((1, f.name) :: (3, [58]) :: tyK f.ty ++ [(3, [59])])
def casK (c : Cas) : List Kt := [(2, dec c.num), (1, c.name), (3, [59])]
def mthK (m : Mth) : List Kt := (1, if m.once then wOnce else wRead) :: ((1, m.name) :: (3, [40]) :: tyK m.arg ++ (3, [41]) :: tyK m.res ++ [(3, [59])])
def bodyK (w name : List Nat) (ps : List (List Kt)) : List Kt := (1, w) :: ((1, name) :: (3, [123]) :: ps.flatten ++ [(3, [125])])
def declK : Decl → List Kt
  | .st n l => bodyK wStruct n (l.map fldK)
  | .en n l => bodyK wEnum n (l.map casK)
  | .sv n l => bodyK wService n (l.map mthK)

def okFld (f : Fld) : Prop := f.num ≤ 999999999 ∧ okName f.name ∧ okTy f.ty ∧ tyD f.ty ≤ 8
def okCas (c : Cas) : Prop := c.num ≤ 999999999 ∧ okName c.name
def okMth (m : Mth) : Prop := okName m.name ∧ okTy m.arg ∧ tyD m.arg ≤ 8 ∧ okTy m.res ∧ tyD m.res ≤ 8
def okDecl : Decl → Prop
  | .st n l => okName n ∧ l.length ≤ 32 ∧ ∀ f ∈ l, okFld f
  | .en n l => okName n ∧ l.length ≤ 32 ∧ ∀ f ∈ l, okCas f
  | .sv n l => okName n ∧ l.length ≤ 32 ∧ ∀ f ∈ l, okMth f

theorem parts_back {α : Type} (beg : Kt → Bool) (part : Kt → List Kt → Res α) (K : α → List Kt) (l : List α)
    (h : ∀ a ∈ l, ∃ t c, K a = t :: c ∧ t.2 ≠ [125] ∧ beg t = true ∧ ∀ m, part t (c ++ m) = .ok a m) : ∀ k m, l.length ≤ k → partsP beg part k ((l.map K).flatten ++ (3, [125]) :: m) = .ok l m := by
  induction l with
  | nil => intro k m _; cases k <;> simp [partsP]
  | cons a l ih =>
    intro k m hk
    cases k with
    | zero => simp at hk
    | succ k =>
      obtain ⟨t, c, h1, h2, h3, h4⟩ := h a (by simp)
      have e : ((a :: l).map K).flatten ++ (3, [125]) :: m = t :: (c ++ ((l.map K).flatten ++ (3, [125]) :: m)) := by simp [h1]
      rw [e]
      simp only [partsP, if_neg h2, if_pos h3, h4, Res.bind]
      rw [ih (fun b hb => h b (by simp [hb])) k m (by simp at hk; omega)]

theorem body_back {α : Type} (beg : Kt → Bool) (part : Kt → List Kt → Res α) (K : α → List Kt) (n : List Nat) (l : List α) (hn : okName n) (hl : l.length ≤ 32)
    (h : ∀ a ∈ l, ∃ t c, K a = t :: c ∧ t.2 ≠ [125] ∧ beg t = true ∧ ∀ m, part t (c ++ m) = .ok a m) (m : List Kt) : bodyP beg part ((1, n) :: (3, [123]) :: ((l.map K).flatten ++ (3, [125]) :: m)) = .ok (n, l) m := by
  simp only [bodyP, takeP, hn.2, if_true, Res.bind, show isT [123] (3, [123]) = true from by decide]
  rw [parts_back beg part K l h 32 m hl]

theorem dec_brace' (n : Nat) : dec n ≠ [125] := by
  intro he
  have := decS_digits 20 n 125 (by unfold dec at he; rw [he]; simp)
  simp [isDigit] at this

theorem field_back (f : Fld) (h : okFld f) : ∃ t c, fldK f = t :: c ∧ t.2 ≠ [125] ∧ numT t = true ∧ ∀ m, fieldP t (c ++ m) = .ok f m := by
  obtain ⟨h1, h2, h3, h4⟩ := h
  refine ⟨_, _, rfl, dec_brace' _, rfl, fun m => ?_⟩
  have e : (1, f.name) :: (3, [58]) :: tyK f.ty ++ [(3, [59])] ++ m = (1, f.name) :: (3, [58]) :: (tyK f.ty ++ (3, [59]) :: m) := by simp
  rw [e]
  simp only [fieldP, takeP, h2.2, if_true, Res.bind, show isT [58] (3, [58]) = true from by decide, type_back f.ty 8 h3 h4, show isT [59] (3, [59]) = true from by decide, (dec_ok f.num h1).2]
theorem case_back (f : Cas) (h : okCas f) : ∃ t c, casK f = t :: c ∧ t.2 ≠ [125] ∧ numT t = true ∧ ∀ m, caseP t (c ++ m) = .ok f m := by
  obtain ⟨h1, h2⟩ := h
  refine ⟨_, _, rfl, dec_brace' _, rfl, fun m => ?_⟩
  simp only [List.cons_append, List.nil_append, caseP, takeP, h2.2, if_true, Res.bind, show isT [59] (3, [59]) = true from by decide, (dec_ok f.num h1).2]
theorem method_back (f : Mth) (h : okMth f) : ∃ t c, mthK f = t :: c ∧ t.2 ≠ [125] ∧ onrT t = true ∧ ∀ m, methodP t (c ++ m) = .ok f m := by
  obtain ⟨h1, h2, h3, h4, h5⟩ := h
  refine ⟨_, _, rfl, by cases f.once <;> decide, by cases f.once <;> decide, fun m => ?_⟩
  have e : (1, f.name) :: (3, [40]) :: tyK f.arg ++ (3, [41]) :: tyK f.res ++ [(3, [59])] ++ m = (1, f.name) :: (3, [40]) :: (tyK f.arg ++ (3, [41]) :: (tyK f.res ++ (3, [59]) :: m)) := by simp
  rw [e]
  have ho : decide ((if f.once = true then wOnce else wRead) = wOnce) = f.once := by cases f.once <;> decide
  simp only [methodP, takeP, h1.2, if_true, Res.bind, show isT [40] (3, [40]) = true from by decide, type_back f.arg 8 h2 h3, show isT [41] (3, [41]) = true from by decide, type_back f.res 8 h4 h5, show isT [59] (3, [59]) = true from by decide, ho]

theorem decl_back (d : Decl) (h : okDecl d) : ∃ t c, declK d = t :: c ∧ decT t = true ∧ ∀ m, declP t (c ++ m) = .ok d m := by
  cases d with
  | st n l =>
    refine ⟨_, _, rfl, by decide, fun m => ?_⟩
    have e : (1, n) :: (3, [123]) :: (l.map fldK).flatten ++ [(3, [125])] ++ m = (1, n) :: (3, [123]) :: ((l.map fldK).flatten ++ (3, [125]) :: m) := by simp
    rw [e]
    simp only [declP, if_true]
    rw [body_back numT fieldP fldK n l h.1 h.2.1 (fun a ha => field_back a (h.2.2 a ha)) m]
    rfl
  | en n l =>
    refine ⟨_, _, rfl, by decide, fun m => ?_⟩
    have e : (1, n) :: (3, [123]) :: (l.map casK).flatten ++ [(3, [125])] ++ m = (1, n) :: (3, [123]) :: ((l.map casK).flatten ++ (3, [125]) :: m) := by simp
    rw [e]
    simp only [declP, if_true, if_neg (show ¬ wEnum = wStruct from by decide)]
    rw [body_back numT caseP casK n l h.1 h.2.1 (fun a ha => case_back a (h.2.2 a ha)) m]
    rfl
  | sv n l =>
    refine ⟨_, _, rfl, by decide, fun m => ?_⟩
    have e : (1, n) :: (3, [123]) :: (l.map mthK).flatten ++ [(3, [125])] ++ m = (1, n) :: (3, [123]) :: ((l.map mthK).flatten ++ (3, [125]) :: m) := by simp
    rw [e]
    simp only [declP, if_neg (show ¬ wService = wStruct from by decide), if_neg (show ¬ wService = wEnum from by decide)]
    rw [body_back onrT methodP mthK n l h.1 h.2.1 (fun a ha => method_back a (h.2.2 a ha)) m]
    rfl

theorem decls_back (ds : List Decl) : ∀ k, ds.length ≤ k → (∀ d ∈ ds, okDecl d) → declsP k (ds.map declK).flatten = .ok ds [] := by
  induction ds with
  | nil => intro k _ _; cases k <;> rfl
  | cons d ds ih =>
    intro k hk h
    cases k with
    | zero => simp at hk
    | succ k =>
      obtain ⟨t, c, h1, h2, h3⟩ := decl_back d (h d (by simp))
      have e : ((d :: ds).map declK).flatten = t :: (c ++ (ds.map declK).flatten) := by simp [h1]
      rw [e]
      simp only [declsP, if_pos h2, h3, Res.bind]
      rw [ih k (by simp at hk; omega) (fun x hx => h x (by simp [hx]))]
end Go.Proofs.Ythdooemgnpiomaa.Pl
