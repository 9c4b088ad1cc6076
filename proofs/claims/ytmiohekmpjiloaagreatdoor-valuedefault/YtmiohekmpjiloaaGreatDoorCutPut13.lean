/- A region that draws its order, whose operations leave known values: what stands behind it begins with these values in their slots, whatever order was drawn. parse: sees, next, take. parse: next, take. parse: take, takeOneMore, takeName. Tokens that may be: of a text, and alone. The text of declarations, its tokens, and the declarations of these. parse: takeName, count. parse: takeType. parse: takeCase, takeField, takeMethod. A region that draws its order, by what each of its operations leaves: stores too. -/
import Derived.Test.YtmiohekmpjiloaaGreatDoorCutPut12
import Derived.Shelf.Abstract
import Derived.WalkKit
import Derived.Test.YtmiohekmpjiloaaGreatDoorCutPut11
import Derived.Test.YtmiohekmpjiloaaGreatDoorCutPut09
namespace Go.Proofs.YtmiohekmpjiloaaGreatDoor
open Go.RowKit
set_option maxRecDepth 20000

/-- Each operation's value in its slot. -/
def putL (val : Nat → Value) : List Oper → Nat → Act → Act
  | [], _, a => a
  | o :: r, i, a => putL val r (i + 1) (a.put o.dst (val i))

section
variable {P : Program} {ops : Array Oper} {Q : Exit → Act → World → Prop}

end
section
variable {ops : Array Oper} {Q : Exit → Act → World → Prop} {i : Nat} {o : Oper} {a : Act} {w w' : World} {v : Value} {K : Act → World → Prop}
theorem wanted_plain (hg : o.guard = none) : Region.wanted o (yielded ops a.tmps) = true := by simp [Region.wanted, hg]
theorem slot_some {d : Nat} {b : Bool} (h3 : a.tmps.getD d undef = .bool b) : a.tmps[d]? = some (.bool b) := by
  rw [Array.getD_eq_getD_getElem?] at h3
  cases h : a.tmps[d]? with
  | none => rw [h] at h3; simp [undef] at h3
  | some x => rw [h] at h3; simp at h3; rw [h3]
theorem wanted_on (b : Bool) (g d : Nat) (og : Oper) (hg : o.guard = some (g, b)) (h1 : ops[g]? = some og) (h2 : og.dst = some d) (h3 : a.tmps.getD d undef = .bool b) : Region.wanted o (yielded ops a.tmps) = true := by
  cases b <;> simp [Region.wanted, hg, yielded, h1, h2, slot_some h3]
theorem unwanted (b : Bool) (g d : Nat) (og : Oper) (hg : o.guard = some (g, b)) (h1 : ops[g]? = some og) (h2 : og.dst = some d) (h3 : a.tmps.getD d undef = .bool (!b)) : Region.wanted o (yielded ops a.tmps) = false := by
  cases b <;> simp [Region.wanted, hg, yielded, h1, h2, slot_some h3]
theorem gOp_ok {P : Program} (ho : ops[i]? = some o) (hw : Region.wanted o (yielded ops a.tmps) = true) (hrun : (execOp a.eval o).run P w = .ok (.value v) w') (h : K (a.put o.dst v) w') : wpOp P ops Q i K a w := by
  unfold wpOp
  simp only [ho, hw, if_true]
  refine .inl ?_
  unfold Oper.wp
  rw [hrun]
  exact h
theorem gOp_skip {P : Program} (ho : ops[i]? = some o) (hw : Region.wanted o (yielded ops a.tmps) = false) (h : K (a.put o.dst undef) w) : wpOp P ops Q i K a w := by
  unfold wpOp
  simp only [ho, hw, Bool.false_eq_true, if_false]
  exact h
theorem gOp_enter {P : Program} (ho : ops[i]? = some o) (hw : Region.wanted o (yielded ops a.tmps) = true) (f : Nat) (args : Array Value) (hrun : (execOp a.eval o).run P w = .ok (.enter f args) w)
    (h : Calls P f args w fun e w' => ∃ u, e = .returned u ∧ K (a.put o.dst u) w') : wpOp P ops Q i K a w := by
  unfold wpOp
  simp only [ho, hw, if_true]
  refine .inl ?_
  unfold Oper.wp
  rw [hrun]
  refine h.mono ?_
  rintro e w' ⟨u, rfl, hk⟩
  exact hk
theorem run_call {P : Program} (f : Nat) (eg : ∀ args w, (callFunc f args).run P w = .ok (.enter f args) w) (args : Array Operand) (ts : Array TypeId) (hop : o.op = .call { callee := .value (.func f), args := args, argTypes := ts }) (vs : Array Value) (hs : args.map a.eval = vs) : (execOp a.eval o).run P w = .ok (.enter f vs) w := by
  subst hs
  simp [execOp, hop, resolve, invoke, show a.eval (.func f) = .func (.func f) #[] #[] from rfl, Deferred.ofValue, eg]
theorem gOp_mv {P : Program} {x : Operand} (ho : ops[i]? = some o) (hw : Region.wanted o (yielded ops a.tmps) = true) (hop : o.op = .move x ∨ o.op = .assign x) (hs : a.eval x = v) (h : K (a.put o.dst v) w) : wpOp P ops Q i K a w := by
  refine gOp_ok ho hw ?_ h
  subst hs
  rcases hop with hop | hop <;> simp [execOp, hop]
theorem gOp_nil {P : Program} {x : Operand} {ad : Addr} (ho : ops[i]? = some o) (hw : Region.wanted o (yielded ops a.tmps) = true) (hop : o.op = .nilCheck x) (hs : a.eval x = .pointer (some ad)) (h : K (a.put o.dst (.pointer (some ad))) w) : wpOp P ops Q i K a w := by
  refine gOp_ok ho hw ?_ h
  simp [execOp, hop, hs]
theorem gOp_fld {P : Program} {T : TypeId} {x : Operand} {f : Nat} {u : Value} (ho : ops[i]? = some o) (hw : Region.wanted o (yielded ops a.tmps) = true) (hop : o.op = .fieldAddr T x f) (hs : a.eval x = u) (hr : (Instr.fieldAt T u f).run P w = .ok v w) (h : K (a.put o.dst v) w) : wpOp P ops Q i K a w := by
  refine gOp_ok ho hw ?_ h
  simp [execOp, hop, hs, hr]
theorem gOp_part {P : Program} {T : TypeId} {x : Operand} {f : Nat} {u : Value} (ho : ops[i]? = some o) (hw : Region.wanted o (yielded ops a.tmps) = true) (hop : o.op = .field T x f) (hs : a.eval x = u) (hr : (Instr.field T u f).run P w = .ok v w) (h : K (a.put o.dst v) w) : wpOp P ops Q i K a w := by
  refine gOp_ok ho hw ?_ h
  simp [execOp, hop, hs, hr]
theorem gOp_ld {P : Program} {T : TypeId} {x : Operand} {u : Value} (ho : ops[i]? = some o) (hw : Region.wanted o (yielded ops a.tmps) = true) (hop : o.op = .load T x) (hs : a.eval x = u) (hr : (Instr.loadAt T u).run P w = .ok v w) (h : K (a.put o.dst v) w) : wpOp P ops Q i K a w := by
  refine gOp_ok ho hw ?_ h
  simp [execOp, hop, hs, hr]
theorem gOp_ix {P : Program} {T : TypeId} {x y : Operand} {u z : Value} (ho : ops[i]? = some o) (hw : Region.wanted o (yielded ops a.tmps) = true) (hop : o.op = .indexAddr T x y) (hs : a.eval x = u) (ht : a.eval y = z) (hr : (Instr.indexAt T u z).run P w = .ok v w) (h : K (a.put o.dst v) w) : wpOp P ops Q i K a w := by
  refine gOp_ok ho hw ?_ h
  simp [execOp, hop, hs, ht, hr]
theorem gOp_pk {P : Program} {c x y : Operand} {b : Bool} (ho : ops[i]? = some o) (hw : Region.wanted o (yielded ops a.tmps) = true) (hop : o.op = .pick c x y) (hc : a.eval c = .bool b) (hs : (if b then a.eval x else a.eval y) = v) (h : K (a.put o.dst v) w) : wpOp P ops Q i K a w := by
  refine gOp_ok ho hw ?_ h
  subst hs
  cases b <;> simp only [execOp, hop, hc] <;> rfl
end
end Go.Proofs.YtmiohekmpjiloaaGreatDoor

namespace Go.Proofs.YtmiohekmpjiloaaGreatDoor
open Go.RowKit
set_option maxRecDepth 20000

end Go.Proofs.YtmiohekmpjiloaaGreatDoor

namespace Go.Proofs.YtmiohekmpjiloaaGreatDoor
open Go.RowKit
set_option maxRecDepth 20000

end Go.Proofs.YtmiohekmpjiloaaGreatDoor

namespace Go.Proofs.YtmiohekmpjiloaaGreatDoor
open Go.RowKit
set_option maxRecDepth 20000

theorem Ch.new {X : Nat → TypeId → Prop} {w w' : World} (h : Ch X w w') {b k : Nat} (hb : w.heap.size ≤ b) (u : Value) : Ch X w (w'.setCell ⟨b, k, none⟩ u) :=
  ⟨h.os, h.tape, h.output, by simp [h.size], fun g o ho hn => (heap_setCell_other w' ⟨b, k, none⟩ g u (by have := lt_of_some ho; simp; omega)).trans (h.block g o ho hn)⟩
theorem Ch.al {X : Nat → TypeId → Prop} {w w' : World} (h : Ch X w w') (o : Obj) : Ch X w (w'.alloc o) := h.trans (Ch.alloc w' o)
theorem Ch.bel {X : Nat → TypeId → Prop} {w w' w'' : World} (h : Ch X w w') (hb : Below w'.heap.size w' w'') : Ch X w w'' := h.trans (Ch.below hb)
end Go.Proofs.YtmiohekmpjiloaaGreatDoor

namespace Go.Proofs.YtmiohekmpjiloaaGreatDoor.Pl

theorem takeWhile_all (p : Nat → Bool) (l : List Nat) (h : ∀ c ∈ l, p c = true) : l.takeWhile p = l ∧ l.dropWhile p = [] := by
  induction l with
  | nil => exact ⟨rfl, rfl⟩
  | cons c l ih =>
    have h1 := ih (fun d hd => h d (by simp [hd]))
    rw [List.takeWhile_cons, if_pos (h c (by simp)), List.dropWhile_cons, if_pos (h c (by simp)), h1.1, h1.2]
    exact ⟨rfl, rfl⟩
theorem all_of_length (p : Nat → Bool) (l : List Nat) (h : (l.takeWhile p).length = l.length) : l.takeWhile p = l ∧ ∀ c ∈ l, p c = true := by
  induction l with
  | nil => exact ⟨rfl, fun c hc => by cases hc⟩
  | cons c l ih =>
    rw [List.takeWhile_cons] at h ⊢
    by_cases hp : p c = true
    · rw [if_pos hp] at h ⊢
      simp only [List.length_cons, Nat.add_right_cancel_iff] at h
      obtain ⟨h1, h2⟩ := ih h
      rw [h1]
      refine ⟨rfl, fun d hd => ?_⟩
      rcases List.mem_cons.1 hd with rfl | hd
      · exact hp
      · exact h2 d hd
    · rw [if_neg hp] at h
      simp at h

theorem sign_kind (c : Nat) (h : isSign c = true) : isLetter c = false ∧ isDigit c = false := by
  simp only [isSign, List.contains_eq_mem, List.mem_cons, List.not_mem_nil, or_false, decide_eq_true_eq] at h
  refine ⟨?_, ?_⟩
  · simp only [isLetter, Bool.or_eq_false_iff, Bool.and_eq_false_iff, decide_eq_false_iff_not]
    omega
  · simp only [isDigit, Bool.and_eq_false_iff, decide_eq_false_iff_not]
    omega

theorem ok_next (t : Tok) (h : okTok t) : nextP t.text = (t.kind, t.text.length, 0) := by
  obtain ⟨k, x, ln⟩ := t
  rcases h with ⟨h1, c, h2, h3⟩ | ⟨h1, h2, h3⟩
  · simp only at h1 h2
    subst h1 h2
    obtain ⟨q1, q2⟩ := sign_kind c h3
    simp [nextP, q1, q2, h3]
  · simp only at h1 h2 h3
    cases x with
    | nil => exact absurd rfl h1
    | cons c r =>
      obtain ⟨p1, p2⟩ := takeWhile_all isPart (c :: r) h2
      simp only [wordE] at h3
      simp only [nextP]
      by_cases hl : isLetter c = true
      · rw [if_pos hl] at h3 ⊢
        rw [p1]
        by_cases h32 : 32 < (c :: r).length
        · rw [if_pos h32] at h3
          simp at h3
        · rw [if_neg h32] at h3 ⊢
          simp only [Prod.mk.injEq] at h3
          rw [h3.1]
      · rw [if_neg hl] at h3 ⊢
        by_cases hd : isDigit c = true
        · rw [if_neg (by simp [hd])] at h3
          rw [if_pos hd]
          by_cases ha : (c :: r).all isDigit = true
          · rw [if_neg (by simp [ha])] at h3
            obtain ⟨d1, d2⟩ := takeWhile_all isDigit (c :: r) (by simpa using ha)
            rw [d1, d2]
            by_cases h9 : 9 < (c :: r).length ∨ (c = 48 ∧ 1 < (c :: r).length)
            · rw [if_pos h9] at h3
              simp at h3
            · rw [if_neg h9] at h3
              simp only [Prod.mk.injEq] at h3
              rw [if_neg (by
                rintro (h | h | h)
                · exact h9 (.inl h)
                · exact h9 (.inr ⟨h.2, h.1⟩)
                · simp [seesB] at h), h3.1]
          · rw [if_pos (by cases hq : (c :: r).all isDigit; rfl; exact absurd hq ha)] at h3
            simp at h3
        · rw [if_pos (by simpa using hd)] at h3
          simp at h3

theorem next_ok (x : List Nat) (k ln : Nat) (h : nextP x = (k, x.length, 0)) : okTok ⟨k, x, ln⟩ := by
  cases x with
  | nil => simp [nextP] at h
  | cons c r =>
    simp only [nextP] at h
    by_cases hl : isLetter c = true
    · rw [if_pos hl] at h
      by_cases h32 : 32 < ((c :: r).takeWhile isPart).length
      · rw [if_pos h32] at h
        simp at h
      · rw [if_neg h32] at h
        simp only [Prod.mk.injEq] at h
        obtain ⟨rfl, h2, _⟩ := h
        obtain ⟨p1, p2⟩ := all_of_length isPart (c :: r) h2
        refine .inr ⟨by simp, p2, ?_⟩
        rw [p1] at h32
        simp only [wordE]
        rw [if_pos hl, if_neg h32]
    · rw [if_neg hl] at h
      by_cases hd : isDigit c = true
      · rw [if_pos hd] at h
        by_cases hb : 9 < ((c :: r).takeWhile isDigit).length ∨ (1 < ((c :: r).takeWhile isDigit).length ∧ c = 48) ∨ seesB isJoin ((c :: r).dropWhile isDigit) = true
        · rw [if_pos hb] at h
          simp at h
        · rw [if_neg hb] at h
          simp only [Prod.mk.injEq] at h
          obtain ⟨rfl, h2, _⟩ := h
          obtain ⟨p1, p2⟩ := all_of_length isDigit (c :: r) h2
          refine .inr ⟨by simp, fun d hd' => ?_, ?_⟩
          · rw [part_split, p2 d hd']
            rfl
          · rw [p1] at hb
            have ha : (c :: r).all isDigit = true := List.all_eq_true.2 p2
            simp only [wordE]
            rw [if_neg hl, if_neg (by simp [hd]), if_neg (by rw [ha]; simp), if_neg (by
              rintro (h | h)
              · exact hb (.inl h)
              · exact hb (.inr (.inl ⟨h.2, h.1⟩)))]
      · rw [if_neg hd] at h
        by_cases hs : isSign c = true
        · rw [if_pos hs] at h
          simp only [Prod.mk.injEq, List.length_cons] at h
          obtain ⟨rfl, h2, _⟩ := h
          have : r = [] := List.length_eq_zero_iff.1 (by omega)
          subst this
          exact .inl ⟨rfl, c, rfl, hs⟩
        · rw [if_neg hs] at h
          simp at h

theorem ok_kind (t : Tok) (h : okTok t) : 1 ≤ t.kind ∧ t.kind ≤ 3 ∧ 1 ≤ t.text.length ∧ t.text.length ≤ 32 := by
  have hn := ok_next t h
  obtain ⟨k, x, ln⟩ := t
  simp only at hn ⊢
  cases x with
  | nil => simp [nextP] at hn
  | cons c r =>
    refine ⟨?_, ?_, by simp, ?_⟩
    all_goals
      simp only [nextP] at hn
      split at hn
      · split at hn
        · simp at hn
        · simp only [Prod.mk.injEq] at hn
          omega
      · split at hn
        · split at hn
          · simp at hn
          · rename_i hb
            simp only [Prod.mk.injEq] at hn
            have : ¬ 9 < ((c :: r).takeWhile isDigit).length := fun h => hb (.inl h)
            omega
        · split at hn
          · simp only [Prod.mk.injEq] at hn
            omega
          · simp at hn

theorem mem_cons {t u : Tok} {x : List Tok × Nat × Int} (h : u ∈ (tokCons t x).1) : u = t ∨ u ∈ x.1 := by
  unfold tokCons at h
  split at h
  · simpa using h
  · cases h

theorem part_take (c : Nat) (r : List Nat) (h : isPart c = true) : (c :: r).takeWhile isPart ≠ [] ∧ ∀ d ∈ (c :: r).takeWhile isPart, isPart d = true := by
  refine ⟨?_, ?_⟩
  · rw [List.takeWhile_cons, if_pos h]
    simp
  · generalize c :: r = l
    induction l with
    | nil => intro d hd; cases hd
    | cons e l ih =>
      intro d hd
      rw [List.takeWhile_cons] at hd
      split at hd
      · rcases List.mem_cons.1 hd with rfl | hd
        · assumption
        · exact ih d hd
      · cases hd

/-- The tokens of a text may be. -/
theorem tok_ok (f : Nat) : ∀ (l : List Nat) (ln : Nat), ∀ t ∈ (tokS f l ln).1, okTok t := by
  induction f with
  | zero => intro l ln t ht; cases ht
  | succ f ih =>
    intro l ln t ht
    cases l with
    | nil => cases ht
    | cons c r =>
      simp only [tokS] at ht
      split at ht
      · exact ih _ _ t ht
      · split at ht
        · exact ih _ _ t ht
        · split at ht
          · exact ih _ _ t ht
          · split at ht
            · rename_i hs
              rcases mem_cons ht with rfl | ht
              · exact .inl ⟨rfl, c, rfl, hs⟩
              · exact ih _ _ t ht
            · split at ht
              · rename_i hp
                split at ht
                · rename_i hw
                  rcases mem_cons ht with rfl | ht
                  · obtain ⟨q1, q2⟩ := part_take c r hp
                    exact .inr ⟨q1, q2, by ext <;> simp [hw]⟩
                  · exact ih _ _ t ht
                · cases ht
              · cases ht

end Go.Proofs.YtmiohekmpjiloaaGreatDoor.Pl

namespace Go.Proofs.YtmiohekmpjiloaaGreatDoor.Pl

def plainW (k : Nat) : List Nat := if k = 1 then wBool else if k = 2 then wInt else if k = 3 then wUint else if k = 4 then wText else wBytes

/-- A type's text. -/
def tyX : Ty → List Nat
  | .plain k => plainW k
  | .list t => 91 :: tyX t ++ [93]
  | .opt t => 63 :: tyX t
  | .named n => n
def tyK : Ty → List Kt
  | .plain k => [(1, plainW k)]
  | .list t => (3, [91]) :: tyK t ++ [(3, [93])]
  | .opt t => (3, [63]) :: tyK t
  | .named n => [(1, n)]
def tyD : Ty → Nat
  | .plain _ => 1
  | .list t => tyD t + 1
  | .opt t => tyD t + 1
  | .named _ => 1

/-- A name that may be. -/
def okName (n : List Nat) : Prop := okKt (1, n) ∧ nameT (1, n) = true
def okTy : Ty → Prop
  | .plain k => 1 ≤ k ∧ k ≤ 5
  | .list t => okTy t
  | .opt t => okTy t
  | .named n => okName n

/-- A number's digits. -/
def decS : Nat → Nat → List Nat
  | 0, _ => []
  | f + 1, n => if n < 10 then [48 + n] else decS f (n / 10) ++ [48 + n % 10]
def dec (n : Nat) : List Nat := decS 20 n

theorem valN_append (x : List Nat) (c : Nat) : valN (x ++ [c]) = valN x * 10 + (c - 48) := by
  unfold valN
  rw [List.foldl_append]
  rfl
theorem decS_val (f : Nat) : ∀ n, n < 10 ^ f → valN (decS f n) = n := by
  induction f with
  | zero => intro n h; simp at h; subst h; rfl
  | succ f ih =>
    intro n h
    unfold decS
    by_cases hn : n < 10
    · rw [if_pos hn]
      simp [valN]
    · rw [if_neg hn, valN_append, ih (n / 10) (by rw [Nat.pow_succ] at h; omega)]
      omega
theorem decS_digits (f : Nat) : ∀ n, ∀ c ∈ decS f n, isDigit c = true := by
  induction f with
  | zero => intro n c hc; cases hc
  | succ f ih =>
    intro n c hc
    unfold decS at hc
    split at hc
    · simp at hc
      subst hc
      simp [isDigit]
      omega
    · rcases List.mem_append.1 hc with hc | hc
      · exact ih _ c hc
      · simp at hc
        subst hc
        simp [isDigit]
        omega
theorem decS_len (f : Nat) : ∀ n m, n < 10 ^ m → 1 ≤ m → (decS f n).length ≤ m := by
  induction f with
  | zero => intro n m _ _; simp [decS]
  | succ f ih =>
    intro n m hn hm
    unfold decS
    split
    · simpa using hm
    · rename_i h10
      cases m with
      | zero => omega
      | succ m =>
        cases m with
        | zero => simp at hn; omega
        | succ m =>
          have := ih (n / 10) (m + 1) (by rw [Nat.pow_succ] at hn; omega) (by omega)
          rw [List.length_append]
          simp
          omega
theorem decS_head (f : Nat) : ∀ n, n < 10 ^ f → 1 ≤ n → ∃ c r, decS f n = c :: r ∧ c ≠ 48 := by
  induction f with
  | zero => intro n h h1; simp at h; omega
  | succ f ih =>
    intro n h h1
    unfold decS
    by_cases hn : n < 10
    · rw [if_pos hn]
      exact ⟨_, _, rfl, by omega⟩
    · rw [if_neg hn]
      obtain ⟨c, r, h2, h3⟩ := ih (n / 10) (by rw [Nat.pow_succ] at h; omega) (by omega)
      rw [h2]
      exact ⟨c, r ++ [48 + n % 10], rfl, h3⟩

theorem dec_ok (n : Nat) (h : n ≤ 999999999) : okKt (2, dec n) ∧ valN (dec n) = n := by
  have hv := decS_val 20 n (by omega)
  have hd := decS_digits 20 n
  have hl := decS_len 20 n 9 (by omega) (by omega)
  refine ⟨.inr ?_, hv⟩
  by_cases h0 : n = 0
  · subst h0
    decide
  · obtain ⟨c, r, h1, h2⟩ := decS_head 20 n (by omega) (by omega)
    have e : dec n = c :: r := h1
    simp only [e]
    unfold dec at e
    rw [e] at hd hl
    have hc := hd c (by simp)
    refine ⟨by simp, fun d hd' => by simp [isPart, hd d hd'], ?_⟩
    have hnl : isLetter c = false := by
      simp only [isDigit, Bool.and_eq_true, decide_eq_true_eq] at hc
      simp only [isLetter, Bool.or_eq_false_iff, Bool.and_eq_false_iff, decide_eq_false_iff_not]
      omega
    have hall : (c :: r).all isDigit = true := List.all_eq_true.2 hd
    simp only [wordE]
    rw [if_neg (by simp [hnl]), if_neg (by simp [hc]), if_neg (by rw [hall]; simp), if_neg (by
      rintro (h | h)
      · omega
      · exact h2 h.1)]

def fldK (f : Fld) : List Kt := (2, dec f.num) :: ((1, f.name) :: (3, [58]) :: tyK f.ty ++ [(3, [59])])
def casK (c : Cas) : List Kt := [(2, dec c.num), (1, c.name), (3, [59])]
def mthK (m : Mth) : List Kt := (1, if m.once then wOnce else wRead) :: ((1, m.name) :: (3, [40]) :: tyK m.arg ++ (3, [41]) :: tyK m.res ++ [(3, [59])])
def bodyK (w name : List Nat) (ps : List (List Kt)) : List Kt := (1, w) :: ((1, name) :: (3, [123]) :: ps.flatten ++ [(3, [125])])
def declK : Decl → List Kt
  | .st n l => bodyK wStruct n (l.map fldK)
  | .en n l => bodyK wEnum n (l.map casK)
  | .sv n l => bodyK wService n (l.map mthK)

def okFld (f : Fld) : Prop := f.num ≤ 999999999 ∧ okName f.name ∧ okTy f.ty ∧ tyD f.ty ≤ 8
def okCas (c : Cas) : Prop := c.num ≤ 999999999 ∧ okName c.name
def okMth (m : Mth) : Prop := okName m.name ∧ okTy m.arg ∧ tyD m.arg ≤ 8 ∧ okTy m.res ∧ tyD m.res ≤ 8
def okDecl : Decl → Prop
  | .st n l => okName n ∧ l.length ≤ 32 ∧ ∀ f ∈ l, okFld f
  | .en n l => okName n ∧ l.length ≤ 32 ∧ ∀ f ∈ l, okCas f
  | .sv n l => okName n ∧ l.length ≤ 32 ∧ ∀ f ∈ l, okMth f

theorem dec_brace' (n : Nat) : dec n ≠ [125] := by
  intro he
  have := decS_digits 20 n 125 (by unfold dec at he; rw [he]; simp)
  simp [isDigit] at this

end Go.Proofs.YtmiohekmpjiloaaGreatDoor.Pl

namespace Go.Proofs.YtmiohekmpjiloaaGreatDoor
open Go.RowKit
set_option maxRecDepth 20000

end Go.Proofs.YtmiohekmpjiloaaGreatDoor

namespace Go.Proofs.YtmiohekmpjiloaaGreatDoor
open Go.RowKit
set_option maxRecDepth 20000

/-- A type's three cells: kind, name, what it is of; its blocks are from B on. -/
def TyC (B : Nat) : Pl.Ty → World → Value → Value → Value → Prop
  | .plain k, _, a, b, c => a = .int .i64 (k : Int) ∧ b = .string ⟨#[]⟩ ∧ c = .slice none 0 0
  | .named x, _, a, b, c => a = .int .i64 8 ∧ (∃ s, b = .string s ∧ bl s = x) ∧ c = .slice none 0 0
  | .list t, w, a, b, c => a = .int .i64 6 ∧ b = .string ⟨#[]⟩ ∧ ∃ g x y z, c = .slice (some ⟨g, 0, none⟩) 1 1 ∧ B ≤ g ∧ Bx w g [x, y, z] 29 ∧ TyC B t w x y z
  | .opt t, w, a, b, c => a = .int .i64 7 ∧ b = .string ⟨#[]⟩ ∧ ∃ g x y z, c = .slice (some ⟨g, 0, none⟩) 1 1 ∧ B ≤ g ∧ Bx w g [x, y, z] 29 ∧ TyC B t w x y z
theorem ok_bind {α β : Type} (a : α) (r : List Pl.Kt) (f : α → List Pl.Kt → Pl.Res β) : (Pl.Res.ok a r).bind f = f a r := rfl

theorem TyC.ch {B : Nat} {X : Nat → TypeId → Prop} {w w' : World} (hc : Ch X w w') (hX : ∀ g, B ≤ g → ¬ X g 29) : ∀ (t : Pl.Ty) (a b c : Value), TyC B t w a b c → TyC B t w' a b c := by
  intro t
  induction t with
  | plain k => intro a b c h; exact h
  | named x => intro a b c h; exact h
  | list t ih =>
    rintro a b c ⟨h1, h2, g, x, y, z, h3, hB, h4, h5⟩
    exact ⟨h1, h2, g, x, y, z, h3, hB, h4.ch hc (hX g hB), ih _ _ _ h5⟩
  | opt t ih =>
    rintro a b c ⟨h1, h2, g, x, y, z, h3, hB, h4, h5⟩
    exact ⟨h1, h2, g, x, y, z, h3, hB, h4.ch hc (hX g hB), ih _ _ _ h5⟩
theorem TyC.mono {B B' : Nat} (hBB : B' ≤ B) {w : World} : ∀ (t : Pl.Ty) (a b c : Value), TyC B t w a b c → TyC B' t w a b c := by
  intro t
  induction t with
  | plain k => intro a b c h; exact h
  | named x => intro a b c h; exact h
  | list t ih =>
    rintro a b c ⟨h1, h2, g, x, y, z, h3, hB, h4, h5⟩
    exact ⟨h1, h2, g, x, y, z, h3, Nat.le_trans hBB hB, h4, ih _ _ _ h5⟩
  | opt t ih =>
    rintro a b c ⟨h1, h2, g, x, y, z, h3, hB, h4, h5⟩
    exact ⟨h1, h2, g, x, y, z, h3, Nat.le_trans hBB hB, h4, ih _ _ _ h5⟩
theorem TyC.shape {B : Nat} {w : World} (t : Pl.Ty) {a b c : Value} (h : TyC B t w a b c) : ∃ k s ad m cp, a = .int .i64 k ∧ b = .string s ∧ c = .slice ad m cp := by
  cases t with
  | plain k => obtain ⟨rfl, rfl, rfl⟩ := h; exact ⟨_, _, _, _, _, rfl, rfl, rfl⟩
  | named x => obtain ⟨rfl, ⟨s, rfl, _⟩, rfl⟩ := h; exact ⟨_, _, _, _, _, rfl, rfl, rfl⟩
  | list t => obtain ⟨rfl, rfl, g, x, y, z, rfl, _⟩ := h; exact ⟨_, _, _, _, _, rfl, rfl, rfl⟩
  | opt t => obtain ⟨rfl, rfl, g, x, y, z, rfl, _⟩ := h; exact ⟨_, _, _, _, _, rfl, rfl, rfl⟩
theorem TyC.set {B : Nat} {w : World} {t : Pl.Ty} {x y z : Value} (h : TyC B t w x y z) {b k : Nat} (hb : b < B) (u : Value) : TyC B t (w.setCell ⟨b, k, none⟩ u) x y z := by
  have hc : Ch (fun g _ => g = b) w (w.setCell ⟨b, k, none⟩ u) := by
    refine ⟨rfl, rfl, rfl, by simp, fun g o ho hn => ?_⟩
    by_cases hg : g = b
    · cases o with
      | cells cs T r => exact absurd hg (hn cs T r rfl)
      | _ =>
        subst hg
        simp only [World.setCell, Array.getElem?_modify, if_true, ho]
        rfl
    · exact (heap_setCell_other w ⟨b, k, none⟩ g u hg).trans ho
  exact TyC.ch hc (fun g hg he => by omega) _ _ _ _ h
theorem Bx.newAt {w : World} {g : Nat} (hg : g = w.heap.size) (cs : List Value) (T : TypeId) : Bx (w.alloc (.cells ⟨cs⟩ T)) g cs T := by
  subst hg
  exact heap_alloc_new w _
theorem TSeg.ch {X : Nat → TypeId → Prop} {w w' : World} {v : Value} {l : List Z3} (h : TSeg w v l) (hc : Ch X w w') (hX : ∀ g, v.ownBlock = some g → ∀ T, ¬ X g T) : TSeg w' v l := by
  obtain ⟨a, cap, h1, h2, h3, h4, h5⟩ := h
  refine ⟨a, cap, h1, h2, h3, h4, fun g off ar ha h0 => ?_⟩
  obtain ⟨k1, k2, k3⟩ := h5 g off ar ha h0
  refine ⟨k1, Nat.lt_of_lt_of_le k2 hc.size, fun i t ht => ?_⟩
  obtain ⟨q1, q2, q3⟩ := k3 i t ht
  have hb : w'.heap[g]? = w.heap[g]? := by
    have ho : w.heap[g]? = some w.heap[g] := by simp [k2]
    rw [ho]
    exact hc.block g _ ho (fun cs T r _ => hX g (by rw [h1, ha]; rfl) T)
  exact ⟨(World.cell?_of_block hb).trans q1, (World.cell?_of_block hb).trans q2, (World.cell?_of_block hb).trans q3⟩
end Go.Proofs.YtmiohekmpjiloaaGreatDoor

namespace Go.Proofs.YtmiohekmpjiloaaGreatDoor
open Go.RowKit
set_option maxRecDepth 20000

theorem hid {p : Prop} (h : p) : Hid p := h

def CasV (f : Pl.Cas) (v : Value) (_ : World) : Prop := ∃ s, v = .agg #[.string s, .int .i64 (f.num : Int)] ∧ bl s = f.name
def FldV (B : Nat) (f : Pl.Fld) (v : Value) (w : World) : Prop := ∃ s a b c, v = .agg #[.string s, .int .i64 (f.num : Int), a, b, c] ∧ bl s = f.name ∧ TyC B f.ty w a b c

end Go.Proofs.YtmiohekmpjiloaaGreatDoor

namespace Go.Proofs.YtmiohekmpjiloaaGreatDoor
open Go.RowKit
set_option maxRecDepth 20000

def Region.apartDst2 (n : Nat) (ops : Array Oper) : Bool :=
  (List.range ops.size).all fun i => (List.range ops.size).all fun j => match ops[i]?, ops[j]? with | some o, some o' => (match o.dst with | some d => decide (d < n) && (decide (i = j) || decide (o'.dst ≠ some d)) | none => true) | _, _ => true

section
variable {P : Program} {ops : Array Oper} {Q : Exit → Act → World → Prop}
theorem apartDst2_spec {n : Nat} (h : Region.apartDst2 n ops = true) {i : Nat} {o : Oper} (hi : ops[i]? = some o) {d : Nat} (hd : o.dst = some d) :
    d < n ∧ ∀ j o', ops[j]? = some o' → o'.dst = some d → j = i := by
  unfold Region.apartDst2 at h
  rw [List.all_eq_true] at h
  have hl : i < ops.size := (Array.getElem?_eq_some_iff.1 hi).1
  have h1 := h i (List.mem_range.2 hl)
  rw [List.all_eq_true] at h1
  have h2 := h1 i (List.mem_range.2 hl)
  simp only [hi, hd, decide_true, Bool.true_or, Bool.and_true, decide_eq_true_eq] at h2
  refine ⟨h2, fun j o' hj hd' => ?_⟩
  have hlj : j < ops.size := (Array.getElem?_eq_some_iff.1 hj).1
  have h3 := h1 j (List.mem_range.2 hlj)
  simp only [hi, hj, hd, hd'] at h3
  simp at h3
  exact h3.2.symm

theorem wpAny_drawn2 {a0 : Act} {pred : Nat → Value → World → Prop} {R : World → Prop} (hb : Region.backwards ops = true) (hd : Region.apartDst2 a0.tmps.size ops = true)
    (hmono : ∀ i v w w', pred i v w → Below w.heap.size w w' → pred i v w')
    (hstep : ∀ (i : Nat) (o : Oper), ops[i]? = some o → ∀ (a : Act) (w : World), a.tmps.size = a0.tmps.size → a.defers = a0.defers → (∀ (t : Nat), (∀ (j : Nat) (o : Oper), ops[j]? = some o → o.dst ≠ some t) → a.tmps.getD t undef = a0.tmps.getD t undef) →
      (∀ e ∈ o.after, Region.binds .any e = true → ∀ (o' : Oper) (d' : Nat), ops[e.on]? = some o' → o'.dst = some d' → pred e.on (a.tmps.getD d' undef) w) → R w →
      wpOp P ops Q i (fun a' w' => ∃ v, a' = a.put o.dst v ∧ pred i v w' ∧ Below w.heap.size w w' ∧ R w') a w)
    (hdone : ∀ (a : Act) (w : World), a.tmps.size = a0.tmps.size → a.defers = a0.defers → (∀ (t : Nat), (∀ (j : Nat) (o : Oper), ops[j]? = some o → o.dst ≠ some t) → a.tmps.getD t undef = a0.tmps.getD t undef) →
      (∀ (i : Nat) (o : Oper) (d : Nat), ops[i]? = some o → o.dst = some d → pred i (a.tmps.getD d undef) w) → R w → Q .normal a w) :
    ∀ (fuel : Nat) (listed : Array Bool) (a : Act) (w : World), listed.size = ops.size → left ops.size listed ≤ fuel → Drawn ops a0 pred R listed a w → wpAny P .any ops Q fuel listed a w := by
  have fin : ∀ (listed : Array Bool) (a : Act) (w : World), listed.size = ops.size → Drawn ops a0 pred R listed a w → Region.ready .any ops listed = [] → Q .normal a w := by
    intro listed a w hs hD hr
    refine hdone a w hD.size hD.defers hD.frame (fun i o d ho hdd => hD.come i o d ho hdd ?_) hD.world
    exact ready_none hb hr hs i (Array.getElem?_eq_some_iff.1 ho).1
  intro fuel
  induction fuel with
  | zero =>
    intro listed a w hs hl hD
    have hr : Region.ready .any ops listed = [] := by
      cases hc : Region.ready .any ops listed with
      | nil => rfl
      | cons i r =>
        have hi : i ∈ Region.ready .any ops listed := by rw [hc]; exact List.mem_cons_self
        obtain ⟨h0, o, ho, _⟩ := mem_ready.1 hi
        have hlt : i < ops.size := (Array.getElem?_eq_some_iff.1 ho).1
        have : 0 < left ops.size listed := by
          unfold left
          rw [List.countP_pos_iff]
          exact ⟨i, List.mem_range.2 hlt, by rw [h0]; rfl⟩
        omega
    exact ⟨hr, fin listed a w hs hD hr⟩
  | succ fuel ih =>
    intro listed a w hs hl hD
    refine ⟨fin listed a w hs hD, fun i hi => ?_⟩
    obtain ⟨h0, o, ho, hdep⟩ := mem_ready.1 hi
    have hlt : i < ops.size := (Array.getElem?_eq_some_iff.1 ho).1
    refine wpOp_mono ?_ (hstep i o ho a w hD.size hD.defers hD.frame (fun e he hbd o' d' ho' hd' => hD.come _ _ _ ho' hd' (hdep e he hbd)) hD.world)
    rintro a' w' ⟨v, rfl, hp, hB, hR⟩
    refine ih _ _ _ (by simpa using hs) ?_ ?_
    · have : left ops.size (listed.setIfInBounds i true) < left ops.size listed := by
        unfold left
        refine countP_lt _ _ _ ?_ ⟨i, List.mem_range.2 hlt, by rw [h0]; rfl, ?_⟩
        · intro x _ hx
          by_cases hxi : i = x
          · subst hxi
            have : i < listed.size := by omega
            simp [this] at hx
          · rw [getD_set_ne true hxi] at hx
            exact hx
        · have : i < listed.size := by omega
          simp [this]
      omega
    · cases hdd : o.dst with
      | none =>
        refine ⟨hD.size, hD.defers, hD.frame, ?_, hR⟩
        intro j o' d' ho' hd' hl'
        by_cases hji : i = j
        · subst hji
          rw [ho] at ho'
          cases ho'
          rw [hdd] at hd'
          cases hd'
        · rw [getD_set_ne false hji] at hl'
          exact hmono _ _ _ _ (hD.come j o' d' ho' hd' hl') hB
      | some d =>
        obtain ⟨hdn, huniq⟩ := apartDst2_spec hd ho hdd
        refine ⟨?_, ?_, ?_, ?_, hR⟩
        · simp only [Act.put, Array.size_setIfInBounds]
          exact hD.size
        · exact hD.defers
        · intro t ht
          have hne : d ≠ t := fun e => ht i o ho (by rw [hdd, e])
          rw [← hD.frame t ht]
          simp only [Act.put]
          rw [Array.getD_eq_getD_getElem?, Array.getD_eq_getD_getElem?, Array.getElem?_setIfInBounds_ne hne]
        · intro j o' d' ho' hd' hl'
          by_cases hji : i = j
          · subst hji
            have : o' = o := by rw [ho] at ho'; exact (Option.some.inj ho').symm
            subst this
            have : d' = d := by rw [hdd] at hd'; exact (Option.some.inj hd').symm
            subst this
            have hsz : d' < a.tmps.size := by rw [hD.size]; exact hdn
            simp only [Act.put]
            rw [Array.getD_eq_getD_getElem?, Array.getElem?_setIfInBounds_self_of_lt hsz]
            exact hp
          · rw [getD_set_ne false hji] at hl'
            have hne : d ≠ d' := fun e => hji (huniq j o' ho' (by rw [hd', e])).symm
            have := hD.come j o' d' ho' hd' hl'
            simp only [Act.put]
            rw [Array.getD_eq_getD_getElem?, Array.getElem?_setIfInBounds_ne hne, ← Array.getD_eq_getD_getElem?]
            exact hmono _ _ _ _ this hB

/-- The region. -/
theorem wp_region_drawn2 {id : Nat} {a0 : Act} {w0 : World} {pred : Nat → Value → World → Prop} {R : World → Prop} (hm : P.follows .mixedOrders = true) (hb : Region.backwards ops = true) (hd : Region.apartDst2 a0.tmps.size ops = true)
    (hmono : ∀ i v w w', pred i v w → Below w.heap.size w w' → pred i v w') (hR0 : R w0.drew)
    (hstep : ∀ (i : Nat) (o : Oper), ops[i]? = some o → ∀ (a : Act) (w : World), a.tmps.size = a0.tmps.size → a.defers = a0.defers → (∀ (t : Nat), (∀ (j : Nat) (o : Oper), ops[j]? = some o → o.dst ≠ some t) → a.tmps.getD t undef = a0.tmps.getD t undef) →
      (∀ e ∈ o.after, Region.binds .any e = true → ∀ (o' : Oper) (d' : Nat), ops[e.on]? = some o' → o'.dst = some d' → pred e.on (a.tmps.getD d' undef) w) → R w →
      wpOp P ops Q i (fun a' w' => ∃ v, a' = a.put o.dst v ∧ pred i v w' ∧ Below w.heap.size w w' ∧ R w') a w)
    (hdone : ∀ (a : Act) (w : World), a.tmps.size = a0.tmps.size → a.defers = a0.defers → (∀ (t : Nat), (∀ (j : Nat) (o : Oper), ops[j]? = some o → o.dst ≠ some t) → a.tmps.getD t undef = a0.tmps.getD t undef) →
      (∀ (i : Nat) (o : Oper) (d : Nat), ops[i]? = some o → o.dst = some d → pred i (a.tmps.getD d undef) w) → R w → Q .normal a w) :
    (Code.region id ops true).wp P Q a0 w0 := by
  refine wp_region_any hm (wpAny_drawn2 hb hd hmono hstep hdone _ _ _ _ (by simp) ?_ ⟨rfl, rfl, fun _ _ => rfl, ?_, hR0⟩)
  · unfold left
    exact Nat.le_trans List.countP_le_length (by simp)
  · intro i o d ho _ hl
    have hlt : i < ops.size := (Array.getElem?_eq_some_iff.1 ho).1
    simp [hlt] at hl

/-- A call that panics. -/
theorem gOp_dies {i : Nat} {o : Oper} {a : Act} {w : World} {K : Act → World → Prop} (ho : ops[i]? = some o) (hw : Region.wanted o (yielded ops a.tmps) = true) (f : Nat) (args : Array Value) (hrun : (execOp a.eval o).run P w = .ok (.enter f args) w)
    (h : Calls P f args w fun e w' => ∃ ch, e = .panicked ch ∧ Q (.panic ch) a w') : wpOp P ops Q i K a w := by
  unfold wpOp
  simp only [ho, hw, if_true]
  refine .inl ?_
  unfold Oper.wp
  rw [hrun]
  refine h.mono ?_
  rintro e w' ⟨ch, rfl, hk⟩
  exact hk
end
end Go.Proofs.YtmiohekmpjiloaaGreatDoor

