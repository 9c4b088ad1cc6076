/- lex: read: one more token. lex: Tokens. -/
import Derived.Test.YtmiohekmpjiloaaGreatDoorCutPut07
import Derived.Deep.RegionLaw
import Derived.Deep.AppendLies
namespace Go.Proofs.YtmiohekmpjiloaaGreatDoor
open Go.RowKit
set_option maxRecDepth 20000

/-- A token as the program has it: kind, text, line. -/
abbrev T3 := Nat × ByteArray × Nat
def tcells (t : T3) : List Value := [.int .i64 (t.1 : Int), .string t.2.1, .int .i64 (t.2.2 : Int)]
def rowT (l : List T3) : List Value := l.flatMap tcells
def asTok (t : T3) : Pl.Tok := ⟨t.1, bl t.2.1, t.2.2⟩

theorem Tryz.info183 : (Tryz.prog.info? 183).map (fun i => (i.zero, i.size, i.bytes)) = some (some (.agg #[.int .i64 0, .string ⟨#[]⟩, .int .i64 0]), 3, 32) := by kernel_rfl

/-- The tokens in their row. -/
def Toks (B : Nat) (w : World) (v : Value) (l : List T3) : Prop := w.ownsRow B 183 3 v l.length (rowT l)

theorem Toks.other {B : Nat} {w : World} {v : Value} {l : List T3} (h : Toks B w v l) {n : Nat} {cs : Array Value} {T : TypeId} (hn : w.heap[n]? = some (.cells cs T (0, 0))) (hT : T ≠ 183) : v.ownBlock ≠ some n := by
  intro he
  rcases h.2 with ⟨rfl, _⟩ | ⟨g, cap, cur, rfl, _, hg, _⟩
  · simp [Value.ownBlock] at he
  · simp [Value.ownBlock] at he
    subst he
    rw [hg] at hn
    simp at hn
    exact hT hn.2.symm

theorem Toks.kept {B : Nat} {w w' : World} {v : Value} {l : List T3} {row : Option Nat} (h : Toks B w v l) (hg : w.grownBy w' row) (hne : v.ownBlock ≠ row ∨ v.ownBlock = none) : Toks B w' v l := by
  refine ⟨h.1, ?_⟩
  rcases h.2 with h0 | ⟨g, cap, cur, rfl, hb, hgg, hr⟩
  · exact .inl h0
  · refine .inr ⟨g, cap, cur, rfl, hb, ?_, hr⟩
    have hlt : g < w.heap.size := by
      rcases Nat.lt_or_ge g w.heap.size with hlt | hge
      · exact hlt
      · rw [Array.getElem?_eq_none hge] at hgg; cases hgg
    rw [hg.block g hlt ?_]
    · exact hgg
    · rcases hne with hne | hne
      · simpa [Value.ownBlock] using hne
      · simp [Value.ownBlock] at hne
theorem Toks.grown {B n : Nat} {w w' : World} {v : Value} {l : List T3} (h : Toks B w v l) (hg : w.grownBy w' (some n)) {cs : Array Value} {T : TypeId} (hn : w.heap[n]? = some (.cells cs T (0, 0))) (hT : T ≠ 183) : Toks B w' v l := h.kept hg (.inl (h.other hn hT))
theorem Toks.below {B : Nat} {w w' : World} {v : Value} {l : List T3} (h : Toks B w v l) (hb : Below w.heap.size w w') : Toks B w' v l := by
  cases hv : v.ownBlock with
  | none => exact h.kept (grown_below hb none) (.inr hv)
  | some k => exact h.kept (grown_below hb none) (.inl (by rw [hv]; simp))

theorem Toks.shape {B : Nat} {w : World} {v : Value} {l : List T3} (h : Toks B w v l) : ∃ ad cp, v = .slice ad l.length cp := by
  rcases h.2 with ⟨rfl, h0⟩ | ⟨g, cap, cur, rfl, _⟩
  · exact ⟨none, 0, by rw [h0]⟩
  · exact ⟨_, _, rfl⟩
theorem Toks.more {B : Nat} {w : World} {v : Value} {n : Nat} {l : List T3} {t : T3} (h : w.ownsRow B 183 3 v n (rowT l ++ tcells t)) (hn : n = l.length + 1) : Toks B w v (l ++ [t]) := by
  subst hn
  unfold Toks rowT
  rw [List.length_append, List.flatMap_append]
  simpa [rowT] using h

theorem below_grown {B : Nat} {a b c : World} {row : Option Nat} (h : Below B a b) (hg : b.grownBy c row) (hB : B ≤ b.heap.size) (hr : ∀ j, row = some j → B ≤ j) : Below B a c :=
  h.trans ⟨hg.os, hg.tape, hg.output, hg.size, fun j hj => hg.block j (by omega) (fun e => by have := hr j e.symm; omega)⟩
theorem Toks.since {B : Nat} {w : World} {v : Value} {l : List T3} (h : Toks B w v l) : ∀ j, v.ownBlock = some j → B ≤ j := by
  intro j hj
  rcases h.2 with ⟨rfl, _⟩ | ⟨g, cap, cur, rfl, hb, _⟩
  · simp [Value.ownBlock] at hj
  · simp [Value.ownBlock] at hj
    omega

end Go.Proofs.YtmiohekmpjiloaaGreatDoor

namespace Go.Proofs.YtmiohekmpjiloaaGreatDoor
open Go.RowKit
set_option maxRecDepth 20000
namespace Pl

def preT (l : List Tok) (x : List Tok × Nat × Int) : List Tok × Nat × Int := if x.2.2 = 0 then (l ++ x.1, 0, 0) else ([], x.2)

theorem preT_cons (l : List Tok) (t : Tok) (x : List Tok × Nat × Int) : preT l (tokCons t x) = preT (l ++ [t]) x := by
  unfold preT tokCons
  by_cases h : x.2.2 = 0
  · simp [h]
  · simp [h]

theorem cons_shape (t : Tok) (x : List Tok × Nat × Int) : ((tokCons t x).2.2 = 0 → (tokCons t x).2.1 = 0) ∧ ((tokCons t x).2.2 ≠ 0 → (tokCons t x).1 = []) := by
  unfold tokCons
  by_cases h : x.2.2 = 0
  · simp [h]
  · simp [h]
theorem tok_shape (f : Nat) : ∀ (l : List Nat) (ln : Nat), ((tokS f l ln).2.2 = 0 → (tokS f l ln).2.1 = 0) ∧ ((tokS f l ln).2.2 ≠ 0 → (tokS f l ln).1 = []) := by
  induction f with
  | zero => intro l ln; exact ⟨fun _ => rfl, fun _ => rfl⟩
  | succ f ih =>
    intro l ln
    cases l with
    | nil => exact ⟨fun _ => rfl, fun _ => rfl⟩
    | cons c r =>
      simp only [tokS]
      split
      · exact ih _ _
      · split
        · exact ih _ _
        · split
          · exact ih _ _
          · split
            · exact cons_shape _ _
            · split
              · split
                · exact cons_shape _ _
                · rename_i h
                  exact ⟨fun h' => absurd h' h, fun _ => rfl⟩
              · exact ⟨fun h' => by simp at h', fun _ => rfl⟩
theorem preT_nil (l : List Nat) (ln : Nat) : preT [] (tok l ln) = tok l ln := by
  have h := tok_shape (l.length + 1) l ln
  unfold tok preT
  generalize tokS (l.length + 1) l ln = x at h ⊢
  obtain ⟨a, b, c⟩ := x
  simp only at h ⊢
  by_cases hc : c = 0
  · subst hc
    simp [h.1 rfl]
  · simp [hc, h.2 hc]

theorem next_len (l : List Nat) : (nextP l).2.1 ≤ l.length ∧ ((nextP l).2.2 = 0 → 1 ≤ (nextP l).2.1) := by
  cases l with
  | nil => exact ⟨Nat.le_refl _, fun h => by simp [nextP] at h⟩
  | cons c r =>
    have h1 := takeWhile_le (p := isPart) (c :: r)
    have h2 := takeWhile_le (p := isDigit) (c :: r)
    have e1 : isLetter c = true → 1 ≤ ((c :: r).takeWhile isPart).length := by
      intro h
      rw [List.takeWhile_cons, if_pos (by rw [part_split]; simp [isJoin, h])]
      simp
    have e2 : isDigit c = true → 1 ≤ ((c :: r).takeWhile isDigit).length := by
      intro h
      rw [List.takeWhile_cons, if_pos h]
      simp
    simp only [nextP]
    by_cases hl : isLetter c = true
    · rw [if_pos hl]
      split
      · exact ⟨h1, fun h => by simp at h⟩
      · exact ⟨h1, fun _ => e1 hl⟩
    · rw [if_neg hl]
      by_cases hd : isDigit c = true
      · rw [if_pos hd]
        split
        · exact ⟨h2, fun h => by simp at h⟩
        · exact ⟨h2, fun _ => e2 hd⟩
      · rw [if_neg hd]
        split
        · exact ⟨by simp, fun _ => Nat.le_refl _⟩
        · exact ⟨Nat.zero_le _, fun h => by simp at h⟩
end Pl

theorem bl_extract (s : ByteArray) (a m : Nat) (_h : a + m ≤ s.size) : bl (s.extract a (a + m)) = ((bl s).drop a).take m := by
  unfold bl
  rw [← List.map_drop, ← List.map_take]
  congr 1
  rw [ByteArray.data_extract, Array.toList_extract]
  simp only [List.extract]
  congr 1
  omega

/-- The tokens of a text: the list, the line, the error. -/
def tokA (s : ByteArray) : List Pl.Tok × Nat × Int := if 65536 < s.size then ([], 0, 5) else Pl.tok (bl s) 1

end Go.Proofs.YtmiohekmpjiloaaGreatDoor

