/- lex: Print. -/
import Derived.Test.YtjeegcfdhoiplaaPC
import Derived.Test.YtjeegcfdhoiplaaPB
import Derived.Lib.AppendStr
namespace Go.Proofs.Ytjeegcfdhoiplaa
open Go.RowKit

def zTok (t : Z3) : Pl.Tok := ⟨t.1.toNat, bl t.2.1, t.2.2.toNat⟩
def u8n (l : List Nat) : List Value := l.map fun (c : Nat) => Value.int .u8 (c : Int)

theorem check_zero {t : Z3} (h : checkZ t = 0) : Pl.okTok (zTok t) ∧ 1 ≤ t.1 ∧ t.1 ≤ 3 ∧ 1 ≤ t.2.2 ∧ 1 ≤ t.2.1.size ∧ t.2.1.size ≤ 32 := by
  obtain ⟨k, x, ln⟩ := t
  unfold checkZ at h
  simp only at h ⊢
  by_cases h1 : k < 1 ∨ 3 < k
  · rw [if_pos h1] at h
    simp at h
  · rw [if_neg h1] at h
    cases hj : just k x with
    | false =>
      rw [hj, if_pos rfl] at h
      simp at h
    | true =>
      rw [hj, if_neg (by simp)] at h
      by_cases hl : ln < 1
      · rw [if_pos hl] at h
        simp at h
      · unfold just at hj
        simp only [Bool.and_eq_true, decide_eq_true_eq] at hj
        obtain ⟨⟨j1, j2⟩, j3⟩ := hj
        have hn : Pl.nextP (bl x) = (k.toNat, (bl x).length, 0) := by
          rw [bl_length]
          ext
          · simp only; omega
          · simp only; exact j3
          · simp only; exact j1
        have hok : Pl.okTok (zTok (k, x, ln)) := Pl.next_ok (bl x) k.toNat ln.toNat hn
        have hlen := Pl.ok_kind _ hok
        have : (zTok (k, x, ln)).text.length = x.size := bl_length x
        refine ⟨hok, by omega, by omega, by omega, by omega, by omega⟩

/-- The text of the first tokens, without the newline behind the last. -/
def pre : Nat → Bool → List Pl.Tok → List Nat
  | _, _, [] => []
  | line, first, t :: r => (if t.line = line ∧ first = false then [32] else []) ++ List.replicate (t.line - line) 10 ++ t.text ++ pre t.line false r

theorem print_pre (line : Nat) (first : Bool) (l : List Pl.Tok) : Pl.printS line first l = pre line first l ++ (if first = true ∧ l = [] then [] else [10]) := by
  induction l generalizing line first with
  | nil => cases first <;> rfl
  | cons t r ih =>
    simp only [Pl.printS, pre]
    rw [ih]
    simp

/-- The line at which a list ends. -/
def lastLine : Nat → List Pl.Tok → Nat
  | line, [] => line
  | _, t :: r => lastLine t.line r

theorem pre_append (line : Nat) (first : Bool) (l m : List Pl.Tok) : pre line first (l ++ m) = pre line first l ++ pre (lastLine line l) (first && l.isEmpty) m := by
  induction l generalizing line first with
  | nil => simp [pre, lastLine]
  | cons t r ih =>
    simp only [List.cons_append, pre, lastLine]
    rw [ih]
    simp
theorem last_append (line : Nat) (l m : List Pl.Tok) : lastLine line (l ++ m) = lastLine (lastLine line l) m := by
  induction l generalizing line with
  | nil => rfl
  | cons t r ih => exact ih _

theorem pre_length (l : List Pl.Tok) : ∀ (line : Nat) (first : Bool), (∀ t ∈ l, t.text.length ≤ 32) → Pl.rises line l → (pre line first l).length + line ≤ 33 * l.length + lastLine line l := by
  induction l with
  | nil => intro line first _ _; simp [pre, lastLine]
  | cons t r ih =>
    intro line first h hr
    have h1 := ih t.line false (fun u hu => h u (by simp [hu])) hr.2
    have h2 := h t (by simp)
    have h3 := hr.1
    have h4 : (if t.line = line ∧ first = false then [32] else ([] : List Nat)).length ≤ 1 := by split <;> simp
    simp only [pre, List.length_append, List.length_replicate, lastLine, List.length_cons]
    omega

/-- Octets of the call's own. -/
def Oct (B : Nat) (w : World) (v : Value) (l : List Nat) : Prop := w.ownsRow B 5 1 v l.length (u8n l)

theorem Oct.other {B : Nat} {w : World} {v : Value} {l : List Nat} (h : Oct B w v l) {n : Nat} {cs : Array Value} {T : TypeId} (hn : w.heap[n]? = some (.cells cs T (0, 0))) (hT : T ≠ 5) : v.ownBlock ≠ some n := by
  intro he
  rcases h.2 with ⟨rfl, _⟩ | ⟨g, cap, cur, rfl, _, hg, _⟩
  · simp [Value.ownBlock] at he
  · simp [Value.ownBlock] at he
    subst he
    rw [hg] at hn
    simp at hn
    exact hT hn.2.symm
theorem Oct.kept {B : Nat} {w w' : World} {v : Value} {l : List Nat} {row : Option Nat} (h : Oct B w v l) (hg : w.grownBy w' row) (hne : v.ownBlock ≠ row ∨ v.ownBlock = none) : Oct B w' v l := by
  refine ⟨h.1, ?_⟩
  rcases h.2 with h0 | ⟨g, cap, cur, rfl, hb, hgg, hr⟩
  · exact .inl h0
  · refine .inr ⟨g, cap, cur, rfl, hb, ?_, hr⟩
    have hlt : g < w.heap.size := by
      rcases Nat.lt_or_ge g w.heap.size with hlt | hge
      · exact hlt
      · rw [Array.getElem?_eq_none hge] at hgg; cases hgg
    rw [hg.block g hlt ?_]
    · exact hgg
    · rcases hne with hne | hne
      · simpa [Value.ownBlock] using hne
      · simp [Value.ownBlock] at hne
theorem Oct.below {B : Nat} {w w' : World} {v : Value} {l : List Nat} (h : Oct B w v l) (hb : Below w.heap.size w w') : Oct B w' v l := by
  cases hv : v.ownBlock with
  | none => exact h.kept (grown_below hb none) (.inr hv)
  | some k => exact h.kept (grown_below hb none) (.inl (by rw [hv]; simp))
theorem Oct.since {B : Nat} {w : World} {v : Value} {l : List Nat} (h : Oct B w v l) : ∀ j, v.ownBlock = some j → B ≤ j := by
  intro j hj
  rcases h.2 with ⟨rfl, _⟩ | ⟨g, cap, cur, rfl, hb, _⟩
  · simp [Value.ownBlock] at hj
  · simp [Value.ownBlock] at hj
    omega
theorem Oct.shape {B : Nat} {w : World} {v : Value} {l : List Nat} (h : Oct B w v l) : ∃ ad cp, v = .slice ad l.length cp := by
  rcases h.2 with ⟨rfl, h0⟩ | ⟨g, cap, cur, rfl, _⟩
  · exact ⟨none, 0, by rw [h0]⟩
  · exact ⟨_, _, rfl⟩

/-- A token in its box. -/
def TBox (w : World) (b : Nat) (t : Z3) : Prop := w.heap[b]? = some (.cells #[.int .i64 t.1, .string t.2.1, .int .i64 t.2.2] 34 (0, 0))
theorem TBox.facts {w : World} {b : Nat} {t : Z3} (h : TBox w b t) : w.cell? ⟨b, 1, none⟩ = some (.string t.2.1) ∧ w.cell? ⟨b, 2, none⟩ = some (.int .i64 t.2.2) ∧ b < w.heap.size := by
  refine ⟨by rw [cell_of_row w b 1 _ 34 (0, 0) h]; rfl, by rw [cell_of_row w b 2 _ 34 (0, 0) h]; rfl, ?_⟩
  rcases Nat.lt_or_ge b w.heap.size with hlt | hge
  · exact hlt
  · unfold TBox at h; rw [Array.getElem?_eq_none hge] at h; cases h

/-- One octet more. -/
theorem oct_app {B : Nat} {w wr w5 : World} {g cap n b : Nat} {c : Nat} {v : Value} {l : List Nat} {t : Z3} {o : Obj} (hb : Below B w wr) (hBw : B ≤ wr.heap.size) (hO : Oct B wr v l) (hX : TBox wr b t) (hn : n = l.length)
    (hown5 : w5.ownsRow B 5 1 (.slice (some ⟨g, 0, none⟩) (n + 1) cap) (n + 1) (u8n l ++ [.int .u8 (c : Int)])) (hgr5 : (wr.alloc o).grownBy w5 v.ownBlock) :
    Oct B w5 (.slice (some ⟨g, 0, none⟩) (n + 1) cap) (l ++ [c]) ∧ TBox w5 b t ∧ Below B w w5 := by
  subst hn
  refine ⟨?_, ?_, below_grown (hb.alloc hBw o) hgr5 (by simp; omega) hO.since⟩
  · unfold Oct u8n
    rw [List.length_append, List.map_append]
    exact hown5
  · have hlt := hX.facts.2.2
    exact (hgr5.block b (by simp; omega) (fun e => (hO.other hX (by decide)) e.symm)).trans (((Below.refl _ wr).alloc (Nat.le_refl _) o).block b hlt |>.trans hX)
theorem oct_str {B : Nat} {w wr w5 : World} {x : ByteArray} {v v5 : Value} {n : Nat} {l : List Nat} (hb : Below B w wr) (hBw : B ≤ wr.heap.size) (hO : Oct B wr v l) (hn : n = l.length)
    (hown5 : w5.ownsRow B 5 1 v5 (n + x.size) (u8n l ++ Lib.strCells x)) (hgr5 : wr.grownBy w5 v.ownBlock) : Oct B w5 v5 (l ++ bl x) ∧ Below B w w5 := by
  subst hn
  refine ⟨?_, below_grown hb hgr5 hBw hO.since⟩
  have e : Lib.strCells x = u8n (bl x) := by
    simp [Lib.strCells, u8n, bl]
  unfold Oct
  rw [List.length_append, bl_length]
  rw [e] at hown5
  unfold u8n at hown5 ⊢
  rw [List.map_append]
  exact hown5
end Go.Proofs.Ytjeegcfdhoiplaa
