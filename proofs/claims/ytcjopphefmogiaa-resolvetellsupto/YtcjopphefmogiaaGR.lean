/- Rows of one's own, of any shape: built, grown, kept. -/
import Derived.Test.YtcjopphefmogiaaGT
import Derived.OneCell
namespace Go.Proofs.Ytcjopphefmogiaa
open Go.ChangeShapes Go.WideShapes Go.RowKit Go.Deep
set_option linter.unusedVariables false

/-- Blocks from B on, of some types. -/
def lies (W : World) (B : Nat) (S : List TypeId) (b : Nat) : Prop := B ≤ b ∧ b < W.heap.size ∧ ∃ c T f, W.heap[b]? = some (.cells c T f) ∧ T ∈ S
theorem lies.mono {W : World} {B B' : Nat} {S S' : List TypeId} {b : Nat} (h : lies W B S b) (hB : B' ≤ B) (hS : ∀ T, T ∈ S → T ∈ S') : lies W B' S' b := by
  obtain ⟨h1, h2, c, T, f, h3, h4⟩ := h
  exact ⟨Nat.le_trans hB h1, h2, c, T, f, h3, hS T h4⟩
theorem lies.grown {W W' : World} {B : Nat} {S : List TypeId} {b : Nat} {row : Option Nat} (h : lies W B S b) (hg : W.grownBy W' row) (hr : ∀ g, row = some g → ¬ lies W B S g) : lies W' B S b := by
  obtain ⟨h1, h2, c, T, f, h3, h4⟩ := id h
  refine ⟨h1, Nat.lt_of_lt_of_le h2 hg.size, c, T, f, ?_, h4⟩
  rw [hg.block b h2 (fun e => hr b e.symm h)]
  exact h3
theorem Stay.grown {W W' : World} {B : Nat} {S : List TypeId} {row : Option Nat} (hg : W.grownBy W' row) (hr : ∀ g, row = some g → ¬ lies W B S g) : Stay (lies W B S) W W' :=
  ⟨hg.size, fun b o hb hs => World.cell?_of_block (a := ⟨b, o, none⟩) (hg.block b hs fun e => hr b e.symm hb)⟩
theorem Ty.grown {α : Type} (t : Ty α) {W W' : World} {B : Nat} {S : List TypeId} {row : Option Nat} {cs : List Value} {x : α} (h : t.has (lies W B S) W cs x) (hg : W.grownBy W' row) (hr : ∀ g, row = some g → ¬ lies W B S g) : t.has (lies W' B S) W' cs x :=
  t.weak (fun b _ hb => hb.grown hg hr) (t.stay (Stay.grown hg hr) h)
theorem lies.below {W W' : World} {B : Nat} {S : List TypeId} {b : Nat} (h : lies W B S b) (hb : Below W.heap.size W W') : lies W' B S b := by
  obtain ⟨h1, h2, c, T, f, h3, h4⟩ := h
  exact ⟨h1, Nat.lt_of_lt_of_le h2 hb.size, c, T, f, by rw [hb.block b h2]; exact h3, h4⟩
theorem Ty.lies_below {α : Type} (t : Ty α) {W W' : World} {B : Nat} {S : List TypeId} {cs : List Value} {x : α} (h : t.has (lies W B S) W cs x) (hb : Below W.heap.size W W') : t.has (lies W' B S) W' cs x :=
  t.weak (fun b _ h => h.below hb) (t.stay (Stay.below hb fun b _ h => h) h)
theorem Ty.lies_mono {α : Type} (t : Ty α) {W : World} {B B' : Nat} {S S' : List TypeId} {cs : List Value} {x : α} (h : t.has (lies W B S) W cs x) (hB : B' ≤ B) (hS : ∀ T, T ∈ S → T ∈ S') : t.has (lies W B' S') W cs x :=
  t.weak (fun b _ h => h.mono hB hS) h
/-- A row of one type is none of others. -/
theorem own_not_lies {W : World} {B C n k : Nat} {T : TypeId} {S : List TypeId} {v : Value} {xs : List Value} (h : W.ownsRow B T n v k xs) (hT : T ∉ S) : ∀ g, v.ownBlock = some g → ¬ lies W C S g := by
  rintro g hg ⟨_, _, c, T', f, h3, h4⟩
  rcases h.2 with ⟨rfl, _⟩ | ⟨g', cap, cur, rfl, _, hg', _⟩
  · simp [Value.ownBlock] at hg
  · simp [Value.ownBlock] at hg
    subst hg
    rw [hg'] at h3
    cases h3
    exact hT h4

/-- A row of one's own: its cells, and what they read as. -/
structure Ty.Row {α : Type} (t : Ty α) (W : World) (B : Nat) (T : TypeId) (S : List TypeId) (v : Value) (l : List α) (css : List (List Value)) : Prop where
  len : css.length = l.length
  row : W.ownsRow B T t.n v l.length css.flatten
  each : ∀ (i : Nat) x cs, l[i]? = some x → css[i]? = some cs → t.has (lies W B S) W cs x
theorem Ty.Row.nil {α : Type} (t : Ty α) (W : World) (B : Nat) (T : TypeId) (S : List TypeId) : t.Row W B T S (.slice none 0 0) [] [] :=
  ⟨rfl, World.ownsRow_nil _ _ _ _, fun i x cs h => by simp at h⟩
theorem Ty.Row.push {α : Type} {t : Ty α} {W W' : World} {B : Nat} {T : TypeId} {S : List TypeId} {v v' : Value} {l : List α} {css : List (List Value)} {x : α} {cs : List Value} (h : t.Row W B T S v l css) (hx : t.has (lies W B S) W cs x) (hT : T ∉ S) (hg : W.grownBy W' v.ownBlock) (hr : W'.ownsRow B T t.n v' (l.length + 1) (css.flatten ++ cs)) : t.Row W' B T S v' (l ++ [x]) (css ++ [cs]) := by
  have hn := own_not_lies (C := B) h.row hT
  refine ⟨by simp [h.len], ?_, ?_⟩
  · rw [List.flatten_append, List.flatten_cons, List.flatten_nil, List.append_nil, List.length_append]
    exact hr
  · intro i y ds hi hd
    by_cases c : i < l.length
    · rw [List.getElem?_append_left c] at hi
      rw [List.getElem?_append_left (by rw [h.len]; exact c)] at hd
      exact t.grown (h.each i y ds hi hd) hg hn
    · have hc := (List.getElem?_eq_some_iff.1 hi).1
      rw [List.length_append, List.length_singleton] at hc
      have e : i = l.length := by omega
      subst e
      rw [List.getElem?_append_right (Nat.le_refl _)] at hi
      rw [List.getElem?_append_right (by rw [h.len]; exact Nat.le_refl _), h.len] at hd
      rw [Nat.sub_self] at hi hd
      simp at hi hd
      subst hi hd
      exact t.grown hx hg hn
theorem Ty.Row.grown {α : Type} {t : Ty α} {W W' : World} {B : Nat} {T : TypeId} {S : List TypeId} {v : Value} {l : List α} {css : List (List Value)} {row : Option Nat} (h : t.Row W B T S v l css) (hg : W.grownBy W' row) (hr : ∀ g, row = some g → ¬ lies W B S g) (hv : v.ownBlock = none ∨ v.ownBlock ≠ row) : t.Row W' B T S v l css :=
  ⟨h.len, h.row.kept hg hv, fun i x cs hi hc => t.grown (h.each i x cs hi hc) hg hr⟩
theorem own_below {W W' : World} {B : Nat} {e : TypeId} {s : Nat} {v : Value} {k : Nat} {xs : List Value} (h : W.ownsRow B e s v k xs) (hb : Below W.heap.size W W') : W'.ownsRow B e s v k xs := by
  refine ⟨h.1, ?_⟩
  rcases h.2 with hn | ⟨g, cap, cur, rfl, hB, hgg, rest⟩
  · exact .inl hn
  · refine .inr ⟨g, cap, cur, rfl, hB, ?_, rest⟩
    rw [hb.block g (Array.getElem?_eq_some_iff.1 hgg).1]
    exact hgg
theorem Ty.Row.below {α : Type} {t : Ty α} {W W' : World} {B : Nat} {T : TypeId} {S : List TypeId} {v : Value} {l : List α} {css : List (List Value)} (h : t.Row W B T S v l css) (hb : Below W.heap.size W W') : t.Row W' B T S v l css :=
  ⟨h.len, own_below h.row hb, fun i x cs hi hc => t.lies_below (h.each i x cs hi hc) hb⟩
theorem Ty.Row.lower {α : Type} {t : Ty α} {W : World} {B C : Nat} {T : TypeId} {S : List TypeId} {v : Value} {l : List α} {css : List (List Value)} (h : t.Row W B T S v l css) (hC : C ≤ B) : t.Row W C T S v l css := by
  refine ⟨h.len, ⟨h.row.1, ?_⟩, fun i x cs hi hc => t.lies_mono (h.each i x cs hi hc) hC fun _ h => h⟩
  rcases h.row.2 with hn | ⟨g, cap, cur, rfl, hB, rest⟩
  · exact .inl hn
  · exact .inr ⟨g, cap, cur, rfl, Nat.le_trans hC hB, rest⟩
theorem Ty.Row.slice {α : Type} {t : Ty α} {W : World} {B : Nat} {T : TypeId} {S : List TypeId} {v : Value} {l : List α} {css : List (List Value)} (h : t.Row W B T S v l css) : t.slice.has (lies W B (T :: S)) W [v] l := by
  have hx : ∀ (i : Nat) x cs, l[i]? = some x → css[i]? = some cs → t.has (lies W B (T :: S)) W cs x := fun i x cs hi hc => t.lies_mono (h.each i x cs hi hc) (Nat.le_refl _) fun _ h => List.mem_cons_of_mem _ h
  have hn : ∀ cs, cs ∈ css → cs.length = t.n := by
    intro cs hcs
    obtain ⟨i, hi, rfl⟩ := List.mem_iff_getElem.1 hcs
    exact t.len (hx i _ _ (List.getElem?_eq_getElem (by have := h.len; omega)) (List.getElem?_eq_getElem hi))
  rcases h.row.2 with ⟨rfl, h0⟩ | ⟨g, cap, cur, rfl, hb, hg, hle, hm, hs, ht⟩
  · have : l = [] := List.length_eq_zero_iff.1 h0
    subst this
    exact Ty.slice_nil t _ W
  · have hgs : g < W.heap.size := (Array.getElem?_eq_some_iff.1 hg).1
    refine ⟨some ⟨g, 0, none⟩, cap, rfl, hle, hm, (fun h => by cases h), fun _ => ⟨g, 0, rfl, ⟨hb, hgs, cur, T, _, hg, List.mem_cons_self⟩, hgs, fun i x hi => ?_⟩⟩
    have hil := (List.getElem?_eq_some_iff.1 hi).1
    have hci : css[i]? = some (css[i]'(by have := h.len; omega)) := List.getElem?_eq_getElem _
    refine ⟨_, hx i x _ hi hci, fun j u hj => ?_⟩
    have := flat_at hn i j _ hci u hj
    have hc := h.row.cells (g := g) rfl _ _ this
    rw [add_plain, ← Nat.add_assoc] at hc
    exact hc
/-- The slice of a row is a row in other rows: of one type. -/
theorem Ty.Row.has {α : Type} {t : Ty α} {W : World} {B C : Nat} {T : TypeId} {S S' : List TypeId} {v : Value} {l : List α} {css : List (List Value)} (h : t.Row W B T S v l css) (hC : C ≤ B) (hS : ∀ U, U ∈ T :: S → U ∈ S') : t.slice.has (lies W C S') W [v] l :=
  t.slice.lies_mono h.slice hC hS
/-- Shapes that lead nowhere. -/
def Ty.Flat {α : Type} (t : Ty α) (f : α → List Value) : Prop := ∀ p W cs x, t.has p W cs x ↔ cs = f x
theorem Ty.flat_int (k : IntKind) : (Ty.int k).Flat fun x => [.int k x] := fun _ _ _ _ => Iff.rfl
theorem Ty.flat_row {α : Type} {t : Ty α} {f : α → List Value} (hf : t.Flat f) {W : World} {B : Nat} {T : TypeId} {v : Value} {l : List α} (h : W.ownsRow B T t.n v l.length (l.flatMap f)) (S : List TypeId) : t.Row W B T S v l (l.map f) :=
  ⟨by simp, by rw [← List.flatMap_def]; exact h, fun i x cs hi hc => by
    rw [List.getElem?_map, hi] at hc
    exact (hf _ _ _ _).2 (by simpa using hc.symm)⟩
theorem Ty.flat_css {α : Type} {t : Ty α} {f : α → List Value} (hf : t.Flat f) {W : World} {B : Nat} {T : TypeId} {S : List TypeId} {v : Value} {l : List α} {css : List (List Value)} (h : t.Row W B T S v l css) : css = l.map f := by
  apply List.ext_getElem?
  intro i
  rw [List.getElem?_map]
  by_cases c : i < l.length
  · have h1 := List.getElem?_eq_getElem c
    have h2 : css[i]? = some (css[i]'(by rw [h.len]; exact c)) := List.getElem?_eq_getElem _
    rw [h1, h2]
    have := (hf _ _ _ _).1 (h.each i _ _ h1 h2)
    rw [this]; rfl
  · have h1 : css[i]? = none := List.getElem?_eq_none (by rw [h.len]; omega)
    have h2 : l[i]? = none := List.getElem?_eq_none (by omega)
    rw [h1, h2]; rfl
/-- All cells of a slice, one row. -/
theorem Ty.flat_cells {α : Type} {t : Ty α} {f : α → List Value} (hf : t.Flat f) {p : Nat → Prop} {W : World} {g off len cap : Nat} {l : List α} (h : t.slice.has p W [.slice (some ⟨g, off, none⟩) len cap] l) : ∀ j u, (l.flatMap f)[j]? = some u → W.cell? ((⟨g, off, none⟩ : Addr).add j) = some u := by
  obtain ⟨a, cap', e, h1, h2, h3, h4⟩ := h
  simp only [List.cons.injEq, and_true, Value.slice.injEq] at e
  obtain ⟨e1, e2, e3⟩ := e
  intro j u hu
  have h0 : 0 < l.length := by
    rcases Nat.eq_zero_or_pos l.length with h0 | h0
    · have : l = [] := List.length_eq_zero_iff.1 h0
      rw [this] at hu; simp at hu
    · exact h0
  obtain ⟨g', off', ha, hp, hg, hx⟩ := h4 h0
  rw [ha] at e1
  simp only [Option.some.injEq, Addr.mk.injEq, and_true] at e1
  obtain ⟨rfl, rfl⟩ := e1
  rw [add_plain]
  have key : ∀ (m : List α) (o : Nat), (∀ (i : Nat) x, m[i]? = some x → ∀ j u, (f x)[j]? = some u → W.cell? ⟨g, o + i * t.n + j, none⟩ = some u) → (∀ x, x ∈ m → (f x).length = t.n) → ∀ j u, (m.flatMap f)[j]? = some u → W.cell? ⟨g, o + j, none⟩ = some u := by
    intro m
    induction m with
    | nil => intro o _ _ j u hu; simp at hu
    | cons x r ih =>
      intro o hx hl j u hu
      rw [List.flatMap_cons] at hu
      have hlx := hl x List.mem_cons_self
      by_cases c : j < t.n
      · rw [List.getElem?_append_left (by omega)] at hu
        have := hx 0 x rfl j u hu
        rw [Nat.zero_mul, Nat.add_zero] at this
        exact this
      · rw [List.getElem?_append_right (by omega), hlx] at hu
        have := ih (o + t.n) (fun i y hy k w hk => by
          have := hx (i + 1) y (by simpa using hy) k w hk
          have e : o + (i + 1) * t.n + k = o + t.n + i * t.n + k := by rw [Nat.succ_mul]; omega
          rw [e] at this
          exact this) (fun y hy => hl y (List.mem_cons_of_mem _ hy)) (j - t.n) u hu
        have e : o + t.n + (j - t.n) = o + j := by omega
        rw [e] at this
        exact this
  refine key l off (fun i x hi k w hk => ?_) (fun x hx' => ?_) j u hu
  · obtain ⟨cs, h, hc⟩ := hx i x hi
    rw [(hf _ _ _ _).1 h] at hc
    exact hc k w hk
  · obtain ⟨i, hi, rfl⟩ := List.mem_iff_getElem.1 hx'
    obtain ⟨cs, h, hc⟩ := hx i _ (List.getElem?_eq_getElem hi)
    rw [← (hf _ _ _ _).1 h]
    exact t.len h
/-- One cell of a row, stored. -/
theorem own_setCell {W : World} {B : Nat} {T : TypeId} {s k : Nat} {g n cap : Nat} {xs : List Value} (h : W.ownsRow B T s (.slice (some ⟨g, 0, none⟩) n cap) k xs) (i : Nat) (hi : i < k * s) (u : Value) : (W.setCell ⟨g, i, none⟩ u).ownsRow B T s (.slice (some ⟨g, 0, none⟩) n cap) k (xs.set i u) := by
  refine ⟨by rw [List.length_set]; exact h.1, ?_⟩
  rcases h.2 with ⟨e, _⟩ | ⟨g', cap', cur, e, hB, hg, h1, h2, h3, h4⟩
  · cases e
  · cases e
    refine .inr ⟨g, cap, cur.set! i u, rfl, hB, ?_, h1, h2, by simpa using h3, ?_⟩
    · simp [World.setCell, Array.getElem?_modify, hg]
    · rw [← h4]
      simp [List.take_set]
/-- Cells of one row, one of them another: in rows of rows. -/
theorem flat_set {n : Nat} {css : List (List Value)} (hn : ∀ cs, cs ∈ css → cs.length = n) (i j : Nat) (cs : List Value) (hi : css[i]? = some cs) (hj : j < n) (u : Value) : css.flatten.set (i * n + j) u = (css.set i (cs.set j u)).flatten := by
  induction css generalizing i with
  | nil => simp at hi
  | cons c t ih =>
    have hc := hn c List.mem_cons_self
    cases i with
    | zero =>
      have : c = cs := by simpa using hi
      subst this
      rw [List.set_cons_zero, List.flatten_cons, List.flatten_cons, Nat.zero_mul, Nat.zero_add, List.set_append_left _ _ (by omega)]
    | succ i =>
      have e : (i + 1) * n + j = n + (i * n + j) := by rw [Nat.succ_mul]; omega
      rw [List.set_cons_succ, List.flatten_cons, List.flatten_cons, List.set_append_right _ _ (by omega), e, hc, Nat.add_sub_cancel_left, ih (fun cs hcs => hn cs (List.mem_cons_of_mem _ hcs)) i (by simpa using hi)]
end Go.Proofs.Ytcjopphefmogiaa
