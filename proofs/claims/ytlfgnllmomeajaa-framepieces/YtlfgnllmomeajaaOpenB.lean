/- Texts that are handed in: a slice of slices of octets. -/
import Derived.Test.YtlfgnllmomeajaaOpen
import Derived.Deep.Matrix
namespace Go.Proofs.Ytlfgnllmomeajaa
open Go.ChangeShapes Go.WideShapes Go.ChangeAt Go.RowKit

/-- Numbers that came in: they read as a list, and their datum has at least as many parts. -/
theorem open_numbers {H : Type} {enc : TypeId × Value → H} {W : World} {base : Nat} {v : Value} {d : DataW H} {p : List MemPlace} (hval : Value.okWide Try.prog W .any base 56 v)
    (h : DataW.Trod enc Try.prog W 0 (fun _ => true) true 56 v d p) :
    ∃ l : List Int, Seg .i64 W v l ∧ (∀ z ∈ l, -9223372036854775808 ≤ z ∧ z ≤ 9223372036854775807) ∧ (d = .nil ∧ l = [] ∨ ∃ elems spare, d = .slice elems spare ∧ l.length = elems.length) := by
  obtain ⟨a, len, cap, rfl⟩ := okWide_slice Try.underlying56 hval
  obtain ⟨fuel, hf⟩ := h
  rcases open_ints Try.underlying56 Try.underlying3 (by kernel_rfl) hf with ⟨hcs, hx⟩ | ⟨x, l, c, zs, hcs, _, hl, hm, hz, hx, hcell, hwz⟩
  · simp [Value.cells] at hcs
    obtain ⟨rfl, rfl, rfl⟩ := hcs
    simp only [Prod.mk.injEq] at hx
    exact ⟨[], Seg.nil _ _, (fun z hz => by cases hz), .inl ⟨hx.1, rfl⟩⟩
  · simp [Value.cells] at hcs
    obtain ⟨rfl, rfl, rfl⟩ := hcs
    simp only [Prod.mk.injEq] at hx
    simp only [if_true] at hz
    have hlen : (zs.take len).length = len := by rw [List.length_take]; omega
    refine ⟨zs.take len, ⟨some x, cap, by rw [hlen], by rw [hlen]; exact hl, hm, fun h => (by cases h), fun y hy i hi => ?_⟩, fun z hz => ?_, .inr ⟨_, _, hx.1, by simp [lits]⟩⟩
    · cases hy
      rw [hlen] at hi
      rw [hcell i (by omega)]
      simp [List.getD, hi]
    · exact bounds_i64 (hwz z (List.mem_of_mem_take hz))

/-- A slice value that reads as a list of texts. -/
def Texts (w : World) (v : Value) (ls : List (List Int)) : Prop :=
  ∃ (a : Option Addr) (cap : Nat), v = .slice a ls.length cap ∧ ls.length ≤ cap ∧ cap ≤ maxLen ∧ (a = none → ls = [] ∧ cap = 0) ∧
    ∀ x, a = some x → ∀ i, i < ls.length → ∃ u, w.cell? (x.add i) = some u ∧ Seg .u8 w u (ls.getD i [])

theorem Texts.below {w w' : World} {v : Value} {ls : List (List Int)} (h : Texts w v ls) (hb : Below w.heap.size w w') : Texts w' v ls := by
  obtain ⟨a, cap, rfl, h1, h2, h3, h4⟩ := h
  refine ⟨a, cap, rfl, h1, h2, h3, fun x hx i hi => ?_⟩
  obtain ⟨u, hc, hs⟩ := h4 x hx i hi
  exact ⟨u, by rw [hb.cell (World.block_lt_of_cell? w _ hc)]; exact hc, hs.below hb⟩

theorem texts_at {w : World} {a : Option Addr} {cap : Nat} {ls : List (List Int)} (h0 : 0 < ls.length) (h3 : a = none → ls = [] ∧ cap = 0)
    (h4 : ∀ x, a = some x → ∀ i, i < ls.length → ∃ u, w.cell? (x.add i) = some u ∧ Seg .u8 w u (ls.getD i [])) :
    ∃ b off, a = some ⟨b, off, none⟩ ∧ b < w.heap.size ∧ ∀ i, i < ls.length → ∃ u, w.cell? ⟨b, off + i, none⟩ = some u ∧ Seg .u8 w u (ls.getD i []) := by
  rcases a with _ | ⟨b, off, spot⟩
  · have := (h3 rfl).1; subst this; simp at h0
  · obtain ⟨u, hc, _⟩ := h4 _ rfl 0 h0
    have hspot : spot = none := by simpa [Addr.add] using World.cell?_spot hc
    subst hspot
    refine ⟨b, off, rfl, ?_, fun i hi => ?_⟩
    · simpa [Addr.add] using World.block_lt_of_cell? w _ hc
    · have := h4 _ rfl i hi
      rw [add_plain] at this
      exact this

/-- How many octets there are in all, and texts. -/
def total (ls : List (List Int)) : Nat := ls.length + (ls.map List.length).sum

theorem bulkAll_map {H : Type} (n : Nat) (f : Nat → DataW H) (g : Nat → List Int) (h : ∀ i, i < n → (g i).length + 1 ≤ Rows.uptoBulk (f i)) : total ((List.range n).map g) ≤ Rows.uptoBulkAll ((List.range n).map f) := by
  have key : ∀ l : List Nat, (∀ i ∈ l, (g i).length + 1 ≤ Rows.uptoBulk (f i)) → total (l.map g) ≤ Rows.uptoBulkAll (l.map f) := by
    intro l
    induction l with
    | nil => intro _; simp [total]
    | cons x r ih =>
      intro hx
      have h1 := ih (fun i hi => hx i (by simp [hi]))
      have h2 := hx x (by simp)
      simp only [total, List.map_cons, List.length_cons, List.sum_cons, Rows.uptoBulkAll] at h1 ⊢
      omega
  exact key _ (fun i hi => h i (List.mem_range.1 hi))

theorem open_texts {H : Type} {enc : TypeId × Value → H} {W : World} {base : Nat} {v : Value} {d : DataW H} {p : List MemPlace} (hval : Value.okWide Try.prog W .any base 33 v)
    (h : DataW.Trod enc Try.prog W 0 (fun _ => true) true 33 v d p) :
    ∃ ls : List (List Int), Texts W v ls ∧ (∀ l ∈ ls, ∀ z ∈ l, 0 ≤ z ∧ z ≤ 255) ∧ total ls ≤ Rows.uptoBulk d := by
  obtain ⟨a, len, cap, rfl⟩ := okWide_slice Try.underlying33 hval
  obtain ⟨fuel, hf⟩ := h
  rcases Deep.open_int_rows Try.underlying33 Try.underlying22 Try.underlying5 (by kernel_rfl) (by kernel_rfl) hf with ⟨hcs, hx⟩ | ⟨x, l, c, A, L, C, Z, hcs, _, hl, hm, hx, hr⟩
  · simp [Value.cells] at hcs
    obtain ⟨rfl, rfl, rfl⟩ := hcs
    exact ⟨[], ⟨none, 0, rfl, Nat.le_refl _, Nat.zero_le _, fun _ => ⟨rfl, rfl⟩, fun x hx => by cases hx⟩, (fun l hl => by cases hl), by simp [total]⟩
  · simp [Value.cells] at hcs
    obtain ⟨rfl, rfl, rfl⟩ := hcs
    simp only [Prod.mk.injEq] at hx
    refine ⟨(List.range len).map fun r => (Z r).take (L r), ⟨some x, cap, by simp, by simpa using hl, hm, fun h => (by cases h), fun y hy i hi => ?_⟩, fun m hm z hz => ?_, ?_⟩
    · cases hy
      simp at hi
      obtain ⟨g1, g2, g3, g4, g5, g6, g7⟩ := hr i (by omega)
      have hlen : ((Z i).take (L i)).length = L i := by rw [List.length_take]; omega
      refine ⟨_, g1, ?_⟩
      have hget : ((List.range len).map fun r => (Z r).take (L r)).getD i [] = (Z i).take (L i) := by simp [List.getD, hi]
      rw [hget]
      refine ⟨A i, C i, by rw [hlen], by omega, g3, fun e => ?_, fun y hy j hj => ?_⟩
      · have hC := g6 e
        have hZ : Z i = [] := List.length_eq_zero_iff.1 (by omega)
        exact ⟨by rw [hZ]; simp, hC⟩
      · rw [hlen] at hj
        rw [(g7 y hy).2 j (by omega)]
        simp [List.getD, hj]
    · simp only [List.mem_map, List.mem_range] at hm
      obtain ⟨r, hrl, rfl⟩ := hm
      exact bounds_u8 ((hr r (by omega)).2.2.2.2.1 z (List.mem_of_mem_take hz))
    · rw [hx.1]
      refine Nat.le_trans (bulkAll_map (H := H) len (fun r => Deep.intRow .u8 (A r) (L r) (Z r)) _ fun i hi => ?_) ?_
      · obtain ⟨g1, g2, g3, g4, g5, g6, g7⟩ := hr i (by omega)
        unfold Deep.intRow
        cases hA : A i with
        | none =>
          have hC := g6 hA
          have hZ : Z i = [] := List.length_eq_zero_iff.1 (by omega)
          simp [hZ, Rows.uptoBulk]
        | some y =>
          have := bulk_len (H := H) (lits .u8 ((Z i).take (L i)))
          simp only [lits, List.length_map] at this
          simp only [Rows.uptoBulk, lits]
          omega
      · simp only [Rows.uptoBulk]
        omega
end Go.Proofs.Ytlfgnllmomeajaa
