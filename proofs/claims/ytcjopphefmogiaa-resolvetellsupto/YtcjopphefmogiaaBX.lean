/- Boxes of one's own; what changes but one box. -/
import Derived.Test.YtcjopphefmogiaaDC
import Derived.WalkLawsBesides
namespace Go.Proofs.Ytcjopphefmogiaa
open Go.RowKit
set_option maxRecDepth 20000

/-- A block of one's own that holds these cells. -/
def Bo (w : World) (b : Nat) (cs : List Value) (T : TypeId) : Prop := w.heap[b]? = some (.cells cs.toArray T (0, 0))
theorem Bo.lt {w : World} {b : Nat} {cs : List Value} {T : TypeId} (h : Bo w b cs T) : b < w.heap.size := by
  rcases Nat.lt_or_ge b w.heap.size with hlt | hge
  · exact hlt
  · unfold Bo at h; rw [Array.getElem?_eq_none hge] at h; cases h
theorem Bo.cell {w : World} {b : Nat} {cs : List Value} {T : TypeId} (h : Bo w b cs T) (k : Nat) {u : Value} (hu : cs[k]? = some u) : w.cell? ⟨b, k, none⟩ = some u := by
  rw [cell_of_row w b k _ T (0, 0) h]
  simpa using hu
theorem Bo.frozen {w : World} {b : Nat} {cs : List Value} {T : TypeId} (h : Bo w b cs T) (k : Nat) : w.frozen? ⟨b, k, none⟩ = false := frozen_of_row w b k _ T h
theorem Bo.below {w w' : World} {b : Nat} {cs : List Value} {T : TypeId} (h : Bo w b cs T) (hb : Below w.heap.size w w') : Bo w' b cs T := (hb.block b h.lt).trans h
theorem Bo.new (w : World) (cs : List Value) (T : TypeId) : Bo (w.alloc (.cells cs.toArray T)) w.heap.size cs T := heap_alloc_new w _
theorem Bo.alloc {w : World} {b : Nat} {cs : List Value} {T : TypeId} (h : Bo w b cs T) (o : Obj) : Bo (w.alloc o) b cs T := h.below ((Below.refl _ w).alloc (Nat.le_refl _) o)
theorem Bo.drew {w : World} {b : Nat} {cs : List Value} {T : TypeId} (h : Bo w b cs T) : Bo w.drew b cs T := h
theorem Bo.drewN {w : World} {b : Nat} {cs : List Value} {T : TypeId} (h : Bo w b cs T) (m : Nat) : Bo (w.drewN m) b cs T := h
theorem Bo.set {w : World} {b : Nat} {cs : List Value} {T : TypeId} (h : Bo w b cs T) (k : Nat) (u : Value) : Bo (w.setCell ⟨b, k, none⟩ u) b (cs.set k u) T := by
  unfold Bo at h ⊢
  rw [heap_setCell_same w b k _ T _ h]
  simp
theorem Bo.other {w : World} {b : Nat} {cs : List Value} {T : TypeId} (h : Bo w b cs T) {c k : Nat} (hc : b ≠ c) (u : Value) : Bo (w.setCell ⟨c, k, none⟩ u) b cs T :=
  (heap_setCell_other w ⟨c, k, none⟩ b u hc).trans h

/-- Of what was there only block b may have turned. -/
structure Cg (b : Nat) (w w' : World) : Prop where
  os : w'.os = w.os
  tape : w'.tape = w.tape
  output : w'.output = w.output
  size : w.heap.size ≤ w'.heap.size
  block : ∀ g, g < w.heap.size → g ≠ b → w'.heap[g]? = w.heap[g]?
theorem Cg.refl (b : Nat) (w : World) : Cg b w w := ⟨rfl, rfl, rfl, Nat.le_refl _, fun _ _ _ => rfl⟩
theorem Cg.trans {b : Nat} {u v w : World} (h : Cg b u v) (k : Cg b v w) : Cg b u w :=
  ⟨k.os.trans h.os, k.tape.trans h.tape, k.output.trans h.output, Nat.le_trans h.size k.size, fun g hg hx => (k.block g (Nat.lt_of_lt_of_le hg h.size) hx).trans (h.block g hg hx)⟩
theorem Cg.of_below {b : Nat} {w w' : World} (h : Below w.heap.size w w') : Cg b w w' := ⟨h.os, h.tape, h.output, h.size, fun g hg _ => h.block g hg⟩
theorem Cg.set {b : Nat} (w : World) (k : Nat) (u : Value) : Cg b w (w.setCell ⟨b, k, none⟩ u) :=
  ⟨rfl, rfl, rfl, by simp, fun g _ hx => heap_setCell_other w ⟨b, k, none⟩ g u hx⟩
theorem Cg.alloc {b : Nat} (w : World) (o : Obj) : Cg b w (w.alloc o) := Cg.of_below ((Below.refl _ w).alloc (Nat.le_refl _) o)
theorem Cg.drewN {b : Nat} (w : World) (m : Nat) : Cg b w (w.drewN m) := ⟨rfl, rfl, rfl, Nat.le_refl _, fun _ _ _ => rfl⟩
/-- What lies below the box is as it was. -/
theorem Cg.below {b B : Nat} {w w' u : World} (h : Cg b w w') (hb : B ≤ b) (hB : B ≤ w.heap.size) (hu : Below B u w) : Below B u w' :=
  ⟨h.os.trans hu.os, h.tape.trans hu.tape, h.output.trans hu.output, Nat.le_trans hu.size h.size, fun k hk => (h.block k (by omega) (by omega)).trans (hu.block k hk)⟩
/-- Two boxes. -/
theorem two_boxes (w : World) (xs ys : List Value) (S T : TypeId) : ∃ W0, W0 = (w.alloc (.cells xs.toArray S)).alloc (.cells ys.toArray T) ∧ Bo W0 w.heap.size xs S ∧ Bo W0 (w.heap.size + 1) ys T ∧ Below w.heap.size w W0 ∧ W0.heap.size = w.heap.size + 2 := by
  refine ⟨_, rfl, (Bo.new w xs S).alloc _, ?_, ((Below.refl _ _).alloc (Nat.le_refl _) _).alloc (by simp) _, by simp⟩
  have := Bo.new (w.alloc (.cells xs.toArray S)) ys T
  simpa using this
theorem three_boxes (w : World) (xs ys zs : List Value) (S T U : TypeId) : ∃ W0, W0 = ((w.alloc (.cells xs.toArray S)).alloc (.cells ys.toArray T)).alloc (.cells zs.toArray U) ∧ Bo W0 w.heap.size xs S ∧ Bo W0 (w.heap.size + 1) ys T ∧ Bo W0 (w.heap.size + 1 + 1) zs U ∧ Below w.heap.size w W0 ∧ W0.heap.size = w.heap.size + 3 := by
  obtain ⟨W1, rfl, h1, h2, h3, h4⟩ := two_boxes w xs ys S T
  refine ⟨_, rfl, h1.alloc _, h2.alloc _, ?_, h3.alloc (by rw [h4]; omega) _, by rw [World.size_alloc, h4]⟩
  have := Bo.new ((w.alloc (.cells xs.toArray S)).alloc (.cells ys.toArray T)) zs U
  rw [h4] at this
  exact this
theorem Below.next {B : Nat} {a b c : World} (h : Below B a b) (hB : B ≤ b.heap.size) (k : Below b.heap.size b c) : Below B a c :=
  ⟨k.os.trans h.os, k.tape.trans h.tape, k.output.trans h.output, Nat.le_trans h.size k.size, fun g hg => (k.block g (by omega)).trans (h.block g hg)⟩
theorem Cg.bo {b c : Nat} {w w' : World} {cs : List Value} {T : TypeId} (h : Cg b w w') (hc : c ≠ b) (hx : Bo w c cs T) : Bo w' c cs T := (h.block c hx.lt hc).trans hx
end Go.Proofs.Ytcjopphefmogiaa
