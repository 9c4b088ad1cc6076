/- parse: what a step leaves as it was; a place on its way through tokens. -/
import Derived.Test.YtmiohekmpjiloaaGreatDoorCutPut09
import Derived.WalkLawsBesides
namespace Go.Proofs.YtmiohekmpjiloaaGreatDoor
open Go.RowKit
set_option maxRecDepth 20000

/-- Of what was there only blocks of which X speaks (number, type) have turned. -/
structure Ch (X : Nat → TypeId → Prop) (w w' : World) : Prop where
  os : w'.os = w.os
  tape : w'.tape = w.tape
  output : w'.output = w.output
  size : w.heap.size ≤ w'.heap.size
  block : ∀ g o, w.heap[g]? = some o → (∀ cs T r, o = .cells cs T r → ¬ X g T) → w'.heap[g]? = some o

theorem Ch.refl (X : Nat → TypeId → Prop) (w : World) : Ch X w w := ⟨rfl, rfl, rfl, Nat.le_refl _, fun _ _ h _ => h⟩
theorem Ch.trans {X : Nat → TypeId → Prop} {a b c : World} (h : Ch X a b) (k : Ch X b c) : Ch X a c :=
  ⟨k.os.trans h.os, k.tape.trans h.tape, k.output.trans h.output, Nat.le_trans h.size k.size, fun g o ho hx => k.block g o (h.block g o ho hx) hx⟩
theorem Ch.mono {X Y : Nat → TypeId → Prop} {w w' : World} (h : Ch X w w') (hXY : ∀ g T, X g T → Y g T) : Ch Y w w' :=
  ⟨h.os, h.tape, h.output, h.size, fun g o ho hx => h.block g o ho (fun cs T r e hX => hx cs T r e (hXY g T hX))⟩
theorem lt_of_some {w : World} {g : Nat} {o : Obj} (h : w.heap[g]? = some o) : g < w.heap.size := by
  rcases Nat.lt_or_ge g w.heap.size with hlt | hge
  · exact hlt
  · rw [Array.getElem?_eq_none hge] at h; cases h
theorem Ch.below {X : Nat → TypeId → Prop} {w w' : World} (h : Below w.heap.size w w') : Ch X w w' :=
  ⟨h.os, h.tape, h.output, h.size, fun g _ ho _ => (h.block g (lt_of_some ho)).trans ho⟩
theorem Ch.grown {X : Nat → TypeId → Prop} {w w' : World} {row : Option Nat} (h : w.grownBy w' row) (hx : ∀ g cs T r, row = some g → w.heap[g]? = some (.cells cs T r) → X g T) (hno : ∀ g o, row = some g → w.heap[g]? = some o → ∃ cs T r, o = .cells cs T r) : Ch X w w' :=
  ⟨h.os, h.tape, h.output, h.size, fun g o ho hn => by
    by_cases hr : some g = row
    · obtain ⟨cs, T, r, rfl⟩ := hno g o hr.symm ho
      exact absurd (hx g cs T r hr.symm ho) (hn cs T r rfl)
    · exact (h.block g (lt_of_some ho) hr).trans ho⟩
theorem Ch.set {X : Nat → TypeId → Prop} {w : World} {b k : Nat} {cs : Array Value} {T : TypeId} {r : Nat × Nat} (hb : w.heap[b]? = some (.cells cs T r)) (hx : X b T) (u : Value) : Ch X w (w.setCell ⟨b, k, none⟩ u) :=
  ⟨rfl, rfl, rfl, by simp, fun g o ho hn => by
    by_cases hg : g = b
    · subst hg
      rw [hb] at ho
      cases ho
      exact absurd hx (hn _ _ _ rfl)
    · exact (heap_setCell_other w ⟨b, k, none⟩ g u hg).trans ho⟩
theorem Ch.alloc {X : Nat → TypeId → Prop} (w : World) (o : Obj) : Ch X w (w.alloc o) := Ch.below ((Below.refl _ w).alloc (Nat.le_refl _) o)
theorem Ch.drewN {X : Nat → TypeId → Prop} (w : World) (m : Nat) : Ch X w (w.drewN m) := Ch.below (below_drewN (Below.refl _ _) m)

/-- A block of one's own that holds these cells. -/
def Bx (w : World) (b : Nat) (cs : List Value) (T : TypeId) : Prop := w.heap[b]? = some (.cells ⟨cs⟩ T (0, 0))
theorem Bx.ch {X : Nat → TypeId → Prop} {w w' : World} {b : Nat} {cs : List Value} {T : TypeId} (h : Bx w b cs T) (hc : Ch X w w') (hx : ¬ X b T) : Bx w' b cs T :=
  hc.block b _ h (fun _ _ _ e => by cases e; exact hx)
theorem Bx.cell {w : World} {b : Nat} {cs : List Value} {T : TypeId} (h : Bx w b cs T) (k : Nat) {u : Value} (hu : cs[k]? = some u) : w.cell? ⟨b, k, none⟩ = some u := by
  rw [cell_of_row w b k _ T (0, 0) h]
  simpa using hu
theorem Bx.frozen {w : World} {b : Nat} {cs : List Value} {T : TypeId} (h : Bx w b cs T) (k : Nat) : w.frozen? ⟨b, k, none⟩ = false := frozen_of_row w b k _ T h
theorem Bx.lt {w : World} {b : Nat} {cs : List Value} {T : TypeId} (h : Bx w b cs T) : b < w.heap.size := lt_of_some h
theorem Bx.below {w w' : World} {b : Nat} {cs : List Value} {T : TypeId} (h : Bx w b cs T) (hb : Below w.heap.size w w') : Bx w' b cs T := (hb.block b h.lt).trans h
theorem Bx.new (w : World) (cs : List Value) (T : TypeId) : Bx (w.alloc (.cells ⟨cs⟩ T)) w.heap.size cs T := heap_alloc_new w _
theorem Bx.alloc {w : World} {b : Nat} {cs : List Value} {T : TypeId} (h : Bx w b cs T) (o : Obj) : Bx (w.alloc o) b cs T := h.below ((Below.refl _ w).alloc (Nat.le_refl _) o)
theorem Bx.set {w : World} {b : Nat} {cs : List Value} {T : TypeId} (h : Bx w b cs T) (k : Nat) (u : Value) : Bx (w.setCell ⟨b, k, none⟩ u) b (cs.set k u) T := by
  unfold Bx at h ⊢
  rw [heap_setCell_same w b k _ T _ h]
  simp
theorem Bx.other {w : World} {b : Nat} {cs : List Value} {T : TypeId} (h : Bx w b cs T) {c k : Nat} (hc : b ≠ c) (u : Value) : Bx (w.setCell ⟨c, k, none⟩ u) b cs T :=
  (heap_setCell_other w ⟨c, k, none⟩ b u hc).trans h

/-- A token as a value; its kind and text. -/
def tokV (t : T3) : Value := .agg #[.int .i64 (t.1 : Int), .string t.2.1, .int .i64 (t.2.2 : Int)]
def kt3 (t : T3) : Pl.Kt := (t.1, bl t.2.1)

/-- The error that a fault panics with. -/
def fault (line : Int) (e : Int) : List PanicEntry := [{ v := .iface 150 (.agg #[.int .i64 line, .int .i64 e]), recovered := false }]

end Go.Proofs.YtmiohekmpjiloaaGreatDoor

