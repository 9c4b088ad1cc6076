/- Contracts of Sum and alive. -/
import Derived.Test.YtjeegcfdhoiplaaCrcA
import Derived.Lib.SlBytesConst
namespace Go.Proofs.Ytjeegcfdhoiplaa
open Go.RowKit

def Pl.sumOf (l : List Int) : Nat := 4294967295 ^^^ Pl.run 4294967295 l
def Pl.moreOf (c : Nat) (l : List Int) : Nat := 4294967295 ^^^ Pl.run (4294967295 ^^^ c) l
theorem Pl.moreOf_lt {c : Nat} {l : List Int} (hc : c < 4294967296) (h : Pl.Octs l) : Pl.moreOf c l < 4294967296 := Pl.xlt (by decide) (Pl.run_lt (Pl.xlt (by decide) hc) h)
theorem Pl.sumOf_lt {l : List Int} (h : Pl.Octs l) : Pl.sumOf l < 4294967296 := Pl.xlt (by decide) (Pl.run_lt (by decide) h)
theorem Pl.sumOf_nil : Pl.sumOf [] = 0 := by decide
theorem Pl.moreOf_sum (l m : List Int) : Pl.moreOf (Pl.sumOf l) m = Pl.sumOf (l ++ m) := by
  unfold Pl.moreOf Pl.sumOf
  rw [Pl.xx, Pl.run_app]

/-- A slice of texts. -/
def Segs (w : World) (v : Value) (ls : List (List Int)) : Prop :=
  ∃ (b off cap : Nat), v = .slice (some ⟨b, off, none⟩) ls.length cap ∧ ls.length ≤ cap ∧ cap ≤ maxLen ∧
    ∀ i, i < ls.length → ∃ u, w.cell? ⟨b, off + i, none⟩ = some u ∧ Seg .u8 w u (ls.getD i [])

theorem Segs.one {w : World} {v : Value} {l : List Int} (e : TypeId) (h : Seg .u8 w v l) : Segs (w.alloc (.cells #[v] e)) (.slice (some ⟨w.heap.size, 0, none⟩) 1 1) [l] := by
  refine ⟨w.heap.size, 0, 1, rfl, Nat.le_refl _, by unfold maxLen; omega, fun i hi => ⟨v, ?_, ?_⟩⟩
  · simp at hi
    subst hi
    simp
  · simp at hi
    subst hi
    exact h.below ((Below.refl _ _).alloc (Nat.le_refl _) _)
theorem Segs.two {w : World} {v u : Value} {l m : List Int} (e : TypeId) (h : Seg .u8 w v l) (k : Seg .u8 w u m) : Segs (w.alloc (.cells #[v, u] e)) (.slice (some ⟨w.heap.size, 0, none⟩) 2 2) [l, m] := by
  have hb : Below w.heap.size w (w.alloc (.cells #[v, u] e)) := (Below.refl _ _).alloc (Nat.le_refl _) _
  refine ⟨w.heap.size, 0, 2, rfl, Nat.le_refl _, by unfold maxLen; omega, fun i hi => ?_⟩
  simp at hi
  match i, hi with
  | 0, _ => exact ⟨v, by simp, h.below hb⟩
  | 1, _ => exact ⟨u, by simp, k.below hb⟩

theorem seg_new {w : World} {l : List Int} (e : TypeId) (f : Nat × Nat) (hl : l.length ≤ 65536) : Seg .u8 (w.alloc (.cells (u8s l).toArray e f)) (.slice (some ⟨w.heap.size, 0, none⟩) l.length l.length) l := by
  refine ⟨some ⟨w.heap.size, 0, none⟩, l.length, rfl, Nat.le_refl _, by unfold maxLen; omega, fun h => (by cases h), fun x hx i hi => ?_⟩
  cases hx
  rw [add_plain]
  unfold World.cell? World.alloc
  simp [hi]

def nine : List Int := [49, 50, 51, 52, 53, 54, 55, 56, 57]
theorem octs_nine : Pl.Octs nine := by
  intro z hz
  simp [nine] at hz
  omega
theorem sum_nine : Pl.sumOf nine = 3421780262 := by decide +kernel

end Go.Proofs.Ytjeegcfdhoiplaa
