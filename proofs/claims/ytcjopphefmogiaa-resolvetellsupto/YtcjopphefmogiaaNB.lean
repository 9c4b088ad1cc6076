/- Small change: worlds one behind the other, sums that do not come round, ints in rows of one's own. -/
import Derived.Test.YtcjopphefmogiaaDC
import Derived.Test.YtcjopphefmogiaaHD
import Derived.Test.YtcjopphefmogiaaBX
import Derived.BigQuiet
import Derived.Deep.QuietTactic
import Derived.Deep.DeepCutAuto
namespace Go.Proofs.Ytcjopphefmogiaa
open Go.RowKit
set_option linter.unusedVariables false
set_option maxRecDepth 20000

theorem below_on {B : Nat} {a b c : World} (h : Below B a b) (hB : B ≤ b.heap.size) (k : Below b.heap.size b c) : Below B a c :=
  ⟨k.os.trans h.os, k.tape.trans h.tape, k.output.trans h.output, Nat.le_trans h.size k.size, fun g hg => (k.block g (by omega)).trans (h.block g hg)⟩
theorem below_drewN {B : Nat} {w w' : World} (h : Below B w w') (m : Nat) : Below B w (w'.drewN m) := ⟨h.os, h.tape, h.output, h.size, h.block⟩
theorem below_low {B C : Nat} {w w' : World} (h : Below B w w') (hC : C ≤ B) : Below C w w' := ⟨h.os, h.tape, h.output, h.size, fun g hg => h.block g (by omega)⟩
theorem below_then {B : Nat} {a b c : World} (h : Below B a b) (k : Below B b c) : Below B a c :=
  ⟨k.os.trans h.os, k.tape.trans h.tape, k.output.trans h.output, Nat.le_trans h.size k.size, fun g hg => (k.block g hg).trans (h.block g hg)⟩
theorem Bo.under {w w' : World} {B b : Nat} {cs : List Value} {T : TypeId} (h : Bo w b cs T) (hb : Below B w w') (hB : b < B) : Bo w' b cs T := (hb.block b hB).trans h
theorem wrap_ok {x : Int} (h1 : -9000000000000000000 ≤ x) (h2 : x ≤ 9000000000000000000) : IntKind.i64.wrap x = x := by
  rw [IntKind.wrap_i64]; omega
theorem mul_range {a b x y : Int} (h0 : 0 ≤ a) (h1 : a ≤ x) (h2 : 0 ≤ b) (h3 : b ≤ y) : 0 ≤ a * b ∧ a * b ≤ x * y :=
  ⟨Int.mul_nonneg h0 h2, Int.mul_le_mul h1 h3 h2 (by omega)⟩
theorem Seg.under {k : IntKind} {w w' : World} {B : Nat} {v : Value} {l : List Int} (h : Seg k w v l) (hb : Below w.heap.size w w') : Seg k w' v l := h.below hb

theorem made_zeros (n : Nat) : (madeCells (Value.cells (.int .i64 0)) (n * 1)).toList = i64s (List.replicate n 0) := by
  apply List.ext_getElem
  · simp [madeCells, Value.cells]
  · intro i h1 h2
    simp [madeCells, Value.cells, Nat.mod_one]
theorem bo_of_row {W : World} {B g n : Nat} {T : TypeId} {xs : List Value} (h : W.ownsRow B T 1 (.slice (some ⟨g, 0, none⟩) n n) n xs) : Bo W g xs T := by
  rcases h.2 with ⟨h1, _⟩ | ⟨g2, cap, cur, h1, _, hb, _, _, hs, ht⟩
  · cases h1
  · cases h1
    have : xs = cur.toList := by
      rw [← ht, List.take_of_length_le]
      rw [Array.length_toList, hs]
      exact Nat.le_refl _
    subst this
    unfold Bo
    simpa using hb
theorem Try.infoI : (Try.prog.info? 3).map (fun i => (i.zero, i.size, i.bytes)) = some (some (.int .i64 0), 1, 8) := by kernel_rfl
/-- So many ints are made. -/
theorem made_ints (w : World) (n : Nat) (hn : n ≤ 1048576) : ∃ w2, Sem.run Try.prog (Instr.makeSlice 25 (.int .i64 n) (.int .i64 n)) w = Result.ok (.slice (some ⟨w.heap.size, 0, none⟩) n n) w2 ∧ Bo w2 w.heap.size (i64s (List.replicate n 0)) 3 ∧ Below w.heap.size w w2 := by
  obtain ⟨i0, hi, hz0, hz1, hz2⟩ := info_parts Try.infoI
  obtain ⟨w2, hmk, hown, hg2⟩ := run_make_full (P := Try.prog) w w.heap.size 25 3 i0 (.int .i64 0) 1 Try.underlying25 hi hz0 hz1 .i64 .i64 n (by rw [hz2]; omega) (by unfold maxLen; omega) (Nat.le_refl _)
  rw [made_zeros] at hown
  exact ⟨w2, hmk, bo_of_row hown, (Below.refl _ _).grown hg2 (Nat.le_refl _) (fun k e => by cases e)⟩
theorem seg_bo {w : World} {b : Nat} {l : List Int} {T : TypeId} (h : Bo w b (i64s l) T) (hl : l.length ≤ 1048576) : Seg .i64 w (.slice (some ⟨b, 0, none⟩) l.length l.length) l := by
  refine ⟨some ⟨b, 0, none⟩, l.length, rfl, Nat.le_refl _, by unfold maxLen; omega, fun h => (by cases h), fun x hx i hi => ?_⟩
  cases hx
  rw [add_plain, Nat.zero_add, h.cell i (u := .int .i64 (l.getD i 0)) (by simp [i64s, hi, List.getD])]
theorem bo_int {w : World} {b : Nat} {l : List Int} {T : TypeId} (h : Bo w b (i64s l) T) (k : Nat) (hk : k < l.length) : w.cell? ⟨b, k, none⟩ = some (.int .i64 (l.getD k 0)) :=
  h.cell k (by simp [i64s, hk, List.getD])
theorem bo_put {w : World} {b : Nat} {l : List Int} {T : TypeId} (h : Bo w b (i64s l) T) (k : Nat) (x : Int) : Bo (w.setCell ⟨b, k, none⟩ (.int .i64 x)) b (i64s (l.set k x)) T := by
  have := h.set k (.int .i64 x)
  unfold i64s at this ⊢
  rw [List.map_set]
  exact this
/-- One that stands in a row. -/
theorem Seg.atE {w : World} {a : Option Addr} {n cap : Nat} {l : List Int} (hs : Seg .i64 w (.slice a n cap) l) (k : Nat) (hk : k < l.length) :
    ∃ b off, a = some ⟨b, off, none⟩ ∧ b < w.heap.size ∧ w.cell? ⟨b, off + k, none⟩ = some (.int .i64 (l.getD k 0)) := by
  obtain ⟨a', c', he, _, _, h3, h4⟩ := hs
  injection he with he1 he2 he3
  subst he1 he3
  obtain ⟨b, off, rfl, hb, hcell⟩ := seg_at (by omega) h3 h4
  exact ⟨b, off, rfl, hb, hcell k hk⟩
end Go.Proofs.Ytcjopphefmogiaa
