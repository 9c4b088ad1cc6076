/- . -/
import Derived.Test.YtcjopphefmogiaaHC
import Derived.Laws.NewBlocks
namespace Go.Proofs.Ytcjopphefmogiaa
open Go.RowKit
set_option maxRecDepth 20000

theorem seg_new (w : World) (l : List Int) (t : TypeId) (h : l.length ≤ 1000) : Seg .i64 (w.alloc (.cells (l.map (Value.int .i64)).toArray t)) (.slice (some ⟨w.heap.size, 0, none⟩) l.length l.length) l := by
  refine ⟨some ⟨w.heap.size, 0, none⟩, l.length, rfl, Nat.le_refl _, by unfold maxLen; omega, fun h => (by cases h), fun x hx i hi => ?_⟩
  cases hx
  rw [add_plain, World.cell?_alloc_at _ _ _ _ rfl]
  simp [hi, List.getD]

theorem Hp.add_seed {s o : Nat} (a : Int) (hs : s < 18446744073709551616) (ho : o < 18446744073709551616) : Hp.add s a = Hp.add o a ↔ s = o := by
  unfold Hp.add; omega
theorem Hp.add_num (s : Nat) {a b : Int} (a1 : -9223372036854775808 ≤ a) (a2 : a ≤ 9223372036854775807) (b1 : -9223372036854775808 ≤ b) (b2 : b ≤ 9223372036854775807) : Hp.add s a = Hp.add s b ↔ a = b := by
  unfold Hp.add; omega
theorem Below.step {a b c : World} (h : Below a.heap.size a b) (k : Below b.heap.size b c) : Below a.heap.size a c := h.trans (k.mono h.size)
end Go.Proofs.Ytcjopphefmogiaa
