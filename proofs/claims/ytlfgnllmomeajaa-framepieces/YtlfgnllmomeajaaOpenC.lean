/- A buffer that is handed in. -/
import Derived.Test.YtlfgnllmomeajaaOpenB
import Derived.Lib.SmallJoins
namespace Go.Proofs.Ytlfgnllmomeajaa
open Go.ChangeShapes Go.WideShapes Go.ChangeAt Go.RowKit

theorem open_buffer {H : Type} {enc : TypeId × Value → H} {W : World} {base : Nat} {v : Value} {d : DataW H} {p : List MemPlace} (hval : Value.okWide Try.prog W .any base 44 v)
    (h : DataW.Trod enc Try.prog W 0 (fun _ => true) true 44 v d p) :
    ∃ (hv : Value) (held : List Int) (lost : Bool), v = .agg #[hv, .bool lost] ∧ Seg .u8 W hv held ∧ (∀ z ∈ held, 0 ≤ z ∧ z ≤ 255) ∧ held.length ≤ Rows.uptoBulk d := by
  obtain ⟨v0, v1, y0, y1, n, rfl, rfl, rfl, hy0, hy1⟩ := Joins.open_agg2 Try.underlying44 (by kernel_rfl) (by kernel_rfl) hval h
  obtain ⟨lost, hb, hx⟩ := DataW.trod_bool Try.underlying4 hy1
  simp only [List.cons.injEq, and_true] at hb
  subst hb
  subst hx
  rcases open_ints Try.underlying22 Try.underlying5 (by kernel_rfl) hy0 with ⟨hcs, hx⟩ | ⟨x, len, cap, zs, hcs, _, hl, hm, hz, hx, hcell, hwz⟩
  · simp only [List.cons.injEq, and_true] at hcs
    subst hcs
    exact ⟨_, [], lost, rfl, Seg.nil _ _, (fun z hz => by cases hz), by simp⟩
  · simp only [List.cons.injEq, and_true] at hcs
    subst hcs
    simp only [if_true] at hz
    have hlen : (zs.take len).length = len := by rw [List.length_take]; omega
    refine ⟨_, zs.take len, lost, rfl, ⟨some x, cap, by rw [hlen], by rw [hlen]; exact hl, hm, fun h => (by cases h), fun y hy i hi => ?_⟩, fun z hz => ?_, ?_⟩
    · cases hy
      rw [hlen] at hi
      rw [hcell i (by omega)]
      simp [List.getD, hi]
    · exact bounds_u8 (hwz z (List.mem_of_mem_take hz))
    · rw [hx]
      have := bulk_len (H := H) (lits .u8 (zs.take len))
      simp only [lits, List.length_map] at this
      simp only [Rows.uptoBulk, Rows.uptoBulkAll, lits]
      omega
end Go.Proofs.Ytlfgnllmomeajaa
