/- frame: Feed. -/
import Derived.Test.YtlfgnllmomeajaaFK
import Derived.Test.YtlfgnllmomeajaaFI
namespace Go.Proofs.Ytlfgnllmomeajaa
open Go.RowKit

theorem ret_box21 {W : World} {tmps : Array Value} {b : Nat} {x y p f : Value} (ht : tmps.getD 4 undef = .pointer (some ⟨b, 0, none⟩)) (h5 : tmps.getD 5 undef = p) (h6 : tmps.getD 6 undef = f) (h0 : W.cell? ⟨b, 0, none⟩ = some x) (h1 : W.cell? ⟨b, 1, none⟩ = some y) :
    (results Try.f21 tmps).run Try.prog W = .ok (.tuple #[.agg #[x, y], p, f]) W := by
  rw [Array.getD_eq_getD_getElem?] at ht h5 h6
  simp [results, Try.results21]
  go_simp

/-- Two boxes of a buffer: what was handed over, and what is told. -/
def Boxes (m : Nat) (w : World) (hv : Value) (lost : Bool) : Prop :=
  w.heap[m]? = some (.cells #[hv, .bool lost] 45 (0, 0)) ∧ w.heap[m + 1]? = some (.cells #[.slice none 0 0, .bool false] 45 (0, 0))
theorem Boxes.new (w : World) (hv : Value) (lost : Bool) : Boxes w.heap.size ((w.alloc (.cells #[hv, .bool lost] 45)).alloc (.cells #[.slice none 0 0, .bool false] 45)) hv lost := by
  refine ⟨?_, ?_⟩
  · rw [heap_alloc_old _ _ (by simp)]
    exact heap_alloc_new _ _
  · have := heap_alloc_new (w.alloc (.cells #[hv, .bool lost] 45)) (.cells #[.slice none 0 0, .bool false] 45)
    simpa using this
theorem Boxes.facts {m : Nat} {w : World} {hv : Value} {lost : Bool} (h : Boxes m w hv lost) :
    w.cell? ⟨m, 0, none⟩ = some hv ∧ w.cell? ⟨m, 1, none⟩ = some (.bool lost) ∧ w.cell? ⟨m + 1, 0, none⟩ = some (.slice none 0 0) ∧ w.cell? ⟨m + 1, 1, none⟩ = some (.bool false) ∧ w.frozen? ⟨m + 1, 0, none⟩ = false ∧ w.frozen? ⟨m + 1, 1, none⟩ = false := by
  obtain ⟨h0, h1⟩ := h
  exact ⟨by rw [cell_of_row w m 0 _ 45 (0, 0) h0]; rfl, by rw [cell_of_row w m 1 _ 45 (0, 0) h0]; rfl, by rw [cell_of_row w (m + 1) 0 _ 45 (0, 0) h1]; rfl, by rw [cell_of_row w (m + 1) 1 _ 45 (0, 0) h1]; rfl, frozen_of_row w _ 0 _ 45 h1, frozen_of_row w _ 1 _ 45 h1⟩
theorem Boxes.below {m : Nat} {w w' : World} {hv : Value} {lost : Bool} (h : Boxes m w hv lost) (hb : Below (m + 2) w w') : Boxes m w' hv lost :=
  ⟨(hb.block m (by omega)).trans h.1, (hb.block (m + 1) (by omega)).trans h.2⟩

set_option maxHeartbeats 2000000 in
set_option maxRecDepth 4000 in
theorem ffeed_bad (hv u : Value) (held : List Int) (lost : Bool) (w : World) (hs : Seg .u8 w hv held) (ho : Pl.Octs held) (hbad : Pl.checkF held lost ≠ 0) :
    Calls Try.prog 21 #[.agg #[hv, .bool lost], u] w fun e w' => e = .returned (.tuple #[.agg #[.slice none 0 0, .bool false], .slice none 0 0, .int .i64 (Pl.checkF held lost)]) ∧ Below w.heap.size w w' := by
  obtain ⟨a, c, n, hvs, hn⟩ : ∃ a c n, hv = .slice a n c ∧ n = held.length := by
    obtain ⟨a, c, h, _⟩ := id hs
    exact ⟨a, c, _, h, rfl⟩
  clear hn
  subst hvs
  have hchk := fun (wa : World) (hb : Below w.heap.size w wa) => fcheck_any _ held lost wa (hs.below hb) ho
  generalize Pl.checkF held lost = er at *
  have hbe : (er == 0) = false := by simp; exact hbad
  go_enter Try.func21, Try.ntmps21
  go_wp2_with fail
  have hB := Boxes.new w (.slice a n c) lost
  have hal : Below w.heap.size w ((w.alloc (.cells #[.slice a n c, .bool lost] 45)).alloc (.cells #[.slice none 0 0, .bool false] 45)) := ((Below.refl _ _).alloc (Nat.le_refl _) _).alloc (by simp) _
  have hsz : ((w.alloc (.cells #[.slice a n c, .bool lost] 45)).alloc (.cells #[.slice none 0 0, .bool false] 45)).heap.size = w.heap.size + 2 := by simp
  generalize (w.alloc (.cells #[.slice a n c, .bool lost] 45)).alloc (.cells #[.slice none 0 0, .bool false] 45) = wa at *
  refine (hchk wa hal).mono ?_
  rintro e w2 ⟨rfl, hb2⟩
  rw [hsz] at hb2
  obtain ⟨c0, c1, c2, c3, f0, f1⟩ := (hB.below hb2).facts
  go_wp2_with fail
  have hcc := two_cells (x := .slice none 0 0) (y := .bool false) c2 c3
  refine bodyPost_ret (ret_box21 rfl rfl rfl hcc.1 hcc.2) rfl ?_
  exact ⟨rfl, ((hal.trans (hb2.mono (by omega))).setCell (Nat.le_succ _) _).setCell (Nat.le_succ _) _⟩
end Go.Proofs.Ytlfgnllmomeajaa
