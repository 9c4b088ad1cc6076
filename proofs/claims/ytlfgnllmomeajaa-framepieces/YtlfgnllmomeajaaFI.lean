/- frame: alone. -/
import Derived.Test.YtlfgnllmomeajaaFH
import Derived.Handy
namespace Go.Proofs.Ytlfgnllmomeajaa
open Go.RowKit

theorem own_shape {w : World} {B : Nat} {e : TypeId} {v : Value} {n : Nat} {xs : List Value} (h : w.ownsRow B e 1 v n xs) : ∃ a c, v = .slice a n c := by
  rcases h.2 with ⟨rfl, rfl⟩ | ⟨g, cap, cur, rfl, _⟩
  · exact ⟨none, 0, rfl⟩
  · exact ⟨_, cap, rfl⟩

theorem ret_box37 {W : World} {tmps : Array Value} {b : Nat} {x y : Value} (ht : tmps.getD 2 undef = .pointer (some ⟨b, 0, none⟩)) (h0 : W.cell? ⟨b, 0, none⟩ = some x) (h1 : W.cell? ⟨b, 1, none⟩ = some y) :
    (results Try.f37 tmps).run Try.prog W = .ok (.agg #[x, y]) W := by
  rw [Array.getD_eq_getD_getElem?] at ht
  simp [results, Try.results37]
  go_simp
theorem two_cells {w : World} {b : Nat} {x y u v : Value} (h0 : w.cell? ⟨b, 0, none⟩ = some u) (h1 : w.cell? ⟨b, 1, none⟩ = some v) :
    ((w.setCell ⟨b, 0, none⟩ x).setCell ⟨b, 1, none⟩ y).cell? ⟨b, 0, none⟩ = some x ∧ ((w.setCell ⟨b, 0, none⟩ x).setCell ⟨b, 1, none⟩ y).cell? ⟨b, 1, none⟩ = some y := by
  constructor
  · go_simp
  · go_simp

set_option maxHeartbeats 2000000 in
set_option maxRecDepth 4000 in
theorem alone_any (n off : Nat) (hv : Value) (held : List Int) (lost : Bool) (w : World) (hc0 : w.cell? ⟨n, off, none⟩ = some hv) (hc1 : w.cell? ⟨n, off + 1, none⟩ = some (.bool lost)) (hs : Seg .u8 w hv held) (hlen : held.length ≤ 140737488355328) :
    Calls Try.prog 37 #[.pointer (some ⟨n, off, none⟩)] w fun e w' => ∃ v', e = .returned (.agg #[v', .bool lost]) ∧ w'.ownsRow w.heap.size 5 1 v' held.length (u8s held) ∧ Below w.heap.size w w' := by
  go_enter Try.func37, Try.ntmps37
  go_wp2_with fail
  have hal := (Below.refl w.heap.size w).alloc (Nat.le_refl _) (.cells #[.slice none 0 0, .bool false] 45)
  have hlt := World.block_lt_of_cell? w _ hc0
  simp only at hlt
  have hca := (hal.cell (p := ⟨n, off, none⟩) hlt).trans hc0
  have hcb := (hal.cell (p := ⟨n, off + 1, none⟩) hlt).trans hc1
  have hra : (w.alloc (.cells #[.slice none 0 0, .bool false] 45)).heap[w.heap.size]? = some (.cells #[.slice none 0 0, .bool false] 45 (0, 0)) := heap_alloc_new _ _
  have hsz : (w.alloc (.cells #[.slice none 0 0, .bool false] 45)).heap.size = w.heap.size + 1 := by simp
  have hsa := hs.below hal
  generalize w.alloc (.cells #[.slice none 0 0, .bool false] 45) = wa at *
  have hfr := fun (k : Nat) => frozen_of_row wa w.heap.size k _ 45 hra
  have hr0 := cell_of_row wa w.heap.size 0 _ 45 (0, 0) hra
  have hr1 := cell_of_row wa w.heap.size 1 _ 45 (0, 0) hra
  have hbd := below_drew (Below.refl wa.heap.size wa)
  go_region_with (go_at_call 28; refine (ffresh_any hv held _ (hsa.below hbd) hlen).mono ?_; rintro e w3 ⟨v3, rfl, hown3, hb3⟩; have hb33 := hbd.trans hb3; have hc3 := (hb33.cell (p := ⟨n, off + 1, none⟩) (by simp; omega)).trans hcb; have hra3 := (hb33.block w.heap.size (by omega)).trans hra; have hf0 := frozen_of_row w3 w.heap.size 0 _ 45 hra3; have hf1 := frozen_of_row w3 w.heap.size 1 _ 45 hra3; have hg0 := cell_of_row w3 w.heap.size 0 _ 45 (0, 0) hra3; have hg1 := cell_of_row w3 w.heap.size 1 _ 45 (0, 0) hra3; obtain ⟨a3, c3, rfl⟩ := own_shape hown3)
  all_goals
    go_wp2
    have hbn : Below w.heap.size w ((w3.setCell ⟨w.heap.size, 0, none⟩ (.slice a3 held.length c3)).setCell ⟨w.heap.size, 1, none⟩ (.bool lost)) := ((hal.trans (hb33.mono hal.size)).setCell (Nat.le_refl _) _).setCell (Nat.le_refl _) _
    have hgb : w3.grownBy ((w3.setCell ⟨w.heap.size, 0, none⟩ (.slice a3 held.length c3)).setCell ⟨w.heap.size, 1, none⟩ (.bool lost)) (some w.heap.size) := ⟨rfl, rfl, rfl, by simp, fun k _ hk => by rw [heap_setCell_other _ _ _ _ (fun e => hk (by simp [e])), heap_setCell_other _ _ _ _ (fun e => hk (by simp [e]))]⟩
    have hon := hown3.kept hgb (.inr fun he => by have := (hown3.lt _ he).1; simp at this; omega)
    have hon2 := ownsRow_lower (C := w.heap.size) hon (by simp; omega)
    clear hgb hon
    have hcc := two_cells (x := .slice a3 held.length c3) (y := .bool lost) hg0 hg1
    refine bodyPost_ret (ret_box37 rfl hcc.1 hcc.2) rfl ?_
    exact ⟨_, rfl, hon2, hbn⟩
end Go.Proofs.Ytlfgnllmomeajaa
