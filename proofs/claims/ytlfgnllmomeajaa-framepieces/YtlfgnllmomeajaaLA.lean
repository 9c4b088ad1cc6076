/- The law's own: Of, same. -/
import Derived.Test.YtlfgnllmomeajaaRE
namespace Go.Proofs.Ytlfgnllmomeajaa
open Go.RowKit

theorem ret_box20 {W : World} {tmps : Array Value} {b : Nat} {x y : Value} (ht : tmps.getD 2 undef = .pointer (some ⟨b, 0, none⟩)) (h0 : W.cell? ⟨b, 0, none⟩ = some x) (h1 : W.cell? ⟨b, 1, none⟩ = some y) :
    (results Try.f20 tmps).run Try.prog W = .ok (.agg #[x, y]) W := by
  rw [Array.getD_eq_getD_getElem?] at ht
  simp [results, Try.results20]
  go_simp
def BoxesO (m : Nat) (w : World) (hv : Value) (lost : Bool) : Prop :=
  w.heap[m]? = some (.cells #[hv, .bool lost] 44 (0, 0)) ∧ w.heap[m + 1]? = some (.cells #[.slice none 0 0, .bool false] 45 (0, 0))
theorem BoxesO.new (w : World) (hv : Value) (lost : Bool) : BoxesO w.heap.size ((w.alloc (.cells #[hv, .bool lost] 44)).alloc (.cells #[.slice none 0 0, .bool false] 45)) hv lost := by
  refine ⟨?_, ?_⟩
  · rw [heap_alloc_old _ _ (by simp)]
    exact heap_alloc_new _ _
  · have := heap_alloc_new (w.alloc (.cells #[hv, .bool lost] 44)) (.cells #[.slice none 0 0, .bool false] 45)
    simpa using this
theorem BoxesO.facts {m : Nat} {w : World} {hv : Value} {lost : Bool} (h : BoxesO m w hv lost) :
    w.cell? ⟨m, 0, none⟩ = some hv ∧ w.cell? ⟨m, 1, none⟩ = some (.bool lost) ∧ w.cell? ⟨m + 1, 0, none⟩ = some (.slice none 0 0) ∧ w.cell? ⟨m + 1, 1, none⟩ = some (.bool false) ∧ w.frozen? ⟨m + 1, 0, none⟩ = false ∧ w.frozen? ⟨m + 1, 1, none⟩ = false := by
  obtain ⟨h0, h1⟩ := h
  exact ⟨by rw [cell_of_row w m 0 _ 44 (0, 0) h0]; rfl, by rw [cell_of_row w m 1 _ 44 (0, 0) h0]; rfl, by rw [cell_of_row w (m + 1) 0 _ 45 (0, 0) h1]; rfl, by rw [cell_of_row w (m + 1) 1 _ 45 (0, 0) h1]; rfl, frozen_of_row w _ 0 _ 45 h1, frozen_of_row w _ 1 _ 45 h1⟩
theorem BoxesO.below {m : Nat} {w w' : World} {hv : Value} {lost : Bool} (h : BoxesO m w hv lost) (hb : Below (m + 2) w w') : BoxesO m w' hv lost :=
  ⟨(hb.block m (by omega)).trans h.1, (hb.block (m + 1) (by omega)).trans h.2⟩

set_option maxHeartbeats 2000000 in
set_option maxRecDepth 4000 in
theorem of_any (hv : Value) (held : List Int) (lost : Bool) (w : World) (hs : Seg .u8 w hv held) (hlen : held.length ≤ 140737488355328) :
    Calls Try.prog 20 #[.agg #[hv, .bool lost]] w fun e w' => ∃ v', e = .returned (.agg #[v', .bool lost]) ∧ w'.ownsRow w.heap.size 5 1 v' held.length (u8s held) ∧ Below w.heap.size w w' := by
  obtain ⟨a, c, n, hvs, hn⟩ : ∃ a c n, hv = .slice a n c ∧ n = held.length := by
    obtain ⟨a, c, h, _⟩ := id hs
    exact ⟨a, c, _, h, rfl⟩
  subst hvs
  rw [← hn]
  clear hn
  go_enter Try.func20, Try.ntmps20
  go_wp2_with fail
  have hB := BoxesO.new w (.slice a n c) lost
  have hal : Below w.heap.size w ((w.alloc (.cells #[.slice a n c, .bool lost] 44)).alloc (.cells #[.slice none 0 0, .bool false] 45)) := ((Below.refl _ _).alloc (Nat.le_refl _) _).alloc (by simp) _
  have hsz : ((w.alloc (.cells #[.slice a n c, .bool lost] 44)).alloc (.cells #[.slice none 0 0, .bool false] 45)).heap.size = w.heap.size + 2 := by simp
  generalize (w.alloc (.cells #[.slice a n c, .bool lost] 44)).alloc (.cells #[.slice none 0 0, .bool false] 45) = wa at *
  obtain ⟨c0, c1, c2, c3, f0, f1⟩ := hB.facts
  have hbd := below_drew (Below.refl wa.heap.size wa)
  have hcp := copyBytes_any _ held wa.drew ((hs.below hal).below hbd) hlen
  generalize hHn : held.length = Hn at hcp
  have HH : Hid (n = Hn) := by
    obtain ⟨_, _, h, _⟩ := id hs
    simp only [Value.slice.injEq] at h
    show _ = _
    rw [h.2.1, hHn]
  clear hHn
  go_region_with (go_at_call 9; refine hcp.mono ?_; rintro e w3 ⟨v3, rfl, hown3, hb3⟩; have hb33 := hbd.trans hb3; obtain ⟨g0, g1, g2, g3, j0, j1⟩ := (hB.below (hb33.mono (by omega))).facts; obtain ⟨a3, c3', rfl⟩ := own_shape hown3)
  all_goals
    go_wp2
    have hcc := two_cells (x := .slice a3 Hn c3') (y := .bool lost) g2 g3
    refine bodyPost_ret (ret_box20 rfl hcc.1 hcc.2) rfl ?_
    rw [HH.out]
    refine ⟨_, rfl, ownsRow_lower ((hown3.kept (grown_set w3 (w.heap.size + 1) 0 _) (.inr fun he => ?_)).kept (grown_set _ (w.heap.size + 1) 1 _) (.inr fun he => ?_)) (by simp; omega), ((hal.trans (hb33.mono hal.size)).setCell (Nat.le_succ _) _).setCell (Nat.le_succ _) _⟩
    · have := (hown3.lt _ he).1
      simp at this
      omega
    · have := (hown3.lt _ he).1
      simp at this
      omega

set_option maxHeartbeats 2000000 in
set_option maxRecDepth 4000 in
theorem same_any (v u : Value) (l m : List Int) (L M : Bool) (w : World) (hv : Seg .u8 w v l) (hu : Seg .u8 w u m) (hl : Pl.Octs l) (hm : Pl.Octs m) :
    Calls Try.prog 24 #[.agg #[v, .bool L], .agg #[u, .bool M]] w fun e w' => e = .returned (.bool (l == m && L == M)) ∧ Below w.heap.size w w' := by
  obtain ⟨a, c, n, hvs⟩ : ∃ a c n, v = .slice a n c := by
    obtain ⟨a, c, h, _⟩ := id hv
    exact ⟨a, c, _, h⟩
  obtain ⟨a', c', n', hus⟩ : ∃ a c n, u = .slice a n c := by
    obtain ⟨a, c, h, _⟩ := id hu
    exact ⟨a, c, _, h⟩
  subst hvs hus
  have hal : Below w.heap.size w ((w.alloc (.cells #[.slice a n c, .bool L] 45)).alloc (.cells #[.slice a' n' c', .bool M] 44)) := ((Below.refl _ _).alloc (Nat.le_refl _) _).alloc (by simp) _
  have hsame := sameBytes_any _ _ l m _ (hv.below hal) (hu.below hal) hl hm
  cases hb : (l == m)
  · rw [hb] at hsame
    go_enter Try.func24, Try.ntmps24
    go_wp2_with (go_at_call 16; refine hsame.mono ?_; rintro e w2 ⟨rfl, rfl⟩)
    go_ret
    exact ⟨rfl, hal⟩
  · rw [hb] at hsame
    go_enter Try.func24, Try.ntmps24
    go_wp2_with (go_at_call 16; refine hsame.mono ?_; rintro e w2 ⟨rfl, rfl⟩)
    go_ret
    exact ⟨by cases L <;> cases M <;> rfl, hal⟩
end Go.Proofs.Ytlfgnllmomeajaa
