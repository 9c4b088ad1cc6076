/- waybillplain: SameMsg, where the messages part (a piece of it). -/
import Derived.Test.YtoadcaennlfadaaGG
namespace Go.Proofs.Ytoadcaennlfadaa
open Go.RowKit
set_option maxRecDepth 20000

set_option maxHeartbeats 4000000 in
theorem same_12 (x y : Mg) (v u : Value) (d e : List Int) (w : World) (hv : Seg .u8 w v d) (hu : Seg .u8 w u e) (hd : ∀ z ∈ d, 0 ≤ z ∧ z ≤ 255) (he : ∀ z ∈ e, 0 ≤ z ∧ z ≤ 255) (h0 : (d == e) = true) (h1 : (x.k == y.k) = true) (h2 : (x.c == y.c) = true) (h3 : (x.b == y.b) = true) (h4 : (x.i == y.i) = true) (h5 : (x.s == y.s) = true) (h6 : (x.q == y.q) = true) (h7 : (x.m == y.m) = true) (h8 : (x.n == y.n) = true) (h9 : (x.l == y.l) = true) (h10 : (x.o == y.o) = true) (h11 : (x.p == y.p) = true) :
    Calls Try.prog 20 #[x.val v, y.val u] w fun r w' => r = .returned (.bool true) ∧ Below w.heap.size w w' := by
  obtain ⟨a, cap, rfl, _⟩ := id hv
  obtain ⟨a2, cap2, rfl, _⟩ := id hu
  unfold Mg.val
  go_enter Try.func20, Try.ntmps20
  go_wp2_with fail
  have hal : Below w.heap.size w ((w.alloc (.cells ⟨x.cells (.slice a d.length cap)⟩ 24)).alloc (.cells ⟨y.cells (.slice a2 e.length cap2)⟩ 24)) := ((Below.refl _ w).alloc (Nat.le_refl _) _).alloc (by simp) _
  go_quiet (fail)
  have hbd := below_drewN hal nq
  have hsb := sameBytes_any _ _ d e _ (hv.below hbd) (hu.below hbd) hd he
  rw [h0] at hsb
  have HB := hid hbd
  clear hal hbd
  simp only [Mg.cells] at hsb HB
  go_wp2_with fail
  refine hsb.mono ?_
  rintro r w2 ⟨rfl, h22⟩
  have M1 : MBx w2 w.heap.size x (.slice a d.length cap) := by
    rw [← h22]
    exact Bx.below ((Bx.new w (x.cells (.slice a d.length cap)) 24).alloc _) (below_drewN (Below.refl _ _) nq)
  have M2 : MBx w2 (w.heap.size + 1) y (.slice a2 e.length cap2) := by
    rw [← h22]
    have := Bx.below (Bx.new (w.alloc (.cells ⟨x.cells (.slice a d.length cap)⟩ 24)) (y.cells (.slice a2 e.length cap2)) 24) (below_drewN (Below.refl _ _) nq)
    simpa [MBx, Mg.cells] using this
  rw [h22] at HB
  clear hsb h22 hv hu hd he h0
  obtain ⟨r0, r1, r2, r3, r4, r5, r6, r7, r8, r9, r10, r11⟩ := M1.facts
  obtain ⟨s0, s1, s2, s3, s4, s5, s6, s7, s8, s9, s10, s11⟩ := M2.facts
  clear M1 M2 
  go_wp2
  go_ret
  exact ⟨rfl, HB.out⟩
end Go.Proofs.Ytoadcaennlfadaa
