/- waybillref09: Same (a piece of it). -/
import Derived.Test.YtoadcaennlfadaaGG
namespace Go.Proofs.Ytoadcaennlfadaa
open Go.RowKit
set_option maxRecDepth 20000

set_option maxHeartbeats 4000000 in
theorem rsame_0 (x y : Mg) (v u : Value) (d e : List Int) (w : World) (hv : Seg .u8 w v d) (hu : Seg .u8 w u e) (hd : ∀ z ∈ d, 0 ≤ z ∧ z ≤ 255) (he : ∀ z ∈ e, 0 ≤ z ∧ z ≤ 255)  (h0 : (d == e) = false) :
    Calls Try.prog 45 #[x.val v, y.val u] w fun r w' => r = .returned (.bool false) ∧ Below w.heap.size w w' := by
  have hbq := strOf_beq d e hd he
  rw [h0] at hbq
  obtain ⟨W, hW⟩ : ∃ W, W = (w.alloc (.cells #[.int .i64 x.k, .int .i64 x.c, .int .i64 x.b, .int .i64 x.i, .int .i64 x.s, .int .i64 x.q, .int .i64 x.m, .int .i64 x.n, .int .i64 x.l, .int .i64 x.o, .int .i64 x.p, v] 24)).alloc (.cells #[.int .i64 y.k, .int .i64 y.c, .int .i64 y.b, .int .i64 y.i, .int .i64 y.s, .int .i64 y.q, .int .i64 y.m, .int .i64 y.n, .int .i64 y.l, .int .i64 y.o, .int .i64 y.p, u] 24) := ⟨_, rfl⟩
  have HB : Hid (Below w.heap.size w W) := by rw [hW]; exact ((Below.refl _ w).alloc (Nat.le_refl _) _).alloc (by simp) _
  have M1 : MBx W w.heap.size x v := by rw [hW]; exact (Bx.new w (x.cells v) 24).alloc _
  have M2 : MBx W (w.heap.size + 1) y u := by
    rw [hW]
    have := Bx.new (w.alloc (.cells ⟨x.cells v⟩ 24)) (y.cells u) 24
    rw [show (w.alloc (.cells ⟨x.cells v⟩ 24)).heap.size = w.heap.size + 1 by simp] at this
    exact this
  have q1 := seg_string (hv.below HB.out)
  have q2 := seg_string (hu.below HB.out)
  obtain ⟨a, cap, rfl, _⟩ := id hv
  obtain ⟨a2, cap2, rfl, _⟩ := id hu
  obtain ⟨r0, r1, r2, r3, r4, r5, r6, r7, r8, r9, r10, r11⟩ := M1.facts
  obtain ⟨s0, s1, s2, s3, s4, s5, s6, s7, s8, s9, s10, s11⟩ := M2.facts
  have l1 := M1.lt
  have l2 := M2.lt
  generalize strOf d = S1 at *
  generalize strOf e = S2 at *
  unfold Mg.val
  go_enter Try.func45, Try.ntmps45
  go_wp2_with fail
  rw [← hW]
  clear hW M1 M2 hv hu hd he r0 s0 r1 s1 r2 s2 r3 s3 r4 s4 r5 s5 r6 s6 r7 s7 r8 s8 r9 s9 r10 s10
  simp only [q1, Result.andThen_ok, Oper.upon]
  go_wp2
  go_ret
  exact ⟨rfl, HB.out⟩

set_option maxHeartbeats 4000000 in
theorem rsame_1 (x y : Mg) (v u : Value) (d e : List Int) (w : World) (hv : Seg .u8 w v d) (hu : Seg .u8 w u e) (hd : ∀ z ∈ d, 0 ≤ z ∧ z ≤ 255) (he : ∀ z ∈ e, 0 ≤ z ∧ z ≤ 255) (h0 : (d == e) = true) (h1 : (x.k == y.k) = false) :
    Calls Try.prog 45 #[x.val v, y.val u] w fun r w' => r = .returned (.bool false) ∧ Below w.heap.size w w' := by
  have hbq := strOf_beq d e hd he
  rw [h0] at hbq
  obtain ⟨W, hW⟩ : ∃ W, W = (w.alloc (.cells #[.int .i64 x.k, .int .i64 x.c, .int .i64 x.b, .int .i64 x.i, .int .i64 x.s, .int .i64 x.q, .int .i64 x.m, .int .i64 x.n, .int .i64 x.l, .int .i64 x.o, .int .i64 x.p, v] 24)).alloc (.cells #[.int .i64 y.k, .int .i64 y.c, .int .i64 y.b, .int .i64 y.i, .int .i64 y.s, .int .i64 y.q, .int .i64 y.m, .int .i64 y.n, .int .i64 y.l, .int .i64 y.o, .int .i64 y.p, u] 24) := ⟨_, rfl⟩
  have HB : Hid (Below w.heap.size w W) := by rw [hW]; exact ((Below.refl _ w).alloc (Nat.le_refl _) _).alloc (by simp) _
  have M1 : MBx W w.heap.size x v := by rw [hW]; exact (Bx.new w (x.cells v) 24).alloc _
  have M2 : MBx W (w.heap.size + 1) y u := by
    rw [hW]
    have := Bx.new (w.alloc (.cells ⟨x.cells v⟩ 24)) (y.cells u) 24
    rw [show (w.alloc (.cells ⟨x.cells v⟩ 24)).heap.size = w.heap.size + 1 by simp] at this
    exact this
  have q1 := seg_string (hv.below HB.out)
  have q2 := seg_string (hu.below HB.out)
  obtain ⟨a, cap, rfl, _⟩ := id hv
  obtain ⟨a2, cap2, rfl, _⟩ := id hu
  obtain ⟨r0, r1, r2, r3, r4, r5, r6, r7, r8, r9, r10, r11⟩ := M1.facts
  obtain ⟨s0, s1, s2, s3, s4, s5, s6, s7, s8, s9, s10, s11⟩ := M2.facts
  have l1 := M1.lt
  have l2 := M2.lt
  generalize strOf d = S1 at *
  generalize strOf e = S2 at *
  unfold Mg.val
  go_enter Try.func45, Try.ntmps45
  go_wp2_with fail
  rw [← hW]
  clear hW M1 M2 hv hu hd he r1 s1 r2 s2 r3 s3 r4 s4 r5 s5 r6 s6 r7 s7 r8 s8 r9 s9 r10 s10
  simp only [q1, Result.andThen_ok, Oper.upon]
  go_wp2
  go_ret
  exact ⟨rfl, HB.out⟩
end Go.Proofs.Ytoadcaennlfadaa
