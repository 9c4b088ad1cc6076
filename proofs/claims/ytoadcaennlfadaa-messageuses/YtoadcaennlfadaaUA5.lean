/- MessageUses: arms of its walk. -/
import Derived.Test.YtoadcaennlfadaaMN4
import Derived.Test.YtoadcaennlfadaaMN6
namespace Go.Proofs.Ytoadcaennlfadaa
open Go.RowKit
set_option maxRecDepth 20000

set_option maxHeartbeats 8000000 in
theorem usesF_5 (m : Mg) (v : Value) (d : List Int) (w : World) (hs : Seg .u8 w v d) (ho : ∀ z ∈ d, 0 ≤ z ∧ z ≤ 255) (hE : ckM m d = 9) (hk : m.k = 5) (hsm : sameM (usesX m) m (usesD m d) d = false) :
    Calls Try.prog 7 #[m.val v] w fun e w' => e = .returned (.bool true) ∧ Below w.heap.size w w' := by
  have hen := fun W hs => mEncode_any m v d W hs
  rw [hE] at hen
  obtain ⟨k, c, b, i, s, q, mm, n, l, o, p⟩ := m
  simp only at hk
  subst hk
  have hux : usesX ⟨5, c, b, i, s, q, mm, n, l, o, p⟩ = ⟨5, c, b, i, s, q, mm, n, l, o, p⟩ := by simp [usesX]
  have hud : usesD ⟨5, c, b, i, s, q, mm, n, l, o, p⟩ d = [] := by simp [usesD]
  rw [hux, hud] at hsm
  have hsa := fun W (hs : Seg .u8 W v d) => sameMsg_any ⟨5, c, b, i, s, q, mm, n, l, o, p⟩ ⟨5, c, b, i, s, q, mm, n, l, o, p⟩ (.slice none 0 0) v [] d W (Seg.nil _ _) hs (by simp) ho
  rw [hsm] at hsa
  clear hE hux hud hsm ho
  obtain ⟨va, vcap, rfl, _⟩ := id hs
  have hB0 : MBx (w.alloc (.cells ⟨(⟨5, c, b, i, s, q, mm, n, l, o, p⟩ : Mg).cells (.slice va d.length vcap)⟩ 24)) w.heap.size ⟨5, c, b, i, s, q, mm, n, l, o, p⟩ (.slice va d.length vcap) := Bx.new _ _ _
  have hal : Below w.heap.size w (w.alloc (.cells ⟨(⟨5, c, b, i, s, q, mm, n, l, o, p⟩ : Mg).cells (.slice va d.length vcap)⟩ 24)) := (Below.refl _ w).alloc (Nat.le_refl _) _
  have halv := malive_any (w.alloc (.cells ⟨(⟨5, c, b, i, s, q, mm, n, l, o, p⟩ : Mg).cells (.slice va d.length vcap)⟩ 24))
  simp only [Mg.val, Mg.cells] at *
  have HSG := hid hs
  have HB0 := hid hB0
  have HAL := hid hal
  clear hs hB0 hal
  go_enter Try.func7, Try.ntmps7
  go_wp2_with fail
  refine halv.mono ?_
  rintro e w1 ⟨rfl, b1⟩
  have B1 := HB0.out.below b1
  have hb1 := HAL.out.trans (b1.mono HAL.out.size)
  have S1 := HSG.out.below hb1
  have he1 := hen w1 S1
  obtain ⟨r0, r1, r2, r3, r4, r5, r6, r7, r8, r9, r10, r11⟩ := B1.facts
  have HB1 := hid hb1
  clear halv HB0 HAL b1 hb1 hen
  go_wp2_with fail
  refine he1.mono ?_
  rintro e w2 ⟨xa, xn, xc, rfl, _, b2⟩
  have B2 := B1.below b2
  have hb2 := HB1.out.trans (b2.mono HB1.out.size)
  obtain ⟨t0, t1, t2, t3, t4, t5, t6, t7, t8, t9, t10, t11⟩ := B2.facts
  have hlt := B2.lt
  have HB2 := hid hb2
  clear r0 r1 r2 r3 r4 r5 r6 r7 r8 r9 r10 r11 he1 b2 HB1 hb2 B1 S1
  go_wp2_with (go_at_call 19; refine (num_any _ _).mono ?_; rintro e w3 ⟨rfl, rfl⟩)
  have hal2 : ∀ o, Below w2.heap.size w2 (w2.alloc o) := fun o => (Below.refl _ w2).alloc (Nat.le_refl _) o
  have XB := Bx.new w2 ((⟨5, c, b, i, s, q, mm, n, l, o, p⟩ : Mg).cells (.slice none 0 0)) 24
  refine (hsa _ ((HSG.out.below HB2.out).below (hal2 _))).mono ?_
  rintro e w4 ⟨rfl, b4⟩
  have X4 : MBx w4 w2.heap.size ⟨5, c, b, i, s, q, mm, n, l, o, p⟩ (.slice none 0 0) := XB.below b4
  have B4 := (B2.below (hal2 _)).below b4
  have HB4 := hid ((HB2.out.trans ((hal2 _).mono HB2.out.size)).trans (b4.mono (Nat.le_trans HB2.out.size (hal2 _).size)))
  have y0 := B4.facts.1
  simp only at y0
  clear t0 t1 t2 t3 t4 t5 t6 t7 t8 t9 t10 t11 b4 XB hal2 hsa B4 X4 B2 HB2 HSG
  go_wp2_with (go_at_call 19; refine (num_any _ _).mono ?_; rintro e w3 ⟨rfl, rfl⟩)
  go_ret
  exact ⟨rfl, HB4.out⟩

set_option maxHeartbeats 8000000 in
theorem usesT_5 (m : Mg) (v : Value) (d : List Int) (w : World) (hs : Seg .u8 w v d) (ho : ∀ z ∈ d, 0 ≤ z ∧ z ≤ 255) (E : Int) (hE : ckM m d = E) (e23 : (E == 23) = false) (e4 : (E == 4) = false) (e5 : (E == 5) = false) (hk : m.k = 5) (hsm : sameM (usesX m) m (usesD m d) d = true) :
    Calls Try.prog 7 #[m.val v] w fun e w' => e = .returned (.bool true) ∧ Below w.heap.size w w' := by
  have hen := fun W hs => mEncode_any m v d W hs
  rw [hE] at hen
  obtain ⟨k, c, b, i, s, q, mm, n, l, o, p⟩ := m
  simp only at hk
  subst hk
  have hux : usesX ⟨5, c, b, i, s, q, mm, n, l, o, p⟩ = ⟨5, c, b, i, s, q, mm, n, l, o, p⟩ := by simp [usesX]
  have hud : usesD ⟨5, c, b, i, s, q, mm, n, l, o, p⟩ d = [] := by simp [usesD]
  rw [hux, hud] at hsm
  have hsa := fun W (hs : Seg .u8 W v d) => sameMsg_any ⟨5, c, b, i, s, q, mm, n, l, o, p⟩ ⟨5, c, b, i, s, q, mm, n, l, o, p⟩ (.slice none 0 0) v [] d W (Seg.nil _ _) hs (by simp) ho
  rw [hsm] at hsa
  clear hE hux hud hsm ho
  obtain ⟨va, vcap, rfl, _⟩ := id hs
  have hB0 : MBx (w.alloc (.cells ⟨(⟨5, c, b, i, s, q, mm, n, l, o, p⟩ : Mg).cells (.slice va d.length vcap)⟩ 24)) w.heap.size ⟨5, c, b, i, s, q, mm, n, l, o, p⟩ (.slice va d.length vcap) := Bx.new _ _ _
  have hal : Below w.heap.size w (w.alloc (.cells ⟨(⟨5, c, b, i, s, q, mm, n, l, o, p⟩ : Mg).cells (.slice va d.length vcap)⟩ 24)) := (Below.refl _ w).alloc (Nat.le_refl _) _
  have halv := malive_any (w.alloc (.cells ⟨(⟨5, c, b, i, s, q, mm, n, l, o, p⟩ : Mg).cells (.slice va d.length vcap)⟩ 24))
  simp only [Mg.val, Mg.cells] at *
  have HSG := hid hs
  have HB0 := hid hB0
  have HAL := hid hal
  clear hs hB0 hal
  go_enter Try.func7, Try.ntmps7
  go_wp2_with fail
  refine halv.mono ?_
  rintro e w1 ⟨rfl, b1⟩
  have B1 := HB0.out.below b1
  have hb1 := HAL.out.trans (b1.mono HAL.out.size)
  have S1 := HSG.out.below hb1
  have he1 := hen w1 S1
  obtain ⟨r0, r1, r2, r3, r4, r5, r6, r7, r8, r9, r10, r11⟩ := B1.facts
  have HB1 := hid hb1
  clear halv HB0 HAL b1 hb1 hen
  go_wp2_with fail
  refine he1.mono ?_
  rintro e w2 ⟨xa, xn, xc, rfl, _, b2⟩
  have B2 := B1.below b2
  have hb2 := HB1.out.trans (b2.mono HB1.out.size)
  obtain ⟨t0, t1, t2, t3, t4, t5, t6, t7, t8, t9, t10, t11⟩ := B2.facts
  have hlt := B2.lt
  have HB2 := hid hb2
  clear r0 r1 r2 r3 r4 r5 r6 r7 r8 r9 r10 r11 he1 b2 HB1 hb2 B1 S1
  go_wp2_with (go_at_call 19; refine (num_any _ _).mono ?_; rintro e w3 ⟨rfl, rfl⟩)
  have hal2 : ∀ o, Below w2.heap.size w2 (w2.alloc o) := fun o => (Below.refl _ w2).alloc (Nat.le_refl _) o
  have XB := Bx.new w2 ((⟨5, c, b, i, s, q, mm, n, l, o, p⟩ : Mg).cells (.slice none 0 0)) 24
  refine (hsa _ ((HSG.out.below HB2.out).below (hal2 _))).mono ?_
  rintro e w4 ⟨rfl, b4⟩
  have X4 : MBx w4 w2.heap.size ⟨5, c, b, i, s, q, mm, n, l, o, p⟩ (.slice none 0 0) := XB.below b4
  have B4 := (B2.below (hal2 _)).below b4
  have HB4 := hid ((HB2.out.trans ((hal2 _).mono HB2.out.size)).trans (b4.mono (Nat.le_trans HB2.out.size (hal2 _).size)))
  clear t0 t1 t2 t3 t4 t5 t6 t7 t8 t9 t10 t11 b4 XB hal2 hsa B4 X4 B2 HB2 HSG
  go_wp2_with (go_at_call 19; refine (num_any _ _).mono ?_; rintro e w3 ⟨rfl, rfl⟩)
  go_ret
  exact ⟨rfl, HB4.out⟩
end Go.Proofs.Ytoadcaennlfadaa
