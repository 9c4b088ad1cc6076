/- Are methods, schemas one? -/
import Derived.Test.YthdooemgnpiomaaSB
namespace Go.Proofs.Ythdooemgnpiomaa
open Go.RowKit

theorem MthR.below {B : Nat} {w w' : World} {f : Pl.Mth} {c : List Value} (h : MthR B f c w) (hb : Below w.heap.size w w') : MthR B f c w' := MthR.ch (X := fun _ _ => False) (Ch.below hb) (fun _ _ h => h) f c h
theorem FldR.below {B : Nat} {w w' : World} {f : Pl.Fld} {c : List Value} (h : FldR B f c w) (hb : Below w.heap.size w w') : FldR B f c w' := FldR.ch (X := fun _ _ => False) (Ch.below hb) (fun _ _ h => h) f c h

set_option maxHeartbeats 4000000 in
set_option maxRecDepth 4000 in
theorem sameMethod_true (Ba Bb : Nat) (f : Pl.Mth) (w : World) (c c' : List Value) (h : MthR Ba f c w) (h' : MthR Bb f c' w) : Calls Try.prog 21 #[.agg ⟨c⟩, .agg ⟨c'⟩] w fun e w' => e = .returned (.bool true) ∧ Below w.heap.size w w' := by
  obtain ⟨s, k1, n1, a1, m1, p1, k2, n2, a2, m2, p2, rfl, hs, ht1, ht2⟩ := h
  obtain ⟨s', k3, n3, a3, m3, p3, k4, n4, a4, m4, p4, rfl, hs', ht3, ht4⟩ := h'
  have hss : s = s' := bl_inj (hs.trans hs'.symm)
  subst hss
  have hb1 := below_next (below_alloc w (.cells #[.string s, .bool f.once, .int .i64 k1, .string n1, .slice a1 m1 p1, .int .i64 k2, .string n2, .slice a2 m2 p2] 76)) (below_alloc _ (.cells #[.string s, .bool f.once, .int .i64 k3, .string n3, .slice a3 m3 p3, .int .i64 k4, .string n4, .slice a4 m4 p4] 76))
  have hA := (Bx.new w [.string s, .bool f.once, .int .i64 k1, .string n1, .slice a1 m1 p1, .int .i64 k2, .string n2, .slice a2 m2 p2] 76).alloc (.cells #[.string s, .bool f.once, .int .i64 k3, .string n3, .slice a3 m3 p3, .int .i64 k4, .string n4, .slice a4 m4 p4] 76)
  have hB := Bx.newAt (w := w.alloc (.cells #[.string s, .bool f.once, .int .i64 k1, .string n1, .slice a1 m1 p1, .int .i64 k2, .string n2, .slice a2 m2 p2] 76)) (g := w.heap.size + 1) (by simp) [.string s, .bool f.once, .int .i64 k3, .string n3, .slice a3 m3 p3, .int .i64 k4, .string n4, .slice a4 m4 p4] 76
  have hty1 := fun W (hb : Below w.heap.size w W) => sameType_true Ba Bb f.arg W _ _ _ _ _ _ (ht1.below hb) (ht3.below hb)
  have hty2 := fun W (hb : Below w.heap.size w W) => sameType_true Ba Bb f.res W _ _ _ _ _ _ (ht2.below hb) (ht4.below hb)
  clear ht1 ht2 ht3 ht4 hs hs'
  generalize f.once = O at *
  have hT1 := hty1 _ hb1
  change Bx ((w.alloc (.cells #[.string s, .bool O, .int .i64 k1, .string n1, .slice a1 m1 p1, .int .i64 k2, .string n2, .slice a2 m2 p2] 76)).alloc (.cells #[.string s, .bool O, .int .i64 k3, .string n3, .slice a3 m3 p3, .int .i64 k4, .string n4, .slice a4 m4 p4] 76)) _ _ _ at hB
  go_enter Try.func21, Try.ntmps21
  go_wp2_with fail
  refine hT1.mono ?_
  rintro e w2 ⟨rfl, hb2⟩
  have hb12 := below_next hb1 hb2
  have hA2 := hA.below hb2
  have hB2 := hB.below hb2
  have x5 := hA2.cell 5 rfl
  have x6 := hA2.cell 6 rfl
  have x7 := hA2.cell 7 rfl
  have y5 := hB2.cell 5 rfl
  have y6 := hB2.cell 6 rfl
  have y7 := hB2.cell 7 rfl
  have hT2 := hty2 _ hb12
  go_wp2_with fail
  refine hT2.mono ?_
  rintro e w3 ⟨rfl, hb3⟩
  go_wp2
  go_ret
  exact ⟨rfl, below_next hb12 hb3⟩
end Go.Proofs.Ythdooemgnpiomaa
