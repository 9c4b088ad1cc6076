/- For every histogram and all numbers: what Add and Merge tell shares nothing with what was handed in (the law HistoOwn answers true), and no other memory is touched. -/
import Derived.Test.YthdaldgmolhljaaRows
import Derived.BigQuiet
import Derived.Deep.QuietTactic
import Derived.WalkKit
import Derived.ProofKit
import Derived.OpenShut
import Derived.ShutString
import Derived.Test.YthdaldgmolhljaaHsQ
import Derived.Test.YthdaldgmolhljaaOpenH
namespace Go.Proofs.Ythdaldgmolhljaa.histoOwn
open Go.ChangeShapes Go.WideShapes Go.ChangeAt Go.RowKit
open Go.ChangeMaps (open_string shut_string)
set_option linter.unusedVariables false
set_option maxRecDepth 20000

set_option maxHeartbeats 16000000 in
theorem walk (rr : Value) (h : Hi.H) {w : World} (hs : Seg .i64 w rr h.c) (ho : ∀ z, z ∈ h.c → (Lit.int .i64 z).wf = true) (hw : (Lit.int .i64 h.t).wf = true) (hz : h.c.length ≤ 17592186043904) (v : Value) (l : List Int) (ls : Seg .i64 w v l) (lo : ∀ z ∈ l, -9223372036854775808 ≤ z ∧ z ≤ 9223372036854775807) (lz : l.length ≤ 17592186043904) :
    Calls Try.prog 8 #[vH rr h.t, v] w fun e w' => e = .returned (.bool true) ∧ Below w.heap.size w w' := by
  clear ho hw lo
  obtain ⟨hc, ht⟩ := h
  dsimp only at hs hz ⊢
  obtain ⟨rah, rch, rfl, _⟩ := id hs
  obtain ⟨ral, rcl, rfl, _⟩ := id ls
  have hbx := (Below.refl w.heap.size w).alloc (Nat.le_refl _) (.cells #[.slice rah hc.length rch, .int .i64 ht] 24)
  have Xh := Bo.new w (hL (.slice rah hc.length rch) ht) 24
  obtain ⟨W0, hW0⟩ : ∃ W0, W0 = w.alloc (.cells #[.slice rah hc.length rch, .int .i64 ht] 24) := ⟨_, rfl⟩
  have HSZ : W0.heap.size = w.heap.size + 1 := by rw [hW0, World.size_alloc]
  replace Xh : Bo W0 w.heap.size [.slice rah hc.length rch, .int .i64 ht] 24 := by rw [hW0]; exact Xh
  rw [← hW0] at hbx
  have HS0 := hidD (fun (W : World) (b : Below w.heap.size w W) => hs.below b)
  have HL0 := hidD (fun (W : World) (b : Below w.heap.size w W) => ls.below b)
  have Oh := hidD (hs.below hbx)
  have Ol := hidD (ls.below hbx)
  obtain ⟨N, hN⟩ : ∃ N, N = w.heap.size := ⟨_, rfl⟩
  rw [← hN] at Xh hbx HSZ HS0 HL0 ⊢
  replace Xh := hidD Xh
  have HB := hidD hbx
  have HN := hidD hN
  have HNW : Hid (N ≤ W0.heap.size) := hidD (by omega)
  have HNX : Hid (N < W0.heap.size) := hidD (by omega)
  obtain ⟨x, hx⟩ : ∃ x, x = Hi.addR ⟨hc, ht⟩ l := ⟨_, rfl⟩
  obtain ⟨xe, hxe⟩ : ∃ xe, xe = Hi.addE ⟨hc, ht⟩ l := ⟨_, rfl⟩
  obtain ⟨u, hu⟩ : ∃ u, u = Hi.merR [⟨hc, ht⟩] := ⟨_, rfl⟩
  obtain ⟨ue, hue⟩ : ∃ ue, ue = Hi.merE [⟨hc, ht⟩] := ⟨_, rfl⟩
  obtain ⟨xc, xt⟩ := x
  obtain ⟨uc, ut⟩ := u
  have CL := alive_any W0
  have C1 := hidD (own_any (.slice rah hc.length rch) ⟨hc, ht⟩ W0 Oh.out (by dsimp only; omega))
  have CA := hidD (fun (r : Value) (W : World) (h : Seg .i64 W r hc) (k : Seg .i64 W (.slice ral l.length rcl) l) => add_any r (.slice ral l.length rcl) ⟨hc, ht⟩ l W h k (by omega))
  have CRA := hidD (fun (r : Value) (W : World) (h : Seg .i64 W r hc) (k : Seg .i64 W (.slice ral l.length rcl) l) => radd_any r (.slice ral l.length rcl) ⟨hc, ht⟩ l W h k (by omega))
  have CM := hidD (fun (g : Nat) (W : World) (h : HRow W g [⟨hc, ht⟩]) => merge_any g 1 1 [⟨hc, ht⟩] W h rfl (Nat.le_refl _) (by decide))
  have CRM := hidD (fun (g : Nat) (W : World) (h : HRow W g [⟨hc, ht⟩]) => rmerge_any g 1 1 [⟨hc, ht⟩] W h rfl (Nat.le_refl _) (by decide))
  rw [← hx, ← hxe] at CA CRA
  rw [← hu, ← hue] at CM CRM
  dsimp only at C1 CA CRA CM CRM
  have HSZ0 := hidD HSZ
  clear hs ls lz hx hxe hu hue hbx HSZ
  go_enter Try.func8, Try.ntmps8
  go_wp2_with fail
  rw [← hN, ← hW0]
  clear hN hW0
  with_reducible refine CL.mono ?_
  rintro e w0 ⟨rfl, rfl⟩
  clear CL
  have qh0 := Xh.out.cell 0 rfl
  have qh1 := Xh.out.cell 1 rfl
  go_wp2_with fail
  clear qh0 qh1
  refine C1.out.mono ?_
  rintro e w1 ⟨r1, rfl, h1, o1⟩
  clear C1
  obtain ⟨ra1, rc1, rfl, _⟩ := id (Seg.own o1)
  replace HB := hidD (below_on HB.out HNW.out h1)
  replace HNW := hidD (Nat.le_trans HNW.out h1.size)
  replace Oh := hidD (Oh.out.below h1)
  replace Ol := hidD (Ol.out.below h1)
  replace Xh := hidD (Xh.out.below h1)
  have hb := (Below.refl w1.heap.size w1).alloc (Nat.le_refl _) (.cells #[.slice ra1 hc.length rc1, .int .i64 ht] 24)
  have O1 := hidD (own_below o1 hb)
  have X1 := hidD (Bo.new w1 (hL (.slice ra1 hc.length rc1) ht) 24)
  obtain ⟨b1, hb1⟩ : ∃ b1, b1 = w1.heap.size := ⟨_, rfl⟩
  obtain ⟨W1, hW1⟩ : ∃ W1, W1 = w1.alloc (.cells #[.slice ra1 hc.length rc1, .int .i64 ht] 24) := ⟨_, rfl⟩
  replace X1 : Hid (Bo W1 b1 [.slice ra1 hc.length rc1, .int .i64 ht] 24) := hidD (by rw [hW1, hb1]; exact X1.out)
  rw [← hW1] at O1 hb
  have Z1 : Hid (W1.heap.size = b1 + 1) := hidD (by rw [hW1, hb1, World.size_alloc])
  have HNb : Hid (N < b1) := hidD (by have := HNX.out; have := h1.size; omega)
  have HOS : Hid (W0.heap.size = N + 1) := HSZ0
  have HRB : Hid (∀ g, ra1 = some ⟨g, 0, none⟩ → g < b1) := hidD (fun g e => by subst e; rw [hb1]; exact (o1.lt g rfl).2)
  replace HB := hidD (below_on HB.out HNW.out hb)
  replace HNW := hidD (Nat.le_trans HNW.out hb.size)
  replace Oh := hidD (Oh.out.below hb)
  replace Ol := hidD (Ol.out.below hb)
  replace Xh := hidD (Xh.out.below hb)
  clear h1 o1 hb
  have HNB : Hid (b1 + 1 ≤ W1.heap.size) := hidD (by rw [Z1.out]; exact Nat.le_refl _)
  have cA := CA.out _ W1 (Seg.own O1.out) Ol.out
  clear CA
  have q10 := X1.out.cell 0 rfl
  have q11 := X1.out.cell 1 rfl
  rw [hW1, hb1] at q10 q11
  go_wp2_with (fail)
  rw [← hb1, ← hW1]
  clear hb1 hW1
  clear q10 q11
  refine cA.mono ?_
  rintro e w3 ⟨r3, rfl, h3, o3⟩
  clear cA
  replace o3 := o3.lower HNB.out
  obtain ⟨ra3, rc3, rfl, _⟩ := id o3.seg
  replace HB := hidD (below_on HB.out HNW.out h3)
  replace HNW := hidD (Nat.le_trans HNW.out h3.size)
  replace Oh := hidD (Oh.out.below h3)
  replace Ol := hidD (Ol.out.below h3)
  replace Xh := hidD (Xh.out.below h3)
  replace X1 := hidD (X1.out.below h3)
  replace O1 := hidD (own_below O1.out h3)
  replace HNB := hidD (Nat.le_trans HNB.out h3.size)
  have O3 := hidD (o3.below ((Below.refl w3.heap.size w3).alloc (Nat.le_refl _) (.cells #[.slice ra3 xc.length rc3, .int .i64 xt] 24)))
  have hb := (Below.refl w3.heap.size w3).alloc (Nat.le_refl _) (.cells #[.slice ra3 xc.length rc3, .int .i64 xt] 24)
  have X3 := hidD (Bo.new w3 (hL (.slice ra3 xc.length rc3) xt) 24)
  obtain ⟨b3, hb3⟩ : ∃ b3, b3 = w3.heap.size := ⟨_, rfl⟩
  have HG3 : Hid (b1 + 1 ≤ b3) := hidD (by rw [hb3]; exact HNB.out)
  obtain ⟨W3, hW3⟩ : ∃ W3, W3 = w3.alloc (.cells #[.slice ra3 xc.length rc3, .int .i64 xt] 24) := ⟨_, rfl⟩
  replace X3 : Hid (Bo W3 b3 [.slice ra3 xc.length rc3, .int .i64 xt] 24) := hidD (by rw [hW3, hb3]; exact X3.out)
  rw [← hW3] at O3 hb
  have Z3 : Hid (W3.heap.size = b3 + 1) := hidD (by rw [hW3, hb3, World.size_alloc])
  replace HB := hidD (below_on HB.out HNW.out hb)
  replace HNW := hidD (Nat.le_trans HNW.out hb.size)
  replace Oh := hidD (Oh.out.below hb)
  replace Ol := hidD (Ol.out.below hb)
  replace Xh := hidD (Xh.out.below hb)
  replace X1 := hidD (X1.out.below hb)
  replace O1 := hidD (own_below O1.out hb)
  replace HNB := hidD (Nat.le_trans HNB.out hb.size)
  clear h3 o3 hb
  have q10 := X1.out.cell 0 rfl
  have q11 := X1.out.cell 1 rfl
  rw [hW3] at q10 q11
  go_wp2_with (fail)
  rw [← hb3, ← hW3]
  clear hb3 hW3
  clear q10 q11
  have hbu := (Below.refl W3.heap.size W3).alloc (Nat.le_refl _) (.cells #[.slice ra1 hc.length rc1, .int .i64 ht] 24)
  have BU : Bo (W3.alloc (.cells #[.slice ra1 hc.length rc1, .int .i64 ht] 24)) (b3 + 1) [.slice ra1 hc.length rc1, .int .i64 ht] 24 := by rw [← Z3.out]; exact Bo.new W3 [.slice ra1 hc.length rc1, .int .i64 ht] 24
  have cM := CM.out (b3 + 1) (W3.alloc (.cells #[.slice ra1 hc.length rc1, .int .i64 ht] 24)) (hrow_one (x := ⟨hc, ht⟩) BU ((Seg.own O1.out).below hbu))
  clear CM
  obtain ⟨V, hV⟩ : ∃ V, V = W3.alloc (.cells #[.slice ra1 hc.length rc1, .int .i64 ht] 24) := ⟨_, rfl⟩
  rw [← hV] at hbu cM
  replace HB := hidD (below_on HB.out HNW.out hbu)
  replace HNW := hidD (Nat.le_trans HNW.out hbu.size)
  replace Oh := hidD (Oh.out.below hbu)
  replace Ol := hidD (Ol.out.below hbu)
  replace Xh := hidD (Xh.out.below hbu)
  replace X1 := hidD (X1.out.below hbu)
  replace O3 := hidD (O3.out.below hbu)
  replace X3 := hidD (X3.out.below hbu)
  replace O1 := hidD (own_below O1.out hbu)
  replace HNB := hidD (Nat.le_trans HNB.out hbu.size)
  clear hbu BU
  rw [← hV]
  clear hV
  refine cM.mono ?_
  rintro e w4 ⟨r4, rfl, h4, o4⟩
  clear cM
  replace o4 := o4.lower HNB.out
  obtain ⟨ra4, rc4, rfl, _⟩ := id o4.seg
  replace HB := hidD (below_on HB.out HNW.out h4)
  replace HNW := hidD (Nat.le_trans HNW.out h4.size)
  replace Oh := hidD (Oh.out.below h4)
  replace Ol := hidD (Ol.out.below h4)
  replace Xh := hidD (Xh.out.below h4)
  replace X1 := hidD (X1.out.below h4)
  replace O3 := hidD (O3.out.below h4)
  replace X3 := hidD (X3.out.below h4)
  replace O1 := hidD (own_below O1.out h4)
  replace HNB := hidD (Nat.le_trans HNB.out h4.size)
  have O4 := hidD (o4.below ((Below.refl w4.heap.size w4).alloc (Nat.le_refl _) (.cells #[.slice ra4 uc.length rc4, .int .i64 ut] 24)))
  have hb := (Below.refl w4.heap.size w4).alloc (Nat.le_refl _) (.cells #[.slice ra4 uc.length rc4, .int .i64 ut] 24)
  have X4 := hidD (Bo.new w4 (hL (.slice ra4 uc.length rc4) ut) 24)
  obtain ⟨b4, hb4⟩ : ∃ b4, b4 = w4.heap.size := ⟨_, rfl⟩
  have HG4 : Hid (b1 + 1 ≤ b4) := hidD (by rw [hb4]; exact HNB.out)
  obtain ⟨W4, hW4⟩ : ∃ W4, W4 = w4.alloc (.cells #[.slice ra4 uc.length rc4, .int .i64 ut] 24) := ⟨_, rfl⟩
  replace X4 : Hid (Bo W4 b4 [.slice ra4 uc.length rc4, .int .i64 ut] 24) := hidD (by rw [hW4, hb4]; exact X4.out)
  rw [← hW4] at O4 hb
  have Z4 : Hid (W4.heap.size = b4 + 1) := hidD (by rw [hW4, hb4, World.size_alloc])
  replace HB := hidD (below_on HB.out HNW.out hb)
  replace HNW := hidD (Nat.le_trans HNW.out hb.size)
  replace Oh := hidD (Oh.out.below hb)
  replace Ol := hidD (Ol.out.below hb)
  replace Xh := hidD (Xh.out.below hb)
  replace X1 := hidD (X1.out.below hb)
  replace O3 := hidD (O3.out.below hb)
  replace X3 := hidD (X3.out.below hb)
  replace O1 := hidD (own_below O1.out hb)
  replace HNB := hidD (Nat.le_trans HNB.out hb.size)
  clear h4 o4 hb
  have HLOW := hidD (fun (W : World) (b : Below N w W) => (And.intro (HS0.out W b) (HL0.out W b)))
  clear Oh Ol
  go_wp2_with (fail)
  rw [← hb4, ← hW4]
  clear hb4 hW4
  obtain ⟨dl, hdl⟩ : ∃ dl, dl = hc.length := ⟨_, rfl⟩
  have hdl' : dl ≤ 17592186043904 := by rw [hdl]; exact hz
  have HI : Hid (Below N w W4 ∧ Bo W4 N [.slice rah hc.length rch, .int .i64 ht] 24 ∧ Bo W4 b1 [.slice ra1 hc.length rc1, .int .i64 ht] 24 ∧ (∃ ys, W4.ownsRow (N + 1) 3 1 (.slice ra1 hc.length rc1) hc.length (i64s ys)) ∧ Bo W4 b3 [.slice ra3 xc.length rc3, .int .i64 xt] 24 ∧ OR (b1 + 1) W4 (.slice ra3 xc.length rc3) xc ∧ Bo W4 b4 [.slice ra4 uc.length rc4, .int .i64 ut] 24 ∧ OR (b1 + 1) W4 (.slice ra4 uc.length rc4) uc) :=
    hidD ⟨HB.out, Xh.out, X1.out, ⟨hc, own_lower O1.out (by rw [HOS.out]; exact Nat.le_refl _)⟩, X3.out, O3.out, X4.out, O4.out⟩
  have HOB : Hid (∀ g, ra1 = some ⟨g, 0, none⟩ → g < b1) := hidD (HRB.out)
  clear HB HNW HNX Xh X1 O1 X3 O3 X4 O4 Z1 Z3 Z4 HNB HOS
  go_loopw [10] (fun i wr => ∃ k : Nat, k ≤ hc.length ∧ i = .int .i64 (k : Int) ∧ Hid (Below N w wr ∧ Bo wr N [.slice rah hc.length rch, .int .i64 ht] 24 ∧ Bo wr b1 [.slice ra1 hc.length rc1, .int .i64 ht] 24 ∧ (∃ ys, wr.ownsRow (N + 1) 3 1 (.slice ra1 hc.length rc1) hc.length (i64s ys)) ∧ Bo wr b3 [.slice ra3 xc.length rc3, .int .i64 xt] 24 ∧ OR (b1 + 1) wr (.slice ra3 xc.length rc3) xc ∧ Bo wr b4 [.slice ra4 uc.length rc4, .int .i64 ut] 24 ∧ OR (b1 + 1) wr (.slice ra4 uc.length rc4) uc)) (fun i _ => 17592186043905 - (intOf i).toNat)
  case atStart => exact ⟨0, Nat.zero_le _, rfl, HI⟩
  case round =>
    clear HI
    obtain ⟨k, hk, rfl, hJ⟩ := hrel
    obtain ⟨j1, j2, j3, ⟨ys, j4⟩, j5, j6, j7, j8⟩ := hJ.out
    have q0 := j3.cell 0 rfl
    by_cases hlt : k < hc.length
    · obtain ⟨gb, rfl⟩ := own_form j4 (by omega)
      obtain ⟨⟨vv, hv⟩, hf, hg1, hg2⟩ := own_at j4 k hlt
      have hgb := HOB.out gb rfl
      have h3 := HG3.out
      have h4 := HG4.out
      have KC := Cg.set (b := gb) wr k (.int .i64 77)
      have HJ2 : Hid (Below N w (wr.setCell ⟨gb, k, none⟩ (.int .i64 77)) ∧ Bo (wr.setCell ⟨gb, k, none⟩ (.int .i64 77)) N [.slice rah hc.length rch, .int .i64 ht] 24 ∧ Bo (wr.setCell ⟨gb, k, none⟩ (.int .i64 77)) b1 [.slice (some ⟨gb, 0, none⟩) hc.length rc1, .int .i64 ht] 24 ∧ (∃ ys, (wr.setCell ⟨gb, k, none⟩ (.int .i64 77)).ownsRow (N + 1) 3 1 (.slice (some ⟨gb, 0, none⟩) hc.length rc1) hc.length (i64s ys)) ∧ Bo (wr.setCell ⟨gb, k, none⟩ (.int .i64 77)) b3 [.slice ra3 xc.length rc3, .int .i64 xt] 24 ∧ OR (b1 + 1) (wr.setCell ⟨gb, k, none⟩ (.int .i64 77)) (.slice ra3 xc.length rc3) xc ∧ Bo (wr.setCell ⟨gb, k, none⟩ (.int .i64 77)) b4 [.slice ra4 uc.length rc4, .int .i64 ut] 24 ∧ OR (b1 + 1) (wr.setCell ⟨gb, k, none⟩ (.int .i64 77)) (.slice ra4 uc.length rc4) uc) :=
        hidD ⟨KC.below (by omega) (by have := j2.lt; omega) j1, KC.bo (by omega) j2, KC.bo (by omega) j3, ⟨_, own_put j4 k hlt 77⟩, KC.bo (by omega) j5, j6.cg KC (by omega), KC.bo (by omega) j7, j8.cg KC (by omega)⟩
      have hi : (k : Int) < (hc.length : Int) := by omega
      have hkw : IntKind.i64.wrap ((k : Int) + 1) = (k : Int) + 1 := wrap_ok (by omega) (by omega)
      clear j1 j2 j3 j4 j5 j6 j7 j8 hJ KC hg1 hg2 hgb h3 h4
      go_wp2_with fail
      exact ⟨⟨k + 1, by omega, by go_num, HJ2⟩, by simp [intOf]; omega⟩
    · have hke : k = hc.length := by omega
      subst hke
      have HB := hidD j1
      have Xh := hidD j2
      have X3 := hidD j5
      have O3 := hidD j6
      have X4 := hidD j7
      have O4 := hidD j8
      have HNW : Hid (N ≤ wr.heap.size) := hidD (Nat.le_of_lt j2.lt)
      obtain ⟨Oh, Ol⟩ := HLOW.out wr j1
      replace Oh := hidD Oh
      replace Ol := hidD Ol
      clear j1 j2 j3 j4 j5 j6 j7 j8 hJ
      have qh0 := Xh.out.cell 0 rfl
      have qh1 := Xh.out.cell 1 rfl
      have cA := CRA.out _ wr Oh.out Ol.out
      clear CRA
      go_wp2_with fail
      clear qh0 qh1 q0
      refine cA.mono ?_
      rintro e w5 ⟨r5, rfl, h5, o5⟩
      clear cA
      obtain ⟨ra5, rc5, rfl, _⟩ := id o5.seg
      replace HB := hidD (below_on HB.out HNW.out h5)
      replace HNW := hidD (Nat.le_trans HNW.out h5.size)
      replace Oh := hidD (Oh.out.below h5)
      replace Ol := hidD (Ol.out.below h5)
      replace Xh := hidD (Xh.out.below h5)
      replace X3 := hidD (X3.out.below h5)
      replace X4 := hidD (X4.out.below h5)
      replace O3 := hidD (O3.out.below h5)
      replace O4 := hidD (O4.out.below h5)
      have O5 := hidD (o5.below ((Below.refl w5.heap.size w5).alloc (Nat.le_refl _) (.cells #[.slice ra5 xc.length rc5, .int .i64 xt] 24))).seg
      have hb := (Below.refl w5.heap.size w5).alloc (Nat.le_refl _) (.cells #[.slice ra5 xc.length rc5, .int .i64 xt] 24)
      have X5 := hidD (Bo.new w5 (hL (.slice ra5 xc.length rc5) xt) 24)
      obtain ⟨b5, hb5⟩ : ∃ b5, b5 = w5.heap.size := ⟨_, rfl⟩
      obtain ⟨W5, hW5⟩ : ∃ W5, W5 = w5.alloc (.cells #[.slice ra5 xc.length rc5, .int .i64 xt] 24) := ⟨_, rfl⟩
      replace X5 : Hid (Bo W5 b5 [.slice ra5 xc.length rc5, .int .i64 xt] 24) := hidD (by rw [hW5, hb5]; exact X5.out)
      rw [← hW5] at O5 hb
      replace HB := hidD (below_on HB.out HNW.out hb)
      replace HNW := hidD (Nat.le_trans HNW.out hb.size)
      replace Oh := hidD (Oh.out.below hb)
      replace Ol := hidD (Ol.out.below hb)
      replace Xh := hidD (Xh.out.below hb)
      replace X3 := hidD (X3.out.below hb)
      replace X4 := hidD (X4.out.below hb)
      replace O3 := hidD (O3.out.below hb)
      replace O4 := hidD (O4.out.below hb)
      have Z5 : Hid (W5.heap.size = b5 + 1) := hidD (by rw [hW5, hb5, World.size_alloc])
      clear h5 o5 hb
      have qh0 := Xh.out.cell 0 rfl
      have qh1 := Xh.out.cell 1 rfl
      rw [hW5] at qh0 qh1
      go_wp2_with (fail)
      rw [← hb5, ← hW5]
      clear hb5 hW5
      clear qh0 qh1
      have hbu := (Below.refl W5.heap.size W5).alloc (Nat.le_refl _) (.cells #[.slice rah hc.length rch, .int .i64 ht] 24)
      have BU : Bo (W5.alloc (.cells #[.slice rah hc.length rch, .int .i64 ht] 24)) (b5 + 1) [.slice rah hc.length rch, .int .i64 ht] 24 := by rw [← Z5.out]; exact Bo.new W5 [.slice rah hc.length rch, .int .i64 ht] 24
      have cM := CRM.out (b5 + 1) (W5.alloc (.cells #[.slice rah hc.length rch, .int .i64 ht] 24)) (hrow_one (x := ⟨hc, ht⟩) BU (Oh.out.below hbu))
      clear CRM
      obtain ⟨V, hV⟩ : ∃ V, V = W5.alloc (.cells #[.slice rah hc.length rch, .int .i64 ht] 24) := ⟨_, rfl⟩
      rw [← hV] at hbu cM
      replace HB := hidD (below_on HB.out HNW.out hbu)
      replace HNW := hidD (Nat.le_trans HNW.out hbu.size)
      replace Oh := hidD (Oh.out.below hbu)
      replace Ol := hidD (Ol.out.below hbu)
      replace Xh := hidD (Xh.out.below hbu)
      replace X3 := hidD (X3.out.below hbu)
      replace X4 := hidD (X4.out.below hbu)
      replace O3 := hidD (O3.out.below hbu)
      replace O4 := hidD (O4.out.below hbu)
      replace O5 := hidD (O5.out.below hbu)
      replace X5 := hidD (X5.out.below hbu)
      clear hbu BU
      rw [← hV]
      clear hV
      refine cM.mono ?_
      rintro e w6 ⟨r6, rfl, h6, o6⟩
      clear cM
      obtain ⟨ra6, rc6, rfl, _⟩ := id o6.seg
      replace HB := hidD (below_on HB.out HNW.out h6)
      replace HNW := hidD (Nat.le_trans HNW.out h6.size)
      replace Oh := hidD (Oh.out.below h6)
      replace Ol := hidD (Ol.out.below h6)
      replace Xh := hidD (Xh.out.below h6)
      replace X3 := hidD (X3.out.below h6)
      replace X4 := hidD (X4.out.below h6)
      replace O3 := hidD (O3.out.below h6)
      replace O4 := hidD (O4.out.below h6)
      replace O5 := hidD (O5.out.below h6)
      replace X5 := hidD (X5.out.below h6)
      have O6 := hidD (o6.below ((Below.refl w6.heap.size w6).alloc (Nat.le_refl _) (.cells #[.slice ra6 uc.length rc6, .int .i64 ut] 24))).seg
      have hb := (Below.refl w6.heap.size w6).alloc (Nat.le_refl _) (.cells #[.slice ra6 uc.length rc6, .int .i64 ut] 24)
      have X6 := hidD (Bo.new w6 (hL (.slice ra6 uc.length rc6) ut) 24)
      obtain ⟨b6, hb6⟩ : ∃ b6, b6 = w6.heap.size := ⟨_, rfl⟩
      obtain ⟨W6, hW6⟩ : ∃ W6, W6 = w6.alloc (.cells #[.slice ra6 uc.length rc6, .int .i64 ut] 24) := ⟨_, rfl⟩
      replace X6 : Hid (Bo W6 b6 [.slice ra6 uc.length rc6, .int .i64 ut] 24) := hidD (by rw [hW6, hb6]; exact X6.out)
      rw [← hW6] at O6 hb
      replace HB := hidD (below_on HB.out HNW.out hb)
      replace HNW := hidD (Nat.le_trans HNW.out hb.size)
      replace Oh := hidD (Oh.out.below hb)
      replace Ol := hidD (Ol.out.below hb)
      replace Xh := hidD (Xh.out.below hb)
      replace X3 := hidD (X3.out.below hb)
      replace X4 := hidD (X4.out.below hb)
      replace O3 := hidD (O3.out.below hb)
      replace O4 := hidD (O4.out.below hb)
      replace O5 := hidD (O5.out.below hb)
      replace X5 := hidD (X5.out.below hb)
      have Z6 : Hid (W6.heap.size = b6 + 1) := hidD (by rw [hW6, hb6, World.size_alloc])
      clear h6 o6 hb
      replace O3 := hidD O3.out.seg
      replace O4 := hidD O4.out.seg
      have q30 := X3.out.cell 0 rfl
      have q31 := X3.out.cell 1 rfl
      rw [hW6] at q30 q31
      have q50 := X5.out.cell 0 rfl
      have q51 := X5.out.cell 1 rfl
      rw [hW6] at q50 q51
      have cS := rsame_any (.slice ra3 xc.length rc3) (.slice ra5 xc.length rc5) ⟨xc, xt⟩ ⟨xc, xt⟩ W6 O3.out O5.out
      rw [Hi.same_self] at cS
      dsimp only at cS
      go_wp2_with (first | (go_at_call 20; refine (num_any _ _).mono ?_; rintro e ww ⟨rfl, rfl⟩))
      rw [← hb6, ← hW6]
      clear hb6 hW6
      clear q30 q31
      clear q50 q51
      with_reducible refine cS.mono ?_
      rintro e w7 ⟨rfl, h7⟩
      clear cS
      replace HB := hidD (below_on HB.out HNW.out h7)
      replace HNW := hidD (Nat.le_trans HNW.out h7.size)
      replace Oh := hidD (Oh.out.below h7)
      replace Ol := hidD (Ol.out.below h7)
      replace Xh := hidD (Xh.out.below h7)
      replace X3 := hidD (X3.out.below h7)
      replace X4 := hidD (X4.out.below h7)
      replace O3 := hidD (O3.out.below h7)
      replace O4 := hidD (O4.out.below h7)
      replace O5 := hidD (O5.out.below h7)
      replace X5 := hidD (X5.out.below h7)
      replace O6 := hidD (O6.out.below h7)
      replace X6 := hidD (X6.out.below h7)
      clear h7
      have q40 := X4.out.cell 0 rfl
      have q41 := X4.out.cell 1 rfl
      have q60 := X6.out.cell 0 rfl
      have q61 := X6.out.cell 1 rfl
      have cS := rsame_any (.slice ra4 uc.length rc4) (.slice ra6 uc.length rc6) ⟨uc, ut⟩ ⟨uc, ut⟩ w7 O4.out O6.out
      rw [Hi.same_self] at cS
      dsimp only at cS
      go_wp2_with (first | (go_at_call 20; refine (num_any _ _).mono ?_; rintro e ww ⟨rfl, rfl⟩))
      clear q40 q41 q60 q61
      with_reducible refine cS.mono ?_
      rintro e w8 ⟨rfl, h8⟩
      clear cS
      replace HB := hidD (below_on HB.out HNW.out h8)
      replace HNW := hidD (Nat.le_trans HNW.out h8.size)
      replace Oh := hidD (Oh.out.below h8)
      replace Ol := hidD (Ol.out.below h8)
      replace Xh := hidD (Xh.out.below h8)
      replace X3 := hidD (X3.out.below h8)
      replace X4 := hidD (X4.out.below h8)
      replace O3 := hidD (O3.out.below h8)
      replace O4 := hidD (O4.out.below h8)
      replace O5 := hidD (O5.out.below h8)
      replace X5 := hidD (X5.out.below h8)
      replace O6 := hidD (O6.out.below h8)
      replace X6 := hidD (X6.out.below h8)
      clear h8
      go_wp2_with (first | (go_at_call 20; refine (num_any _ _).mono ?_; rintro e ww ⟨rfl, rfl⟩))
      go_ret
      exact ⟨by first | rfl | simp, HB.out⟩

set_option maxRecDepth 100000 in
theorem lifted (os : Os) (started : os.Started) (H : Type) (enc : TypeId × Value → H) :
    ReturnsInHanded {} Try.checked os 8 .any (Rows.histoOwnSpec.pre6 enc Try.prog Try.f8 Rows.histoOwnRow.domain false) (Rows.histoOwnSpec.post enc Try.prog Try.f8 false true false false) := by
  refine returnsInHanded_of_change_sized (C := Try.checked) own started (by kernel_rfl) Try.func8
    (ChangeSpec.witness6 (enc := enc) (C := Try.checked) false ⟨#[], #[.agg #[.slice none 0 0, .int .i64 0], .slice none 0 0], []⟩ 8 (by kernel_rfl) (by kernel_rfl) (by kernel_rfl) (by kernel_rfl)) ?_
  intro W base args ds gs before hval0 hW hcnd hsz0 _
  have hval : ∀ (j : Nat) t v, Try.f8.params[j]? = some t → args[j]? = some v → Value.okWide Try.prog W .any base t v := hval0
  have hsz : (DataW.weightsEach Try.prog (Try.f8.params.toList ++ Rows.histoOwnSpec.plain.varTypes Try.prog) (ds ++ gs)).all (· ≤ reachBytes) = true := hsz0
  have hW' := hW
  obtain ⟨p, q, hA0, hV, rfl, hfz, hnd⟩ := hW
  have hA : DataW.TrodAll enc Try.prog W 0 (fun _ => true) true Try.f8.params.toList args.toList ds p := hA0
  rw [Try.params8] at hA hval hsz
  obtain ⟨v0, vs0, d0, ds0, p0, q0, hargs, rfl, rfl, h0, r0⟩ := trodAll_cons hA
  obtain ⟨v1, vs1, d1, ds1, p1, q1, rfl, rfl, rfl, h1, r1⟩ := trodAll_cons r0
  obtain ⟨rfl, rfl, rfl⟩ := trodAll_nil r1
  obtain rfl : args = #[v0, v1] := by cases args; simp_all
  obtain ⟨rfl, rfl⟩ := trodVars_none hV
  have k0 := h0
  have lt0 : ∀ x ∈ p0, x.block < W.heap.size := by obtain ⟨m, hm⟩ := k0; exact DataW.trod_lt m _ _ _ hm
  obtain ⟨rr0, x0, hv0, hs0, ho0, hw0, parts0, hp0, e0⟩ := open_histo (hval 0 24 v0 rfl rfl) h0
  subst hv0
  subst hp0
  have z0 : x0.c.length ≤ 17592186043904 := by
    rcases e0 with e | ⟨elems, spare, hq, hl⟩
    · rw [e]; simp
    · rw [hl]; exact sized_histo hsz (j := 0) rfl rfl hq
  have k1 := h1
  have lt1 : ∀ x ∈ p1, x.block < W.heap.size := by obtain ⟨m, hm⟩ := k1; exact DataW.trod_lt m _ _ _ hm
  obtain ⟨l1, hs1, ho1, e1⟩ := open_numbers (hval 1 22 v1 rfl rfl) h1
  have z1 : l1.length ≤ 17592186043904 := by
    rcases e1 with ⟨_, rfl⟩ | ⟨elems, spare, rfl, hl⟩
    · simp
    · have := sized_slice hsz (j := 1) (t := 22) (e := 3) rfl rfl Try.underlying22
      rw [Try.bytesI] at this
      simp only [reachBytes] at this
      omega
  clear hA0 hval0
  refine (walk rr0 x0 hs0 ho0 hw0 z0 v1 l1 hs1 ho1 z1).mono fun e W' ⟨he, bel⟩ => ?_
  subst he
  exact ⟨_, rfl, _, _, _, [], _, [], hW', trodAll_mk1 (shut_bool Try.underlying4 _), (trodAll_cons_mk (Below.trod laidOut (by kernel_rfl) (of_decide_eq_true (by kernel_rfl)) k0 bel lt0) (trodAll_cons_mk (Below.trod laidOut (by kernel_rfl) (of_decide_eq_true (by kernel_rfl)) k1 bel lt1) trodAll_mk0)), rfl, bel.frame _, fun h => by cases h⟩

theorem over : Rows.histoOwnRow.holds Try.pinned (OpenSpec.ofChange Rows.histoOwnSpec) :=
  OpenClaim.holds_of_wide 8 Try.f8 rfl rfl rfl rfl rfl rfl rfl ⟨rfl, rfl, rfl, rfl, rfl⟩ rfl rfl rfl rfl rfl (by kernel_rfl) Try.func8 (by kernel_rfl)
    (of_decide_eq_true (by kernel_rfl)) (by unfold Func.isWrapper; first | (rw [if_pos (by decide +kernel)]; kernel_rfl) | (rw [if_neg (by decide +kernel)]; exact ⟨rfl, rfl⟩))
    (fun os started H enc _ => lifted os started H enc)
end Go.Proofs.Ythdaldgmolhljaa.histoOwn

namespace Go.Proofs.Ythdaldgmolhljaa
/-- THE STATEMENT. -/
theorem histoOwn_holds : Rows.HistoOwnSaid := histoOwn.over
#print axioms histoOwn_holds
end Go.Proofs.Ythdaldgmolhljaa
