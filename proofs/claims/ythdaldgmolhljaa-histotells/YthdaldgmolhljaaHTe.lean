/- For any two histograms, all numbers, any number and any share: a number's bucket, a bucket's top, whether a histogram may be, what numbers make of it, its quantiles, and two put together, are as the page says, and it stays (the law HistoTells answers true), and no other memory is touched. -/
import Derived.Test.YthdaldgmolhljaaRows
import Derived.BigQuiet
import Derived.Deep.QuietTactic
import Derived.WalkKit
import Derived.ProofKit
import Derived.OpenShut
import Derived.ShutString
import Derived.Test.YthdaldgmolhljaaHsO
import Derived.Test.YthdaldgmolhljaaOpenH
namespace Go.Proofs.Ythdaldgmolhljaa.histoTells
open Go.ChangeShapes Go.WideShapes Go.ChangeAt Go.RowKit
open Go.ChangeMaps (open_string shut_string)
set_option linter.unusedVariables false
set_option maxRecDepth 20000

set_option maxHeartbeats 16000000 in
theorem walk (rr : Value) (h : Hi.H) {w : World} (hs : Seg .i64 w rr h.c) (ho : ∀ z, z ∈ h.c → (Lit.int .i64 z).wf = true) (hw : (Lit.int .i64 h.t).wf = true) (hz : h.c.length ≤ 17592186043904) (rq : Value) (g : Hi.H) (gs : Seg .i64 w rq g.c) (go : ∀ z, z ∈ g.c → (Lit.int .i64 z).wf = true) (gw : (Lit.int .i64 g.t).wf = true) (gz : g.c.length ≤ 17592186043904) (v : Value) (l : List Int) (ls : Seg .i64 w v l) (lo : ∀ z ∈ l, -9223372036854775808 ≤ z ∧ z ≤ 9223372036854775807) (lz : l.length ≤ 17592186043904) (n : Int) (wn : (Lit.int .i64 n).wf = true) (m : Int) (wm : (Lit.int .i64 m).wf = true) :
    Calls Try.prog 3 #[vH rr h.t, vH rq g.t, v, .int .i64 n, .int .i64 m] w fun e w' => e = .returned (.bool true) ∧ Below w.heap.size w w' := by
  clear ho hw go gw lo wn wm
  obtain ⟨hc, ht⟩ := h
  obtain ⟨gc, gt⟩ := g
  dsimp only at hs gs hz gz ⊢
  obtain ⟨rah, rch, rfl, _⟩ := id hs
  obtain ⟨rao, rco, rfl, _⟩ := id gs
  obtain ⟨ral, rcl, rfl, _⟩ := id ls
  obtain ⟨W0, hW0, Xh, Xo, HB, HS⟩ := two_boxes w (hL (.slice rah hc.length rch) ht) (hL (.slice rao gc.length rco) gt) 24 24
  have Oh := hidD (hs.below HB)
  have Oo := hidD (gs.below HB)
  have Ol := hidD (ls.below HB)
  obtain ⟨N, hN⟩ : ∃ N, N = w.heap.size := ⟨_, rfl⟩
  rw [← hN] at Xh Xo HB HS ⊢
  replace Xh := hidD Xh
  replace Xo := hidD Xo
  replace HB := hidD HB
  have HN := hidD hN
  have HNW : Hid (N ≤ W0.heap.size) := hidD (by omega)
  simp only [hL] at hW0
  obtain ⟨bk, hbk⟩ : ∃ bk, bk = Hi.bkR n := ⟨_, rfl⟩
  obtain ⟨be, hbe⟩ : ∃ be, be = Hi.bkE n := ⟨_, rfl⟩
  obtain ⟨tk, htk⟩ : ∃ tk, tk = Hi.tpR n := ⟨_, rfl⟩
  obtain ⟨te, hte⟩ : ∃ te, te = Hi.tpE n := ⟨_, rfl⟩
  obtain ⟨x, hx⟩ : ∃ x, x = Hi.addR ⟨hc, ht⟩ l := ⟨_, rfl⟩
  obtain ⟨xe, hxe⟩ : ∃ xe, xe = Hi.addE ⟨hc, ht⟩ l := ⟨_, rfl⟩
  obtain ⟨qr, hqr⟩ : ∃ qr, qr = Hi.quR ⟨hc, ht⟩ m := ⟨_, rfl⟩
  obtain ⟨qe, hqe⟩ : ∃ qe, qe = Hi.quE ⟨hc, ht⟩ m := ⟨_, rfl⟩
  obtain ⟨u, hu⟩ : ∃ u, u = Hi.merR [⟨hc, ht⟩, ⟨gc, gt⟩] := ⟨_, rfl⟩
  obtain ⟨ue, hue⟩ : ∃ ue, ue = Hi.merE [⟨hc, ht⟩, ⟨gc, gt⟩] := ⟨_, rfl⟩
  obtain ⟨ck, hck⟩ : ∃ ck, ck = Hi.chk ⟨hc, ht⟩ := ⟨_, rfl⟩
  obtain ⟨xc, xt⟩ := x
  obtain ⟨uc, ut⟩ := u
  have C1 := hidD (own_any (.slice rah hc.length rch) ⟨hc, ht⟩ W0 Oh.out (by dsimp only; omega))
  have CB := hidD (fun W => bucket_any n W)
  have CRB := hidD (fun W => rbucket_any n W)
  have CT := hidD (fun W => top_any n W)
  have CRT := hidD (fun W => rtop_any n W)
  have CA := hidD (fun (r : Value) (W : World) (h : Seg .i64 W r hc) (k : Seg .i64 W (.slice ral l.length rcl) l) => add_any r (.slice ral l.length rcl) ⟨hc, ht⟩ l W h k (by omega))
  have CRA := hidD (fun (r : Value) (W : World) (h : Seg .i64 W r hc) (k : Seg .i64 W (.slice ral l.length rcl) l) => radd_any r (.slice ral l.length rcl) ⟨hc, ht⟩ l W h k (by omega))
  have CQ := hidD (fun (r : Value) (W : World) (h : Seg .i64 W r hc) => quantile_any r ⟨hc, ht⟩ m W h)
  have CRQ := hidD (fun (r : Value) (W : World) (h : Seg .i64 W r hc) => rquantile_any r ⟨hc, ht⟩ m W h)
  have CM := hidD (fun (g : Nat) (W : World) (h : HRow W g [⟨hc, ht⟩, ⟨gc, gt⟩]) => merge_any g 2 2 [⟨hc, ht⟩, ⟨gc, gt⟩] W h rfl (Nat.le_refl _) (by decide))
  have CRM := hidD (fun (g : Nat) (W : World) (h : HRow W g [⟨hc, ht⟩, ⟨gc, gt⟩]) => rmerge_any g 2 2 [⟨hc, ht⟩, ⟨gc, gt⟩] W h rfl (Nat.le_refl _) (by decide))
  have CK := hidD (fun (r : Value) (W : World) (h : Seg .i64 W r hc) => check_any r ⟨hc, ht⟩ W h)
  have CRK := hidD (fun (r : Value) (W : World) (h : Seg .i64 W r hc) => rcheck_any r ⟨hc, ht⟩ W h)
  rw [← hbk, ← hbe] at CB CRB
  rw [← htk, ← hte] at CT CRT
  rw [← hx, ← hxe] at CA CRA
  rw [← hqr, ← hqe] at CQ CRQ
  rw [← hu, ← hue] at CM CRM
  rw [← hck] at CK CRK
  dsimp only at C1 CA CRA CQ CRQ CM CRM CK CRK
  clear hs gs ls hz gz lz hbk hbe htk hte hx hxe hqr hqe hu hue hck HS
  go_enter Try.func3, Try.ntmps3
  go_wp2_with fail
  rw [← hN, ← hW0]
  clear hN hW0
  refine C1.out.mono ?_
  rintro e w1 ⟨r1, rfl, h1, o1⟩
  clear C1
  replace o1 := Seg.own o1
  obtain ⟨ra1, rc1, rfl, _⟩ := id o1
  replace HB := hidD (below_on HB.out HNW.out h1)
  replace HNW := hidD (Nat.le_trans HNW.out h1.size)
  replace Oh := hidD (Oh.out.below h1)
  replace Oo := hidD (Oo.out.below h1)
  replace Ol := hidD (Ol.out.below h1)
  replace Xh := hidD (Xh.out.below h1)
  replace Xo := hidD (Xo.out.below h1)
  have O1 := hidD (o1.below ((Below.refl w1.heap.size w1).alloc (Nat.le_refl _) (.cells #[.slice ra1 hc.length rc1, .int .i64 ht] 24)))
  have hb := (Below.refl w1.heap.size w1).alloc (Nat.le_refl _) (.cells #[.slice ra1 hc.length rc1, .int .i64 ht] 24)
  have X1 := hidD (Bo.new w1 (hL (.slice ra1 hc.length rc1) ht) 24)
  obtain ⟨b1, hb1⟩ : ∃ b1, b1 = w1.heap.size := ⟨_, rfl⟩
  obtain ⟨W1, hW1⟩ : ∃ W1, W1 = w1.alloc (.cells #[.slice ra1 hc.length rc1, .int .i64 ht] 24) := ⟨_, rfl⟩
  replace X1 : Hid (Bo W1 b1 [.slice ra1 hc.length rc1, .int .i64 ht] 24) := hidD (by rw [hW1, hb1]; exact X1.out)
  rw [← hW1] at O1 hb
  replace HB := hidD (below_on HB.out HNW.out hb)
  replace HNW := hidD (Nat.le_trans HNW.out hb.size)
  replace Oh := hidD (Oh.out.below hb)
  replace Oo := hidD (Oo.out.below hb)
  replace Ol := hidD (Ol.out.below hb)
  replace Xh := hidD (Xh.out.below hb)
  replace Xo := hidD (Xo.out.below hb)
  have Z1 : Hid (W1.heap.size = b1 + 1) := hidD (by rw [hW1, hb1, World.size_alloc])
  clear h1 o1 hb
  go_wp2_with (fail)
  rw [← hb1, ← hW1]
  clear hb1 hW1
  with_reducible refine (CB.out _).mono ?_
  rintro e ww ⟨rfl, rfl⟩
  clear CB
  go_wp2_with fail
  with_reducible refine (CRB.out _).mono ?_
  rintro e ww ⟨rfl, rfl⟩
  clear CRB
  go_wp2_with fail
  with_reducible refine (CT.out _).mono ?_
  rintro e ww ⟨rfl, rfl⟩
  clear CT
  go_wp2_with fail
  with_reducible refine (CRT.out _).mono ?_
  rintro e w2 ⟨rfl, h2⟩
  clear CRT
  replace HB := hidD (below_on HB.out HNW.out h2)
  replace HNW := hidD (Nat.le_trans HNW.out h2.size)
  replace Oh := hidD (Oh.out.below h2)
  replace Oo := hidD (Oo.out.below h2)
  replace Ol := hidD (Ol.out.below h2)
  replace Xh := hidD (Xh.out.below h2)
  replace Xo := hidD (Xo.out.below h2)
  replace O1 := hidD (O1.out.below h2)
  replace X1 := hidD (X1.out.below h2)
  clear h2
  have q10 := X1.out.cell 0 rfl
  have q11 := X1.out.cell 1 rfl
  have cA := CA.out _ w2 O1.out Ol.out
  clear CA
  go_wp2_with fail
  clear q10 q11
  refine cA.mono ?_
  rintro e w3 ⟨r3, rfl, h3, o3⟩
  clear cA
  obtain ⟨ra3, rc3, rfl, _⟩ := id o3.seg
  replace HB := hidD (below_on HB.out HNW.out h3)
  replace HNW := hidD (Nat.le_trans HNW.out h3.size)
  replace Oh := hidD (Oh.out.below h3)
  replace Oo := hidD (Oo.out.below h3)
  replace Ol := hidD (Ol.out.below h3)
  replace Xh := hidD (Xh.out.below h3)
  replace Xo := hidD (Xo.out.below h3)
  replace O1 := hidD (O1.out.below h3)
  replace X1 := hidD (X1.out.below h3)
  have O3 := hidD (o3.below ((Below.refl w3.heap.size w3).alloc (Nat.le_refl _) (.cells #[.slice ra3 xc.length rc3, .int .i64 xt] 24))).seg
  have hb := (Below.refl w3.heap.size w3).alloc (Nat.le_refl _) (.cells #[.slice ra3 xc.length rc3, .int .i64 xt] 24)
  have X3 := hidD (Bo.new w3 (hL (.slice ra3 xc.length rc3) xt) 24)
  obtain ⟨b3, hb3⟩ : ∃ b3, b3 = w3.heap.size := ⟨_, rfl⟩
  obtain ⟨W3, hW3⟩ : ∃ W3, W3 = w3.alloc (.cells #[.slice ra3 xc.length rc3, .int .i64 xt] 24) := ⟨_, rfl⟩
  replace X3 : Hid (Bo W3 b3 [.slice ra3 xc.length rc3, .int .i64 xt] 24) := hidD (by rw [hW3, hb3]; exact X3.out)
  rw [← hW3] at O3 hb
  replace HB := hidD (below_on HB.out HNW.out hb)
  replace HNW := hidD (Nat.le_trans HNW.out hb.size)
  replace Oh := hidD (Oh.out.below hb)
  replace Oo := hidD (Oo.out.below hb)
  replace Ol := hidD (Ol.out.below hb)
  replace Xh := hidD (Xh.out.below hb)
  replace Xo := hidD (Xo.out.below hb)
  replace O1 := hidD (O1.out.below hb)
  replace X1 := hidD (X1.out.below hb)
  have Z3 : Hid (W3.heap.size = b3 + 1) := hidD (by rw [hW3, hb3, World.size_alloc])
  clear h3 o3 hb
  have cA := CRA.out _ W3 Oh.out Ol.out
  clear CRA
  have qh0 := Xh.out.cell 0 rfl
  have qh1 := Xh.out.cell 1 rfl
  rw [hW3] at qh0 qh1
  go_wp2_with (fail)
  rw [← hb3, ← hW3]
  clear hb3 hW3
  clear qh0 qh1
  refine cA.mono ?_
  rintro e w4 ⟨r4, rfl, h4, o4⟩
  clear cA
  obtain ⟨ra4, rc4, rfl, _⟩ := id o4.seg
  replace HB := hidD (below_on HB.out HNW.out h4)
  replace HNW := hidD (Nat.le_trans HNW.out h4.size)
  replace Oh := hidD (Oh.out.below h4)
  replace Oo := hidD (Oo.out.below h4)
  replace Ol := hidD (Ol.out.below h4)
  replace Xh := hidD (Xh.out.below h4)
  replace Xo := hidD (Xo.out.below h4)
  replace O1 := hidD (O1.out.below h4)
  replace X1 := hidD (X1.out.below h4)
  replace O3 := hidD (O3.out.below h4)
  replace X3 := hidD (X3.out.below h4)
  have O4 := hidD (o4.below ((Below.refl w4.heap.size w4).alloc (Nat.le_refl _) (.cells #[.slice ra4 xc.length rc4, .int .i64 xt] 24))).seg
  have hb := (Below.refl w4.heap.size w4).alloc (Nat.le_refl _) (.cells #[.slice ra4 xc.length rc4, .int .i64 xt] 24)
  have X4 := hidD (Bo.new w4 (hL (.slice ra4 xc.length rc4) xt) 24)
  obtain ⟨b4, hb4⟩ : ∃ b4, b4 = w4.heap.size := ⟨_, rfl⟩
  obtain ⟨W4, hW4⟩ : ∃ W4, W4 = w4.alloc (.cells #[.slice ra4 xc.length rc4, .int .i64 xt] 24) := ⟨_, rfl⟩
  replace X4 : Hid (Bo W4 b4 [.slice ra4 xc.length rc4, .int .i64 xt] 24) := hidD (by rw [hW4, hb4]; exact X4.out)
  rw [← hW4] at O4 hb
  replace HB := hidD (below_on HB.out HNW.out hb)
  replace HNW := hidD (Nat.le_trans HNW.out hb.size)
  replace Oh := hidD (Oh.out.below hb)
  replace Oo := hidD (Oo.out.below hb)
  replace Ol := hidD (Ol.out.below hb)
  replace Xh := hidD (Xh.out.below hb)
  replace Xo := hidD (Xo.out.below hb)
  replace O1 := hidD (O1.out.below hb)
  replace X1 := hidD (X1.out.below hb)
  replace O3 := hidD (O3.out.below hb)
  replace X3 := hidD (X3.out.below hb)
  have Z4 : Hid (W4.heap.size = b4 + 1) := hidD (by rw [hW4, hb4, World.size_alloc])
  clear h4 o4 hb
  have cQ := CQ.out _ W4 O1.out
  clear CQ
  have q10 := X1.out.cell 0 rfl
  have q11 := X1.out.cell 1 rfl
  rw [hW4] at q10 q11
  go_wp2_with (fail)
  rw [← hb4, ← hW4]
  clear hb4 hW4
  clear q10 q11
  with_reducible refine cQ.mono ?_
  rintro e w5 ⟨rfl, h5⟩
  clear cQ
  replace HB := hidD (below_on HB.out HNW.out h5)
  replace HNW := hidD (Nat.le_trans HNW.out h5.size)
  replace Oh := hidD (Oh.out.below h5)
  replace Oo := hidD (Oo.out.below h5)
  replace Ol := hidD (Ol.out.below h5)
  replace Xh := hidD (Xh.out.below h5)
  replace Xo := hidD (Xo.out.below h5)
  replace O1 := hidD (O1.out.below h5)
  replace X1 := hidD (X1.out.below h5)
  replace O3 := hidD (O3.out.below h5)
  replace X3 := hidD (X3.out.below h5)
  replace O4 := hidD (O4.out.below h5)
  replace X4 := hidD (X4.out.below h5)
  clear h5
  have cQ := CRQ.out _ w5 Oh.out
  clear CRQ
  have qh0 := Xh.out.cell 0 rfl
  have qh1 := Xh.out.cell 1 rfl
  go_wp2_with fail
  clear qh0 qh1
  with_reducible refine cQ.mono ?_
  rintro e w6 ⟨rfl, h6⟩
  clear cQ
  replace HB := hidD (below_on HB.out HNW.out h6)
  replace HNW := hidD (Nat.le_trans HNW.out h6.size)
  replace Oh := hidD (Oh.out.below h6)
  replace Oo := hidD (Oo.out.below h6)
  replace Ol := hidD (Ol.out.below h6)
  replace Xh := hidD (Xh.out.below h6)
  replace Xo := hidD (Xo.out.below h6)
  replace O1 := hidD (O1.out.below h6)
  replace X1 := hidD (X1.out.below h6)
  replace O3 := hidD (O3.out.below h6)
  replace X3 := hidD (X3.out.below h6)
  replace O4 := hidD (O4.out.below h6)
  replace X4 := hidD (X4.out.below h6)
  clear h6
  have q10 := X1.out.cell 0 rfl
  have q11 := X1.out.cell 1 rfl
  have qo0 := Xo.out.cell 0 rfl
  have qo1 := Xo.out.cell 1 rfl
  go_wp2_with fail
  clear q10 q11 qo0 qo1
  have hbu := (Below.refl w6.heap.size w6).alloc (Nat.le_refl _) (.cells #[.slice ra1 hc.length rc1, .int .i64 ht, .slice rao gc.length rco, .int .i64 gt] 24)
  have BU : Bo (w6.alloc (.cells #[.slice ra1 hc.length rc1, .int .i64 ht, .slice rao gc.length rco, .int .i64 gt] 24)) (w6.heap.size) [.slice ra1 hc.length rc1, .int .i64 ht, .slice rao gc.length rco, .int .i64 gt] 24 := by exact Bo.new w6 [.slice ra1 hc.length rc1, .int .i64 ht, .slice rao gc.length rco, .int .i64 gt] 24
  have cM := CM.out (w6.heap.size) (w6.alloc (.cells #[.slice ra1 hc.length rc1, .int .i64 ht, .slice rao gc.length rco, .int .i64 gt] 24)) (hrow_two (x := ⟨hc, ht⟩) (y := ⟨gc, gt⟩) BU (O1.out.below hbu) (Oo.out.below hbu))
  clear CM
  obtain ⟨V, hV⟩ : ∃ V, V = w6.alloc (.cells #[.slice ra1 hc.length rc1, .int .i64 ht, .slice rao gc.length rco, .int .i64 gt] 24) := ⟨_, rfl⟩
  rw [← hV] at hbu cM
  replace HB := hidD (below_on HB.out HNW.out hbu)
  replace HNW := hidD (Nat.le_trans HNW.out hbu.size)
  replace Oh := hidD (Oh.out.below hbu)
  replace Oo := hidD (Oo.out.below hbu)
  replace Ol := hidD (Ol.out.below hbu)
  replace Xh := hidD (Xh.out.below hbu)
  replace Xo := hidD (Xo.out.below hbu)
  replace O1 := hidD (O1.out.below hbu)
  replace X1 := hidD (X1.out.below hbu)
  replace O3 := hidD (O3.out.below hbu)
  replace X3 := hidD (X3.out.below hbu)
  replace O4 := hidD (O4.out.below hbu)
  replace X4 := hidD (X4.out.below hbu)
  clear hbu BU
  rw [← hV]
  clear hV
  refine cM.mono ?_
  rintro e w7 ⟨r7, rfl, h7, o7⟩
  clear cM
  obtain ⟨ra7, rc7, rfl, _⟩ := id o7.seg
  replace HB := hidD (below_on HB.out HNW.out h7)
  replace HNW := hidD (Nat.le_trans HNW.out h7.size)
  replace Oh := hidD (Oh.out.below h7)
  replace Oo := hidD (Oo.out.below h7)
  replace Ol := hidD (Ol.out.below h7)
  replace Xh := hidD (Xh.out.below h7)
  replace Xo := hidD (Xo.out.below h7)
  replace O1 := hidD (O1.out.below h7)
  replace X1 := hidD (X1.out.below h7)
  replace O3 := hidD (O3.out.below h7)
  replace X3 := hidD (X3.out.below h7)
  replace O4 := hidD (O4.out.below h7)
  replace X4 := hidD (X4.out.below h7)
  have O7 := hidD (o7.below ((Below.refl w7.heap.size w7).alloc (Nat.le_refl _) (.cells #[.slice ra7 uc.length rc7, .int .i64 ut] 24))).seg
  have hb := (Below.refl w7.heap.size w7).alloc (Nat.le_refl _) (.cells #[.slice ra7 uc.length rc7, .int .i64 ut] 24)
  have X7 := hidD (Bo.new w7 (hL (.slice ra7 uc.length rc7) ut) 24)
  obtain ⟨b7, hb7⟩ : ∃ b7, b7 = w7.heap.size := ⟨_, rfl⟩
  obtain ⟨W7, hW7⟩ : ∃ W7, W7 = w7.alloc (.cells #[.slice ra7 uc.length rc7, .int .i64 ut] 24) := ⟨_, rfl⟩
  replace X7 : Hid (Bo W7 b7 [.slice ra7 uc.length rc7, .int .i64 ut] 24) := hidD (by rw [hW7, hb7]; exact X7.out)
  rw [← hW7] at O7 hb
  replace HB := hidD (below_on HB.out HNW.out hb)
  replace HNW := hidD (Nat.le_trans HNW.out hb.size)
  replace Oh := hidD (Oh.out.below hb)
  replace Oo := hidD (Oo.out.below hb)
  replace Ol := hidD (Ol.out.below hb)
  replace Xh := hidD (Xh.out.below hb)
  replace Xo := hidD (Xo.out.below hb)
  replace O1 := hidD (O1.out.below hb)
  replace X1 := hidD (X1.out.below hb)
  replace O3 := hidD (O3.out.below hb)
  replace X3 := hidD (X3.out.below hb)
  replace O4 := hidD (O4.out.below hb)
  replace X4 := hidD (X4.out.below hb)
  have Z7 : Hid (W7.heap.size = b7 + 1) := hidD (by rw [hW7, hb7, World.size_alloc])
  clear h7 o7 hb
  have qh0 := Xh.out.cell 0 rfl
  have qh1 := Xh.out.cell 1 rfl
  rw [hW7] at qh0 qh1
  have qo0 := Xo.out.cell 0 rfl
  have qo1 := Xo.out.cell 1 rfl
  rw [hW7] at qo0 qo1
  go_wp2_with (fail)
  rw [← hb7, ← hW7]
  clear hb7 hW7
  clear qh0 qh1
  clear qo0 qo1
  have hbu := (Below.refl W7.heap.size W7).alloc (Nat.le_refl _) (.cells #[.slice rah hc.length rch, .int .i64 ht, .slice rao gc.length rco, .int .i64 gt] 24)
  have BU : Bo (W7.alloc (.cells #[.slice rah hc.length rch, .int .i64 ht, .slice rao gc.length rco, .int .i64 gt] 24)) (b7 + 1) [.slice rah hc.length rch, .int .i64 ht, .slice rao gc.length rco, .int .i64 gt] 24 := by rw [← Z7.out]; exact Bo.new W7 [.slice rah hc.length rch, .int .i64 ht, .slice rao gc.length rco, .int .i64 gt] 24
  have cM := CRM.out (b7 + 1) (W7.alloc (.cells #[.slice rah hc.length rch, .int .i64 ht, .slice rao gc.length rco, .int .i64 gt] 24)) (hrow_two (x := ⟨hc, ht⟩) (y := ⟨gc, gt⟩) BU (Oh.out.below hbu) (Oo.out.below hbu))
  clear CRM
  obtain ⟨V, hV⟩ : ∃ V, V = W7.alloc (.cells #[.slice rah hc.length rch, .int .i64 ht, .slice rao gc.length rco, .int .i64 gt] 24) := ⟨_, rfl⟩
  rw [← hV] at hbu cM
  replace HB := hidD (below_on HB.out HNW.out hbu)
  replace HNW := hidD (Nat.le_trans HNW.out hbu.size)
  replace Oh := hidD (Oh.out.below hbu)
  replace Oo := hidD (Oo.out.below hbu)
  replace Ol := hidD (Ol.out.below hbu)
  replace Xh := hidD (Xh.out.below hbu)
  replace Xo := hidD (Xo.out.below hbu)
  replace O1 := hidD (O1.out.below hbu)
  replace X1 := hidD (X1.out.below hbu)
  replace O3 := hidD (O3.out.below hbu)
  replace X3 := hidD (X3.out.below hbu)
  replace O4 := hidD (O4.out.below hbu)
  replace X4 := hidD (X4.out.below hbu)
  replace O7 := hidD (O7.out.below hbu)
  replace X7 := hidD (X7.out.below hbu)
  clear hbu BU
  rw [← hV]
  clear hV
  refine cM.mono ?_
  rintro e w8 ⟨r8, rfl, h8, o8⟩
  clear cM
  obtain ⟨ra8, rc8, rfl, _⟩ := id o8.seg
  replace HB := hidD (below_on HB.out HNW.out h8)
  replace HNW := hidD (Nat.le_trans HNW.out h8.size)
  replace Oh := hidD (Oh.out.below h8)
  replace Oo := hidD (Oo.out.below h8)
  replace Ol := hidD (Ol.out.below h8)
  replace Xh := hidD (Xh.out.below h8)
  replace Xo := hidD (Xo.out.below h8)
  replace O1 := hidD (O1.out.below h8)
  replace X1 := hidD (X1.out.below h8)
  replace O3 := hidD (O3.out.below h8)
  replace X3 := hidD (X3.out.below h8)
  replace O4 := hidD (O4.out.below h8)
  replace X4 := hidD (X4.out.below h8)
  replace O7 := hidD (O7.out.below h8)
  replace X7 := hidD (X7.out.below h8)
  have O8 := hidD (o8.below ((Below.refl w8.heap.size w8).alloc (Nat.le_refl _) (.cells #[.slice ra8 uc.length rc8, .int .i64 ut] 24))).seg
  have hb := (Below.refl w8.heap.size w8).alloc (Nat.le_refl _) (.cells #[.slice ra8 uc.length rc8, .int .i64 ut] 24)
  have X8 := hidD (Bo.new w8 (hL (.slice ra8 uc.length rc8) ut) 24)
  obtain ⟨b8, hb8⟩ : ∃ b8, b8 = w8.heap.size := ⟨_, rfl⟩
  obtain ⟨W8, hW8⟩ : ∃ W8, W8 = w8.alloc (.cells #[.slice ra8 uc.length rc8, .int .i64 ut] 24) := ⟨_, rfl⟩
  replace X8 : Hid (Bo W8 b8 [.slice ra8 uc.length rc8, .int .i64 ut] 24) := hidD (by rw [hW8, hb8]; exact X8.out)
  rw [← hW8] at O8 hb
  replace HB := hidD (below_on HB.out HNW.out hb)
  replace HNW := hidD (Nat.le_trans HNW.out hb.size)
  replace Oh := hidD (Oh.out.below hb)
  replace Oo := hidD (Oo.out.below hb)
  replace Ol := hidD (Ol.out.below hb)
  replace Xh := hidD (Xh.out.below hb)
  replace Xo := hidD (Xo.out.below hb)
  replace O1 := hidD (O1.out.below hb)
  replace X1 := hidD (X1.out.below hb)
  replace O3 := hidD (O3.out.below hb)
  replace X3 := hidD (X3.out.below hb)
  replace O4 := hidD (O4.out.below hb)
  replace X4 := hidD (X4.out.below hb)
  replace O7 := hidD (O7.out.below hb)
  replace X7 := hidD (X7.out.below hb)
  have Z8 : Hid (W8.heap.size = b8 + 1) := hidD (by rw [hW8, hb8, World.size_alloc])
  clear h8 o8 hb
  have q30 := X3.out.cell 0 rfl
  have q31 := X3.out.cell 1 rfl
  rw [hW8] at q30 q31
  have q40 := X4.out.cell 0 rfl
  have q41 := X4.out.cell 1 rfl
  rw [hW8] at q40 q41
  have cS := rsame_any (.slice ra3 xc.length rc3) (.slice ra4 xc.length rc4) ⟨xc, xt⟩ ⟨xc, xt⟩ W8 O3.out O4.out
  rw [Hi.same_self] at cS
  dsimp only at cS
  go_wp2_with (first | (go_at_call 20; refine (num_any _ _).mono ?_; rintro e ww ⟨rfl, rfl⟩))
  rw [← hb8, ← hW8]
  clear hb8 hW8
  clear q30 q31
  clear q40 q41
  with_reducible refine cS.mono ?_
  rintro e w9 ⟨rfl, h9⟩
  clear cS
  replace HB := hidD (below_on HB.out HNW.out h9)
  replace HNW := hidD (Nat.le_trans HNW.out h9.size)
  replace Oh := hidD (Oh.out.below h9)
  replace Oo := hidD (Oo.out.below h9)
  replace Ol := hidD (Ol.out.below h9)
  replace Xh := hidD (Xh.out.below h9)
  replace Xo := hidD (Xo.out.below h9)
  replace O1 := hidD (O1.out.below h9)
  replace X1 := hidD (X1.out.below h9)
  replace O3 := hidD (O3.out.below h9)
  replace X3 := hidD (X3.out.below h9)
  replace O4 := hidD (O4.out.below h9)
  replace X4 := hidD (X4.out.below h9)
  replace O7 := hidD (O7.out.below h9)
  replace X7 := hidD (X7.out.below h9)
  replace O8 := hidD (O8.out.below h9)
  replace X8 := hidD (X8.out.below h9)
  clear h9
  have q70 := X7.out.cell 0 rfl
  have q71 := X7.out.cell 1 rfl
  have q80 := X8.out.cell 0 rfl
  have q81 := X8.out.cell 1 rfl
  have cS := rsame_any (.slice ra7 uc.length rc7) (.slice ra8 uc.length rc8) ⟨uc, ut⟩ ⟨uc, ut⟩ w9 O7.out O8.out
  rw [Hi.same_self] at cS
  dsimp only at cS
  go_wp2_with (first | (go_at_call 20; refine (num_any _ _).mono ?_; rintro e ww ⟨rfl, rfl⟩))
  clear q70 q71 q80 q81
  with_reducible refine cS.mono ?_
  rintro e w10 ⟨rfl, h10⟩
  clear cS
  replace HB := hidD (below_on HB.out HNW.out h10)
  replace HNW := hidD (Nat.le_trans HNW.out h10.size)
  replace Oh := hidD (Oh.out.below h10)
  replace Oo := hidD (Oo.out.below h10)
  replace Ol := hidD (Ol.out.below h10)
  replace Xh := hidD (Xh.out.below h10)
  replace Xo := hidD (Xo.out.below h10)
  replace O1 := hidD (O1.out.below h10)
  replace X1 := hidD (X1.out.below h10)
  replace O3 := hidD (O3.out.below h10)
  replace X3 := hidD (X3.out.below h10)
  replace O4 := hidD (O4.out.below h10)
  replace X4 := hidD (X4.out.below h10)
  replace O7 := hidD (O7.out.below h10)
  replace X7 := hidD (X7.out.below h10)
  replace O8 := hidD (O8.out.below h10)
  replace X8 := hidD (X8.out.below h10)
  clear h10
  go_wp2_with (first | (go_at_call 20; refine (num_any _ _).mono ?_; rintro e ww ⟨rfl, rfl⟩))
  have O1d : Seg .i64 w10.drew (.slice ra1 hc.length rc1) hc := O1.out
  have Ohd : Seg .i64 w10.drew (.slice rah hc.length rch) hc := Oh.out
  have X1d : Bo w10.drew b1 [.slice ra1 hc.length rc1, .int .i64 ht] 24 := X1.out
  have Xhd : Bo w10.drew N [.slice rah hc.length rch, .int .i64 ht] 24 := Xh.out
  have q10 := X1d.cell 0 rfl
  have q11 := X1d.cell 1 rfl
  have qh0 := Xhd.cell 0 rfl
  have qh1 := Xhd.cell 1 rfl
  have HBd := hidD (belowD_drew HB.out)
  have HNd : Hid (N ≤ w10.drew.heap.size) := hidD HNW.out
  replace O1d := hidD O1d
  replace Ohd := hidD Ohd
  replace X1d := hidD X1d
  replace Xhd := hidD Xhd
  clear O1 Oh Oo Ol Xh Xo X1 O3 X3 O4 X4 O7 X7 O8 X8 Z1 Z3 Z4 Z7 Z8 HB HNW HN
  go_region_with (first
    | (go_at_call 20; refine (num_any _ _).mono ?_; rintro e ww ⟨rfl, rfl⟩)
    | (go_at_call 22; refine (CK.out _ w10.drew O1d.out).mono ?_; rintro e wa ⟨rfl, ha⟩; have O1a := hidD (O1d.out.below ha); have Oha := hidD (Ohd.out.below ha); have X1a := hidD (X1d.out.below ha); have Xha := hidD (Xhd.out.below ha); have HBa := hidD (below_on HBd.out HNd.out ha); have HNa := hidD (Nat.le_trans HNd.out ha.size); have k0 := Xha.out.cell 0 rfl; have k1 := Xha.out.cell 1 rfl; clear ha)
    | (go_at_call 23; refine (CRK.out _ _ Oha.out).mono ?_; rintro e wb ⟨rfl, hb⟩; have O1b := hidD (O1a.out.below hb); have Ohb := hidD (Oha.out.below hb); have X1b := (X1a.out.below hb); have Xhb := (Xha.out.below hb); have HBb := hidD (below_on HBa.out HNa.out hb); have HNb := hidD (Nat.le_trans HNa.out hb.size); have j0 := Xhb.cell 0 rfl; have j1 := Xhb.cell 1 rfl; have i0 := X1b.cell 0 rfl; have i1 := X1b.cell 1 rfl; have cS := rsame_any (.slice ra1 hc.length rc1) (.slice rah hc.length rch) ⟨hc, ht⟩ ⟨hc, ht⟩ wb O1b.out Ohb.out; rw [Hi.same_self] at cS; dsimp only at cS; clear hb X1b Xhb)
    | (go_at_call 21; refine cS.mono ?_; rintro e wd ⟨rfl, hd⟩; have HBe := hidD (below_on HBb.out HNb.out hd); clear hd cS)
    | (go_at_call 24; refine (alive_any _).mono ?_; rintro e wf ⟨rfl, rfl⟩))
  all_goals (
    go_wp2_with fail
    go_ret
    exact ⟨by first | rfl | simp, HBe.out⟩)

set_option maxRecDepth 100000 in
theorem lifted (os : Os) (started : os.Started) (H : Type) (enc : TypeId × Value → H) :
    ReturnsInHanded {} Try.checked os 3 .any (Rows.histoTellsSpec.pre6 enc Try.prog Try.f3 Rows.histoTellsRow.domain false) (Rows.histoTellsSpec.post enc Try.prog Try.f3 false true false false) := by
  refine returnsInHanded_of_change_sized (C := Try.checked) own started (by kernel_rfl) Try.func3
    (ChangeSpec.witness6 (enc := enc) (C := Try.checked) false ⟨#[], #[.agg #[.slice none 0 0, .int .i64 0], .agg #[.slice none 0 0, .int .i64 0], .slice none 0 0, .int .i64 0, .int .i64 0], []⟩ 8 (by kernel_rfl) (by kernel_rfl) (by kernel_rfl) (by kernel_rfl)) ?_
  intro W base args ds gs before hval0 hW hcnd hsz0 _
  have hval : ∀ (j : Nat) t v, Try.f3.params[j]? = some t → args[j]? = some v → Value.okWide Try.prog W .any base t v := hval0
  have hsz : (DataW.weightsEach Try.prog (Try.f3.params.toList ++ Rows.histoTellsSpec.plain.varTypes Try.prog) (ds ++ gs)).all (· ≤ reachBytes) = true := hsz0
  have hW' := hW
  obtain ⟨p, q, hA0, hV, rfl, hfz, hnd⟩ := hW
  have hA : DataW.TrodAll enc Try.prog W 0 (fun _ => true) true Try.f3.params.toList args.toList ds p := hA0
  rw [Try.params3] at hA hval hsz
  obtain ⟨v0, vs0, d0, ds0, p0, q0, hargs, rfl, rfl, h0, r0⟩ := trodAll_cons hA
  obtain ⟨v1, vs1, d1, ds1, p1, q1, rfl, rfl, rfl, h1, r1⟩ := trodAll_cons r0
  obtain ⟨v2, vs2, d2, ds2, p2, q2, rfl, rfl, rfl, h2, r2⟩ := trodAll_cons r1
  obtain ⟨v3, vs3, d3, ds3, p3, q3, rfl, rfl, rfl, h3, r3⟩ := trodAll_cons r2
  obtain ⟨v4, vs4, d4, ds4, p4, q4, rfl, rfl, rfl, h4, r4⟩ := trodAll_cons r3
  obtain ⟨rfl, rfl, rfl⟩ := trodAll_nil r4
  obtain rfl : args = #[v0, v1, v2, v3, v4] := by cases args; simp_all
  obtain ⟨rfl, rfl⟩ := trodVars_none hV
  have k0 := h0
  have lt0 : ∀ x ∈ p0, x.block < W.heap.size := by obtain ⟨m, hm⟩ := k0; exact DataW.trod_lt m _ _ _ hm
  obtain ⟨rr0, x0, hv0, hs0, ho0, hw0, parts0, hp0, e0⟩ := open_histo (hval 0 24 v0 rfl rfl) h0
  subst hv0
  subst hp0
  have z0 : x0.c.length ≤ 17592186043904 := by
    rcases e0 with e | ⟨elems, spare, hq, hl⟩
    · rw [e]; simp
    · rw [hl]; exact sized_histo hsz (j := 0) rfl rfl hq
  have k1 := h1
  have lt1 : ∀ x ∈ p1, x.block < W.heap.size := by obtain ⟨m, hm⟩ := k1; exact DataW.trod_lt m _ _ _ hm
  obtain ⟨rr1, x1, hv1, hs1, ho1, hw1, parts1, hp1, e1⟩ := open_histo (hval 1 24 v1 rfl rfl) h1
  subst hv1
  subst hp1
  have z1 : x1.c.length ≤ 17592186043904 := by
    rcases e1 with e | ⟨elems, spare, hq, hl⟩
    · rw [e]; simp
    · rw [hl]; exact sized_histo hsz (j := 1) rfl rfl hq
  have k2 := h2
  have lt2 : ∀ x ∈ p2, x.block < W.heap.size := by obtain ⟨m, hm⟩ := k2; exact DataW.trod_lt m _ _ _ hm
  obtain ⟨l2, hs2, ho2, e2⟩ := open_numbers (hval 2 22 v2 rfl rfl) h2
  have z2 : l2.length ≤ 17592186043904 := by
    rcases e2 with ⟨_, rfl⟩ | ⟨elems, spare, rfl, hl⟩
    · simp
    · have := sized_slice hsz (j := 2) (t := 22) (e := 3) rfl rfl Try.underlying22
      rw [Try.bytesI] at this
      simp only [reachBytes] at this
      omega
  obtain ⟨a3, rfl, rfl, rfl, w3⟩ := open_int Try.underlying3 (hval 3 3 v3 rfl rfl) h3
  obtain ⟨a4, rfl, rfl, rfl, w4⟩ := open_int Try.underlying3 (hval 4 3 v4 rfl rfl) h4
  clear hA0 hval0
  refine (walk rr0 x0 hs0 ho0 hw0 z0 rr1 x1 hs1 ho1 hw1 z1 v2 l2 hs2 ho2 z2 a3 w3 a4 w4).mono fun e W' ⟨he, bel⟩ => ?_
  subst he
  exact ⟨_, rfl, _, _, _, [], _, [], hW', trodAll_mk1 (shut_bool Try.underlying4 _), (trodAll_cons_mk (Below.trod laidOut (by kernel_rfl) (of_decide_eq_true (by kernel_rfl)) k0 bel lt0) (trodAll_cons_mk (Below.trod laidOut (by kernel_rfl) (of_decide_eq_true (by kernel_rfl)) k1 bel lt1) (trodAll_cons_mk (Below.trod laidOut (by kernel_rfl) (of_decide_eq_true (by kernel_rfl)) k2 bel lt2) (trodAll_cons_mk (shut_int Try.underlying3 w3) (trodAll_cons_mk (shut_int Try.underlying3 w4) trodAll_mk0))))), rfl, bel.frame _, fun h => by cases h⟩

theorem over : Rows.histoTellsRow.holds Try.pinned (OpenSpec.ofChange Rows.histoTellsSpec) :=
  OpenClaim.holds_of_wide 3 Try.f3 rfl rfl rfl rfl rfl rfl rfl ⟨rfl, rfl, rfl, rfl, rfl⟩ rfl rfl rfl rfl rfl (by kernel_rfl) Try.func3 (by kernel_rfl)
    (of_decide_eq_true (by kernel_rfl)) (by unfold Func.isWrapper; first | (rw [if_pos (by decide +kernel)]; kernel_rfl) | (rw [if_neg (by decide +kernel)]; exact ⟨rfl, rfl⟩))
    (fun os started H enc _ => lifted os started H enc)
end Go.Proofs.Ythdaldgmolhljaa.histoTells

namespace Go.Proofs.Ythdaldgmolhljaa
/-- THE STATEMENT. -/
theorem histoTells_holds : Rows.HistoTellsSaid := histoTells.over
#print axioms histoTells_holds
end Go.Proofs.Ythdaldgmolhljaa
