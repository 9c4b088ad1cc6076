/- For all octets b and every message m: what Decode and Encode tell shares nothing with what was handed in (the law MessageOwn answers true), and no other memory is touched. -/
import Derived.Test.YtoadcaennlfadaaOW1
import Derived.Test.YtoadcaennlfadaaMN5
namespace Go.Proofs.Ytoadcaennlfadaa.messageOwn
open Go.ChangeShapes Go.WideShapes Go.ChangeAt Go.RowKit
open Go.ChangeMaps (open_string shut_string)
set_option maxRecDepth 20000

set_option maxHeartbeats 1000000 in
theorem open_msgS {H : Type} {enc : TypeId × Value → H} {W : World} {base : Nat} {v : Value} {d : DataW H} {p : List MemPlace} (hval : Value.okWide Try.prog W .any base 24 v)
    (h : DataW.Trod enc Try.prog W 0 (fun _ => true) true 24 v d p) :
    ∃ (x : Mg) (hv : Value) (l : List Int), v = x.val hv ∧ Seg .u8 W hv l ∧ (∀ z ∈ l, 0 ≤ z ∧ z ≤ 255) ∧ ∃ parts, d = .agg parts ∧ (l = [] ∨ ∃ elems spare, parts[11]? = some (.slice elems spare) ∧ l.length = elems.length) := by
  obtain ⟨f0, f1, f2, f3, f4, f5, f6, f7, f8, f9, f10, f11, he, ⟨o0, o1, o2, o3, o4, o5, o6, o7, o8, o9, o10, o11⟩, ⟨y0, y1, y2, y3, y4, y5, y6, y7, y8, y9, y10, y11⟩⟩ := msg_fields
  have ce : Try.prog.cellsOf 24 = 12 := by kernel_rfl
  have c3 : Try.prog.cellsOf 3 = 1 := by kernel_rfl
  have c22 : Try.prog.cellsOf 22 = 1 := by kernel_rfl
  obtain ⟨cs, rfl, hsz⟩ := okWide_struct he hval
  obtain ⟨z0, z1, z2, z3, z4, z5, z6, z7, z8, z9, z10, z11, rfl⟩ := array12 (hsz.trans ce)
  obtain ⟨fuel, hf⟩ := h
  obtain ⟨xs, k, hk, hxy, _, hxl, hg⟩ := DataW.trod_struct he hf
  obtain ⟨q0, q1, q2, q3, q4, q5, q6, q7, q8, q9, q10, q11, rfl⟩ := list12 hxl
  have g0 := hg 0 f0 rfl
  have g1 := hg 1 f1 rfl
  have g2 := hg 2 f2 rfl
  have g3 := hg 3 f3 rfl
  have g4 := hg 4 f4 rfl
  have g5 := hg 5 f5 rfl
  have g6 := hg 6 f6 rfl
  have g7 := hg 7 f7 rfl
  have g8 := hg 8 f8 rfl
  have g9 := hg 9 f9 rfl
  have g10 := hg 10 f10 rfl
  have g11 := hg 11 f11 rfl
  clear hg
  simp only [o0, o1, o2, o3, o4, o5, o6, o7, o8, o9, o10, o11, y0, y1, y2, y3, y4, y5, y6, y7, y8, y9, y10, y11, c3, c22, Value.cells, List.drop_zero, List.drop_succ_cons, List.take_succ_cons, List.take_zero, List.getElem?_cons_zero, List.getElem?_cons_succ] at g0 g1 g2 g3 g4 g5 g6 g7 g8 g9 g10 g11
  obtain ⟨n0, e0, _⟩ := DataW.trod_int Try.underlying3 g0
  obtain ⟨n1, e1, _⟩ := DataW.trod_int Try.underlying3 g1
  obtain ⟨n2, e2, _⟩ := DataW.trod_int Try.underlying3 g2
  obtain ⟨n3, e3, _⟩ := DataW.trod_int Try.underlying3 g3
  obtain ⟨n4, e4, _⟩ := DataW.trod_int Try.underlying3 g4
  obtain ⟨n5, e5, _⟩ := DataW.trod_int Try.underlying3 g5
  obtain ⟨n6, e6, _⟩ := DataW.trod_int Try.underlying3 g6
  obtain ⟨n7, e7, _⟩ := DataW.trod_int Try.underlying3 g7
  obtain ⟨n8, e8, _⟩ := DataW.trod_int Try.underlying3 g8
  obtain ⟨n9, e9, _⟩ := DataW.trod_int Try.underlying3 g9
  obtain ⟨n10, e10, _⟩ := DataW.trod_int Try.underlying3 g10
  simp only [List.cons.injEq, and_true] at e0 e1 e2 e3 e4 e5 e6 e7 e8 e9 e10
  subst e0 e1 e2 e3 e4 e5 e6 e7 e8 e9 e10
  simp only [Prod.mk.injEq] at hxy
  rcases open_ints Try.underlying22 Try.underlying5 (by kernel_rfl) g11 with ⟨hcs, hx⟩ | ⟨x, len, cap, zs, hcs, _, hl, hm, hz, hx, hcell, hwz⟩
  · simp only [List.cons.injEq, and_true] at hcs
    subst hcs
    exact ⟨⟨n0, n1, n2, n3, n4, n5, n6, n7, n8, n9, n10⟩, _, [], rfl, Seg.nil _ _, (fun z hz => by cases hz), _, hxy.1, .inl rfl⟩
  · simp only [List.cons.injEq, and_true] at hcs
    subst hcs
    simp only [if_true] at hz
    have hlen : (zs.take len).length = len := by rw [List.length_take]; omega
    refine ⟨⟨n0, n1, n2, n3, n4, n5, n6, n7, n8, n9, n10⟩, _, zs.take len, rfl, ⟨some x, cap, by rw [hlen], by rw [hlen]; exact hl, hm, (fun h => by cases h), fun y hy i hi => ?_⟩, fun z hz => ?_, ?_⟩
    · cases hy
      rw [hlen] at hi
      rw [hcell i (by omega)]
      simp [List.getD, hi]
    · exact bounds_u8 (hwz z (List.mem_of_mem_take hz))
    · obtain ⟨el, sp, hq11, hel⟩ : ∃ el sp, q11.1 = .slice el sp ∧ (zs.take len).length = el.length := by
        rw [hx]
        exact ⟨_, _, rfl, by simp [lits]⟩
      refine ⟨_, hxy.1, .inr ⟨el, sp, ?_, hel⟩⟩
      simp only [List.map_cons, List.map_nil, List.getElem?_cons_succ, List.getElem?_cons_zero]
      rw [hq11]

theorem sized_msg {H : Type} {ts : List TypeId} {ds : List (DataW H)} (h : (DataW.weightsEach Try.prog ts ds).all (· ≤ reachBytes) = true) {j : Nat} {parts elems spare : List (DataW H)} (ht : ts[j]? = some 24) (hd : ds[j]? = some (.agg parts)) (hp : parts[11]? = some (.slice elems spare)) : elems.length ≤ reachBytes := by
  have := List.all_eq_true.1 h _ (DataW.weights_mem_each ht hd ((elems.length + spare.length) * Try.prog.bytesOf 5) (by
    simp only [DataW.weights, Try.underlying24]
    exact DataW.weights_mem_each (j := 11) rfl hp _ (by simp [DataW.weights, Try.underlying22])))
  rw [Try.bytes5] at this
  simp at this
  omega

theorem row_ne {w : World} {b B : Nat} {cs : List Value} {T e : TypeId} {v : Value} {n : Nat} {xs : List Value} (h : Bx w b cs T) (ho : w.ownsRow B e 1 v n xs) (hT : T ≠ e) : v.ownBlock ≠ some b := by
  intro hb
  rcases ho.2 with ⟨rfl, _⟩ | ⟨g, cap, cur, rfl, _, hgg, _⟩
  · simp [Value.ownBlock] at hb
  · simp [Value.ownBlock] at hb
    subst hb
    rw [show w.heap[g]? = some (.cells ⟨cs⟩ T (0, 0)) from h] at hgg
    cases hgg
    exact hT rfl

set_option maxHeartbeats 8000000 in
theorem walk (bv : Value) (l : List Int) {w : World} (hb : Seg .u8 w bv l) (hol : ∀ z ∈ l, 0 ≤ z ∧ z ≤ 255) (hzl : l.length ≤ 140737488351232) (x : Mg) (v : Value) (d : List Int) (hs : Seg .u8 w v d) (hod : ∀ z ∈ d, 0 ≤ z ∧ z ≤ 255) (hzd : d.length ≤ 140737488351232) :
    Calls Try.prog 8 #[bv, x.val v] w fun e w' => e = .returned (.bool true) ∧ Below w.heap.size w w' := by
  have halv := malive_any (w.alloc (.cells ⟨x.cells v⟩ 24))
  have hB0 : MBx (w.alloc (.cells ⟨x.cells v⟩ 24)) w.heap.size x v := Bx.new _ _ _
  have hal : Below w.heap.size w (w.alloc (.cells ⟨x.cells v⟩ 24)) := (Below.refl _ w).alloc (Nat.le_refl _) _
  obtain ⟨ba, bcap, rfl, _⟩ := id hb
  obtain ⟨va, vcap, rfl, _⟩ := id hs
  have HCB := hid (fun W hs => copyBytes_any (.slice ba l.length bcap) l W hs (by omega))
  have HCD := hid (fun W hs => copyBytes_any (.slice va d.length vcap) d W hs (by omega))
  have HDE := hid (fun u W hs => mDecode_any u l W hs hol (by omega))
  have HRD := hid (fun W hs => rDecode_any (.slice ba l.length bcap) l W hs hol (by omega))
  have HEN := hid (fun u W hs => mEncode_R x u d W hs)
  have HRE := hid (fun W hs => rEncode_R x (.slice va d.length vcap) d W hs hod)
  have hoe := encR_octs (x := x) hod
  have hodc : ∀ z ∈ (dcm l).2.1, 0 ≤ z ∧ z ≤ 255 := by
    by_cases h : (dcm l).2.2 = 0
    · obtain ⟨a, b, c⟩ : ∃ a b, dcm l = (a, b, 0) := ⟨(dcm l).1, (dcm l).2.1, by rw [← h]⟩
      exact (dcm_just hol (by rw [c])).2.2
    · rw [dcm_bad h]; simp
  generalize encR x d = EN at *
  generalize ckM x d = CK at *
  generalize dcm l = DC at *
  obtain ⟨dx, dt, der⟩ := DC
  simp only at HDE HRD hodc
  have HSB := hid hb
  have HSD := hid hs
  have HB0 := hid hB0
  have HAL := hid hal
  simp only [Mg.val, Mg.cells] at *
  clear hb hs hB0 hal hol hod
  go_enter Try.func8, Try.ntmps8
  go_wp2_with fail
  refine halv.mono ?_
  rintro e w1 ⟨rfl, b1⟩
  have B1 := HB0.out.below b1
  have hb1 := HAL.out.trans (b1.mono HAL.out.size)
  have hc1 := HCB.out w1 (HSB.out.below hb1)
  have HB1 := hid hb1
  clear halv HB0 HAL b1 hb1 HCB
  go_wp2_with fail
  refine hc1.mono ?_
  rintro e w2 ⟨o1, rfl, R1, b2⟩
  have B2 := B1.below b2
  have hb2 := HB1.out.trans (b2.mono HB1.out.size)
  obtain ⟨r0, r1, r2, r3, r4, r5, r6, r7, r8, r9, r10, r11⟩ := B2.facts
  have lt2 := B2.lt
  have hal2 : Below w2.heap.size w2 (w2.alloc (.cells ⟨x.cells (.slice va d.length vcap)⟩ 24)) := (Below.refl _ w2).alloc (Nat.le_refl _) _
  have IB2 : MBx (w2.alloc (.cells ⟨x.cells (.slice va d.length vcap)⟩ 24)) w2.heap.size x (.slice va d.length vcap) := Bx.new _ _ _
  have hc2 := HCD.out _ ((HSD.out.below hb2).below hal2)
  have hsz2 : w1.heap.size ≤ w2.heap.size := b2.size
  have R1' := ownsRow_below R1 hal2
  have B2' := B2.below hal2
  have HB2 := hid (hb2.trans (hal2.mono hb2.size))
  have hszw := HB1.out.size
  simp only [Mg.cells] at hc2 IB2 R1' B2' HB2
  clear hc1 HB1 B1 b2 hal2 HCD hb2 R1
  go_wp2_with fail
  refine hc2.mono ?_
  rintro e w3 ⟨o2, rfl, R2, b3⟩
  have IB3 := IB2.below b3
  have B3 := B2'.below b3
  have R13 := ownsRow_below R1' b3
  have hb3 := HB2.out.trans (b3.mono HB2.out.size)
  have n23 := row_ne IB3 R2 (by decide)
  have n13 := row_ne IB3 R13 (by decide)
  have hmi : w.heap.size < w2.heap.size := lt2
  have IB4 : MBx (w3.setCell ⟨w2.heap.size, 11, none⟩ o2) w2.heap.size x o2 := Bx.set IB3 11 o2
  have B4 : MBx (w3.setCell ⟨w2.heap.size, 11, none⟩ o2) w.heap.size x (.slice va d.length vcap) := Bx.other B3 (by omega) _
  have R14 := ownsRow_setCell_other R13 (a := ⟨w2.heap.size, 11, none⟩) n13 o2
  have R24 := ownsRow_setCell_other R2 (a := ⟨w2.heap.size, 11, none⟩) n23 o2
  have hb4 : Below w.heap.size w (w3.setCell ⟨w2.heap.size, 11, none⟩ o2) := hb3.setCell (by simp; omega) _
  have a12 := own_later R1' R2 (Nat.le_refl _)
  have hsz4 : (w3.setCell ⟨w2.heap.size, 11, none⟩ o2).heap.size = w3.heap.size := by simp
  have c11 := IB3.facts.2.2.2.2.2.2.2.2.2.2.2
  have fz := Bx.frozen IB3
  have lt3 := IB3.lt
  obtain ⟨oa, oc, rfl⟩ := own_shape8 R2
  obtain ⟨pa, pc, rfl⟩ := own_shape8 R14
  have hde := HDE.out _ _ (Seg.own R14)
  have HB4 := hid hb4
  have HI4 := hid IB4
  have HM4 := hid B4
  have HR14 := hid R14
  have HR24 := hid R24
  have HA12 := hid a12
  have hB1le : w.heap.size ≤ w1.heap.size := hszw
  have hB2le : w.heap.size ≤ (w2.alloc (.cells ⟨x.cells (.slice va d.length vcap)⟩ 24)).heap.size := by simp; omega
  simp only [Mg.cells] at hB2le
  clear hc2 IB2 B2' R1' HB2 b3 IB3 B3 R13 R2 n23 n13 IB4 B4 R14 R24 hb4 hb3 HDE a12 r0 r1 r2 r3 r4 r5 r6 r7 r8 r9 r10 r11
  generalize (w2.alloc (.cells ⟨[.int .i64 x.k, .int .i64 x.c, .int .i64 x.b, .int .i64 x.i, .int .i64 x.s, .int .i64 x.q, .int .i64 x.m, .int .i64 x.n, .int .i64 x.l, .int .i64 x.o, .int .i64 x.p, .slice va d.length vcap]⟩ 24)).heap.size = BB at *
  go_wp2_with fail
  refine hde.mono ?_
  rintro e w5 ⟨tv, rfl, R5, b5⟩
  generalize w3.setCell ⟨w2.heap.size, 11, none⟩ (.slice oa d.length oc) = w4 at *
  obtain ⟨ta, tc, rfl⟩ := own_shape8 R5
  have hal5 : Below w5.heap.size w5 (w5.alloc (.cells #[.int .i64 dx.k, .int .i64 dx.c, .int .i64 dx.b, .int .i64 dx.i, .int .i64 dx.s, .int .i64 dx.q, .int .i64 dx.m, .int .i64 dx.n, .int .i64 dx.l, .int .i64 dx.o, .int .i64 dx.p, .slice ta dt.length tc] 24)) := (Below.refl _ w5).alloc (Nat.le_refl _) _
  have UB5 : MBx (w5.alloc (.cells #[.int .i64 dx.k, .int .i64 dx.c, .int .i64 dx.b, .int .i64 dx.i, .int .i64 dx.s, .int .i64 dx.q, .int .i64 dx.m, .int .i64 dx.n, .int .i64 dx.l, .int .i64 dx.o, .int .i64 dx.p, .slice ta dt.length tc] 24)) w5.heap.size dx (.slice ta dt.length tc) := Bx.new w5 (dx.cells (.slice ta dt.length tc)) 24
  have I5 := (HI4.out.below b5).below hal5
  have M5 := (HM4.out.below b5).below hal5
  have R15 := ownsRow_below (ownsRow_below HR14.out b5) hal5
  have R25 := ownsRow_below (ownsRow_below HR24.out b5) hal5
  have R55 := ownsRow_below R5 hal5
  have hb5 := HB4.out.trans (b5.mono HB4.out.size)
  have hbW := hb5.trans (hal5.mono hb5.size)
  have a15 := own_later HR14.out R5 (Nat.le_refl _)
  have a25 := own_later HR24.out R5 (Nat.le_refl _)
  obtain ⟨W5, hW5⟩ : ∃ W5, W5 = w5.alloc (.cells #[.int .i64 dx.k, .int .i64 dx.c, .int .i64 dx.b, .int .i64 dx.i, .int .i64 dx.s, .int .i64 dx.q, .int .i64 dx.m, .int .i64 dx.n, .int .i64 dx.l, .int .i64 dx.o, .int .i64 dx.p, .slice ta dt.length tc] 24) := ⟨_, rfl⟩
  rw [← hW5] at UB5 I5 M5 R15 R25 R55 hbW
  have hen := HEN.out _ W5 (Seg.own R25)
  obtain ⟨i0, i1, i2, i3, i4, i5, i6, i7, i8, i9, i10, i11⟩ := HI4.out.facts
  obtain ⟨j0, j1, j2, j3, j4, j5, j6, j7, j8, j9, j10, j11⟩ := (HI4.out.below b5).facts
  have lI := (HI4.out.below b5).lt
  rw [hW5] at hen
  clear hde HEN hal5 R5 b5 hb5 HB4 HI4 HM4 HR14 HR24 i0 i1 i2 i3 i4 i5 i6 i7 i8 i9 i10 i11
  go_wp2_with fail
  refine hen.mono ?_
  rw [← hW5]
  rintro e w6 ⟨xr, rfl, R6, b6⟩
  have I6 := I5.below b6
  have M6 := M5.below b6
  have U6 := UB5.below b6
  have R16 := ownsRow_below R15 b6
  have R26 := ownsRow_below R25 b6
  have R56 := ownsRow_below R55 b6
  have hb6 := hbW.trans (b6.mono hbW.size)
  have a16 := own_later R15 R6 (Nat.le_refl _)
  have a26 := own_later R25 R6 (Nat.le_refl _)
  obtain ⟨xa, xc, rfl⟩ := own_shape8 R6
  have hsp := spoil_any _ _ _ _ w6 R16
  clear hen hW5 UB5 I5 M5 R15 R25 R55 hbW b6 j0 j1 j2 j3 j4 j5 j6 j7 j8 j9 j10 j11 lI
  go_wp2_with fail
  refine hsp.mono ?_
  rintro e w7 ⟨rfl, g7⟩
  have I7 : MBx w7 w2.heap.size x (.slice oa d.length oc) := bx_keep I6 R16 (by decide) g7
  have M7 : MBx w7 w.heap.size x (.slice va d.length vcap) := bx_keep M6 R16 (by decide) g7
  have U7 : MBx w7 w5.heap.size dx (.slice ta dt.length tc) := bx_keep U6 R16 (by decide) g7
  have R27 := R26.kept g7 HA12.out
  have R57 := R56.kept g7 a15
  have R67 := R6.kept g7 a16
  have hb7 := below_keep hb6 R16 hB1le g7
  have hsp2 := spoil_any _ _ _ _ w7 R27
  have c7 := I7.facts.2.2.2.2.2.2.2.2.2.2.2
  clear hsp I6 M6 U6 R16 R26 R56 R6 hb6 g7
  go_wp2_with fail
  refine hsp2.mono ?_
  rintro e w8 ⟨rfl, g8⟩
  have M8 : MBx w8 w.heap.size x (.slice va d.length vcap) := bx_keep M7 R27 (by decide) g8
  have U8 : MBx w8 w5.heap.size dx (.slice ta dt.length tc) := bx_keep U7 R27 (by decide) g8
  have R58 := R57.kept g8 a25
  have R68 := R67.kept g8 a26
  have hb8 := below_keep hb7 R27 hB2le g8
  have hrd := HRD.out w8 (HSB.out.below hb8)
  clear hsp2 I7 M7 U7 R27 R57 R67 hb7 g8 c7 HRD
  go_wp2_with fail
  refine hrd.mono ?_
  rintro e w9 ⟨tv9, rfl, R9, b9⟩
  obtain ⟨ya, yc, rfl⟩ := own_shape8 R9
  have hal9 : Below w9.heap.size w9 (w9.alloc (.cells #[.int .i64 dx.k, .int .i64 dx.c, .int .i64 dx.b, .int .i64 dx.i, .int .i64 dx.s, .int .i64 dx.q, .int .i64 dx.m, .int .i64 dx.n, .int .i64 dx.l, .int .i64 dx.o, .int .i64 dx.p, .slice ya dt.length yc] 24)) := (Below.refl _ w9).alloc (Nat.le_refl _) _
  have V9 : MBx (w9.alloc (.cells #[.int .i64 dx.k, .int .i64 dx.c, .int .i64 dx.b, .int .i64 dx.i, .int .i64 dx.s, .int .i64 dx.q, .int .i64 dx.m, .int .i64 dx.n, .int .i64 dx.l, .int .i64 dx.o, .int .i64 dx.p, .slice ya dt.length yc] 24)) w9.heap.size dx (.slice ya dt.length yc) := Bx.new w9 (dx.cells (.slice ya dt.length yc)) 24
  have U9 := (U8.below b9).below hal9
  have S59 := ((Seg.own R58).below b9).below hal9
  have S69 := ((Seg.own R68).below b9).below hal9
  have S99 := (Seg.own R9).below hal9
  have hb9 := hb8.trans (b9.mono hb8.size)
  have hbW9 := hb9.trans (hal9.mono hb9.size)
  obtain ⟨m0, m1, m2, m3, m4, m5, m6, m7, m8, m9, m10, m11⟩ := (M8.below b9).facts
  have lM := (M8.below b9).lt
  have hre := HRE.out _ (HSD.out.below hbW9)
  clear hrd HRE HSD HSB R9 R58 R68 U8 M8 b9 hb9 hb8
  go_wp2_with fail
  refine hre.mono ?_
  rintro e w10 ⟨yr, rfl, R10, b10⟩
  have U10 := U9.below b10
  have V10 := V9.below b10
  have T5 := S59.below b10
  have T6 := S69.below b10
  have T9 := S99.below b10
  have T10 := Seg.own R10
  have HB10 := hid (hbW9.trans (b10.mono hbW9.size))
  obtain ⟨za, zc, rfl⟩ := own_shape8 R10
  obtain ⟨s0, s1, s2, s3, s4, s5, s6, s7, s8, s9, s10, s11⟩ := U10.facts
  obtain ⟨q0, q1, q2, q3, q4, q5, q6, q7, q8, q9, q10, q11⟩ := V10.facts
  have lU := U10.lt
  have lV := V10.lt
  have hsm0 := same_12 dx dx _ _ dt dt w10 T5 T9 hodc hodc (by simp) (by simp) (by simp) (by simp) (by simp) (by simp) (by simp) (by simp) (by simp) (by simp) (by simp) (by simp)
  have HSBy := hid (fun W (b : Below w10.heap.size w10 W) => sameBytes_any _ _ EN EN W (T6.below b) (T10.below b) hoe hoe)
  have hee : (EN == EN) = true := by simp
  rw [hee] at HSBy
  simp only [Mg.val] at hsm0
  have d1 : (der == der) = true := by simp
  have d2 : (CK == CK) = true := by simp
  clear hre hal9 V9 U9 S59 S69 S99 hbW9 m0 m1 m2 m3 m4 m5 m6 m7 m8 m9 m10 m11 lM b10 R10 U10 V10 T5 T6 T9 T10 hee hodc hoe
  go_wp2_with (first | (go_at_call 19; refine (num_any _ _).mono ?_; rintro e w12 ⟨rfl, rfl⟩) | (go_at_call 20; refine hsm0.mono ?_; rintro e w11 ⟨rfl, b11⟩) | (go_at_call 18; refine (HSBy.out _ b11).mono ?_; rintro e w13 ⟨rfl, rfl⟩))
  go_ret
  exact ⟨rfl, HB10.out.trans (b11.mono HB10.out.size)⟩

set_option maxRecDepth 100000 in
theorem lifted (os : Os) (started : os.Started) (H : Type) (enc : TypeId × Value → H) :
    ReturnsInHanded {} Try.checked os 8 .any (Rows.messageOwnSpec.pre6 enc Try.prog Try.f8 Rows.messageOwnRow.domain false) (Rows.messageOwnSpec.post enc Try.prog Try.f8 false true false false) := by
  refine returnsInHanded_of_change_sized (C := Try.checked) own started (by kernel_rfl) Try.func8
    (ChangeSpec.witness6 (enc := enc) (C := Try.checked) false ⟨#[], #[.slice none 0 0, .agg #[.int .i64 0, .int .i64 0, .int .i64 0, .int .i64 0, .int .i64 0, .int .i64 0, .int .i64 0, .int .i64 0, .int .i64 0, .int .i64 0, .int .i64 0, .slice none 0 0]], []⟩ 8 (by kernel_rfl) (by kernel_rfl) (by kernel_rfl) (by kernel_rfl)) ?_
  intro W base args ds gs before hval0 hW hcnd hsz0 _
  have hval : ∀ (j : Nat) t v, Try.f8.params[j]? = some t → args[j]? = some v → Value.okWide Try.prog W .any base t v := hval0
  have hsz : (DataW.weightsEach Try.prog (Try.f8.params.toList ++ Rows.messageOwnSpec.plain.varTypes Try.prog) (ds ++ gs)).all (· ≤ reachBytes) = true := hsz0
  have hW' := hW
  obtain ⟨p, q, hA0, hV, rfl, hfz, hnd⟩ := hW
  have hA : DataW.TrodAll enc Try.prog W 0 (fun _ => true) true Try.f8.params.toList args.toList ds p := hA0
  rw [Try.params8] at hA hval hsz
  obtain ⟨v0, vs0, d0, ds0, p0, q0, hargs, rfl, rfl, h0, r0⟩ := trodAll_cons hA
  obtain ⟨v1, vs1, d1, ds1, p1, q1, rfl, rfl, rfl, h1, r1⟩ := trodAll_cons r0
  obtain ⟨rfl, rfl, rfl⟩ := trodAll_nil r1
  obtain rfl : args = #[v0, v1] := by cases args; simp_all
  obtain ⟨rfl, rfl⟩ := trodVars_none hV
  have k0 := h0
  have lt0 : ∀ x ∈ p0, x.block < W.heap.size := by obtain ⟨m, hm⟩ := k0; exact DataW.trod_lt m _ _ _ hm
  obtain ⟨l0, hs0, ho0, e0⟩ := open_octets (hval 0 22 v0 rfl rfl) h0
  have z0 : l0.length ≤ 140737488351232 := by
    rcases e0 with ⟨_, rfl⟩ | ⟨elems, spare, rfl, hl⟩
    · simp
    · have := sized_slice hsz (j := 0) (t := 22) (e := 5) rfl rfl Try.underlying22
      rw [Try.bytes5] at this
      simp only [reachBytes] at this
      omega
  have k1 := h1
  have lt1 : ∀ x ∈ p1, x.block < W.heap.size := by obtain ⟨m, hm⟩ := k1; exact DataW.trod_lt m _ _ _ hm
  obtain ⟨x1, y1, l1, hv1, hs1, ho1, parts1, hp1, e1⟩ := open_msgS (hval 1 24 v1 rfl rfl) h1
  subst hp1
  have z1 : l1.length ≤ 140737488351232 := by
    rcases e1 with rfl | ⟨elems, spare, hq, hl⟩
    · simp
    · have := sized_msg hsz (j := 1) rfl rfl hq
      simp only [reachBytes] at this
      omega
  subst hv1
  clear hA0 hval0
  refine (walk v0 l0 hs0 ho0 z0 x1 y1 l1 hs1 ho1 z1).mono fun e W' ⟨he, bel⟩ => ?_
  subst he
  exact ⟨_, rfl, _, _, _, [], _, [], hW', trodAll_mk1 (shut_bool Try.underlying4 _), (trodAll_cons_mk (Below.trod laidOut (by kernel_rfl) (of_decide_eq_true (by kernel_rfl)) k0 bel lt0) (trodAll_cons_mk (Below.trod laidOut (by kernel_rfl) (of_decide_eq_true (by kernel_rfl)) k1 bel lt1) trodAll_mk0)), rfl, bel.frame _, fun h => by cases h⟩

theorem over : Rows.messageOwnRow.holds Try.pinned (OpenSpec.ofChange Rows.messageOwnSpec) :=
  OpenClaim.holds_of_wide 8 Try.f8 rfl rfl rfl rfl rfl rfl rfl ⟨rfl, rfl, rfl, rfl, rfl⟩ rfl rfl rfl rfl rfl (by kernel_rfl) Try.func8 (by kernel_rfl)
    (of_decide_eq_true (by kernel_rfl)) (by unfold Func.isWrapper; first | (rw [if_pos (by decide +kernel)]; kernel_rfl) | (rw [if_neg (by decide +kernel)]; exact ⟨rfl, rfl⟩))
    (fun os started H enc _ => lifted os started H enc)
end Go.Proofs.Ytoadcaennlfadaa.messageOwn

namespace Go.Proofs.Ytoadcaennlfadaa
/-- THE STATEMENT. -/
theorem messageOwn_holds : Rows.MessageOwnSaid := messageOwn.over
#print axioms messageOwn_holds
end Go.Proofs.Ytoadcaennlfadaa
