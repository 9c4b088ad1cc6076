/- TimerTells: whether any timers are a queue, what more make of it, the first one, those that are due, what is left without some, and all in order, are as the document's plain reading has them, and they stay: for every two rows of timers, every tick and every IDs that fit a machine. -/
import Derived.Test.YtkamcjebihfdlaaRows
import Derived.BigQuiet
import Derived.Deep.QuietTactic
import Derived.WalkKit
import Derived.ProofKit
import Derived.OpenShut
import Derived.ShutString
import Derived.Test.YtkamcjebihfdlaaTmZ
import Derived.Test.YtkamcjebihfdlaaOpenTm
namespace Go.Proofs.Ytkamcjebihfdlaa.timerTells
open Go.ChangeShapes Go.WideShapes Go.ChangeAt Go.RowKit
open Go.ChangeMaps (open_string shut_string)
set_option linter.unusedVariables false
set_option maxRecDepth 20000

theorem same_ints (v1 v2 : Value) (l : List Int) (w : World) (hs1 : Seg .i64 w v1 l) (hs2 : Seg .i64 w v2 l) : Calls Try.prog 22 #[v1, v2] w fun e w' => e = .returned (.bool true) ∧ Below w.heap.size w w' :=
  (sameInts_any v1 v2 l l w hs1 hs2).mono (by rintro e w' ⟨h1, h2⟩; exact ⟨by rw [h1]; simp, h2⟩)
set_option maxHeartbeats 16000000 in
theorem tells_walk (v0 v1 v3 : Value) (l more : List Ti.T) (t : Int) (ids : List Int) (w : World) (hs : TS w v0 l) (hm : TS w v1 more) (hi : Seg .i64 w v3 ids) (z0 : l.length ≤ 8796093022208) (hwf : ∀ i ∈ ids, (Lit.int .i64 i).wf = true) :
    Calls Try.prog 3 #[v0, v1, .int .i64 t, v3] w fun e w' => e = .returned (.bool true) ∧ Below w.heap.size w w' := by
  have cal := hidD (fun (W : World) => calive W)
  have HS := hidD (fun (W : World) (b : Below w.heap.size w W) => hs.below b)
  have CO := hidD (fun (W : World) (b : Below w.heap.size w W) => rown_any v0 l W (hs.below b) z0)
  have CA := hidD (fun (x : Value) (W : World) (b : Below w.heap.size w W) (h : TS W x l) => cadd x v1 l more W h (hm.below b) z0)
  have CD := hidD (fun (x : Value) (W : World) (h : TS W x l) => cdue x l t W h z0)
  have CR := hidD (fun (x : Value) (W : World) (h : TS W x l) => order_any x l W h)
  have RA := hidD (fun (W : World) (b : Below w.heap.size w W) => radd_any v0 v1 l more W (hs.below b) (hm.below b) z0)
  have RD := hidD (fun (W : World) (b : Below w.heap.size w W) => rdue_any v0 l t W (hs.below b) z0)
  have RR := hidD (fun (W : World) (b : Below w.heap.size w W) => rorder_any v0 l W (hs.below b))
  have CF := hidD (fun (x : Value) (W : World) (h : TS W x l) => cfir x l W h)
  have RF := hidD (fun (W : World) (b : Below w.heap.size w W) => rfirst_any v0 l W (hs.below b))
  have CC := hidD (fun (x : Value) (W : World) (b : Below w.heap.size w W) (h : TS W x l) => ccan x v3 l ids W h (hi.below b) z0 hwf)
  have RC := hidD (fun (W : World) (b : Below w.heap.size w W) => rcancel_any v0 v3 l ids W (hs.below b) (hi.below b))
  have CK := hidD (fun (x : Value) (W : World) (h : TS W x l) => cchk x l W h)
  have RK := hidD (fun (W : World) (b : Below w.heap.size w W) => rcheck_any v0 l W (hs.below b))
  generalize Ti.firE l = eF at *
  generalize Ti.firR l = rF at *
  generalize Ti.canN l ids = nC at *
  generalize Ti.canR l ids = rC at *
  generalize Ti.addE l more = eA at *
  generalize Ti.addR l more = rA at *
  generalize Ti.dueL l t = rD at *
  generalize Ti.dueI l t = iD at *
  generalize Ti.orR l = rR at *
  generalize Ti.chkE l = ck at *
  obtain ⟨a0, c0, rfl, _⟩ := id hs
  obtain ⟨a1, c1, rfl, _⟩ := id hm
  obtain ⟨a3, c3, rfl, _⟩ := id hi
  clear hs hm hi hwf z0
  go_enter Try.func3, Try.ntmps3
  go_wp2_with fail
  refine (CO.out w (Below.refl _ _)).mono ?_
  rintro e w1 ⟨vi, rfl, oi, b1⟩
  have B1 := hidD (b1)
  have OI := hidD oi
  obtain ⟨aOI, cOI, rfl, _, dOI, _⟩ := id oi.ts
  clear b1 oi
  clear CO
  go_wp2_with fail
  refine (CA.out _ w1 B1.out OI.out.ts).mono ?_
  rintro e w2 ⟨ra, rfl, b2, oa⟩
  have B2 := hidD (below_then B1.out (below_low b2 B1.out.size))
  replace OI := hidD (OI.out.on b2)
  have OA := hidD oa
  obtain ⟨aOA, cOA, rfl, _, dOA, _⟩ := id oa.ts
  clear b2 oa
  go_wp2_with fail
  refine (RA.out w2 B2.out).mono ?_
  rintro e w3 ⟨xa, rfl, b3, ox⟩
  have B3 := hidD (below_then B2.out (below_low b3 B2.out.size))
  replace OI := hidD (OI.out.on b3)
  replace OA := hidD (OA.out.on b3)
  have OX := hidD ox
  obtain ⟨aOX, cOX, rfl, _, dOX, _⟩ := id ox.ts
  clear b3 ox
  clear CA RA
  go_wp2_with fail
  with_reducible refine (CF.out _ w3 OI.out.ts).mono ?_
  rintro e w4 ⟨rfl, b4⟩
  have B4 := hidD (below_then B3.out (below_low b4 B3.out.size))
  replace OI := hidD (OI.out.on b4)
  replace OA := hidD (OA.out.on b4)
  replace OX := hidD (OX.out.on b4)
  clear b4 
  have hb := (Below.refl w4.heap.size w4).alloc (Nat.le_refl _) (.cells #[.int .i64 rF.at', .int .i64 rF.id'] 31)
  have XF : Hid (Bo (w4.alloc (.cells #[.int .i64 rF.at', .int .i64 rF.id'] 31)) w4.heap.size [.int .i64 rF.at', .int .i64 rF.id'] 31) := hidD (Bo.new w4 _ _)
  have D4 : Hid (Below w.heap.size w (w4.alloc (.cells #[.int .i64 rF.at', .int .i64 rF.id'] 31))) := hidD (below_then B4.out (below_low hb B4.out.size))
  replace OI := hidD (OI.out.on hb)
  replace OA := hidD (OA.out.on hb)
  replace OX := hidD (OX.out.on hb)
  clear hb CF
  go_wp2_with fail
  refine (RF.out _ D4.out).mono ?_
  rintro e w5 ⟨rfl, b5⟩
  have B5 := hidD (below_then D4.out (below_low b5 D4.out.size))
  replace XF := hidD (XF.out.below b5)
  replace OI := hidD (OI.out.on b5)
  replace OA := hidD (OA.out.on b5)
  replace OX := hidD (OX.out.on b5)
  obtain ⟨bf, hbf⟩ : ∃ bf, bf = w4.heap.size := ⟨_, rfl⟩
  rw [← hbf] at XF ⊢
  replace hbf := hidD hbf
  clear b5 RF D4
  have hb := (Below.refl w5.heap.size w5).alloc (Nat.le_refl _) (.cells #[.int .i64 rF.at', .int .i64 rF.id'] 31)
  have XG : Hid (Bo (w5.alloc (.cells #[.int .i64 rF.at', .int .i64 rF.id'] 31)) w5.heap.size [.int .i64 rF.at', .int .i64 rF.id'] 31) := hidD (Bo.new w5 _ _)
  have D5 : Hid (Below w.heap.size w (w5.alloc (.cells #[.int .i64 rF.at', .int .i64 rF.id'] 31))) := hidD (below_then B5.out (below_low hb B5.out.size))
  replace OI := hidD (OI.out.on hb)
  replace OA := hidD (OA.out.on hb)
  replace OX := hidD (OX.out.on hb)
  replace XF := hidD (XF.out.below hb)
  clear hb
  go_wp2_with fail
  refine (CD.out _ _ OI.out.ts).mono ?_
  rintro e w6 ⟨rd, sd, rfl, b6, od, od2⟩
  have B6 := hidD (below_then D5.out (below_low b6 D5.out.size))
  replace XF := hidD (XF.out.below b6)
  replace XG := hidD (XG.out.below b6)
  replace OI := hidD (OI.out.on b6)
  replace OA := hidD (OA.out.on b6)
  replace OX := hidD (OX.out.on b6)
  obtain ⟨bg, hbg⟩ : ∃ bg, bg = w5.heap.size := ⟨_, rfl⟩
  rw [← hbg] at XG ⊢
  replace hbg := hidD hbg
  have OD := hidD od
  obtain ⟨aOD, cOD, rfl, _⟩ := id od.ts
  obtain ⟨asd, csd, rfl, _⟩ := id (Seg.own od2)
  have SD := hidD (Seg.own od2)
  clear b6 CD D5 od od2
  go_wp2_with fail
  refine (RD.out w6 B6.out).mono ?_
  rintro e w7 ⟨xd, yd, rfl, b7, oy, oy2⟩
  have B7 := hidD (below_then B6.out (below_low b7 B6.out.size))
  replace OI := hidD (OI.out.on b7)
  replace OA := hidD (OA.out.on b7)
  replace OX := hidD (OX.out.on b7)
  replace OD := hidD (OD.out.on b7)
  have OY := hidD oy
  obtain ⟨aOY, cOY, rfl, _, dOY, _⟩ := id oy.ts
  replace XF := hidD (XF.out.below b7)
  replace XG := hidD (XG.out.below b7)
  replace SD := hidD (SD.out.below b7)
  clear b7 oy
  obtain ⟨ayd, cyd, rfl, _⟩ := id (Seg.own oy2)
  have SY := hidD (Seg.own oy2)
  clear oy2 RD
  go_wp2_with fail
  refine (CC.out _ w7 B7.out OI.out.ts).mono ?_
  rintro e w8 ⟨rc, rfl, b8, oc⟩
  have B8 := hidD (below_then B7.out (below_low b8 B7.out.size))
  replace OI := hidD (OI.out.on b8)
  replace OA := hidD (OA.out.on b8)
  replace OX := hidD (OX.out.on b8)
  replace OD := hidD (OD.out.on b8)
  replace OY := hidD (OY.out.on b8)
  have OC := hidD oc
  obtain ⟨aOC, cOC, rfl, _, dOC, _⟩ := id oc.ts
  replace XF := hidD (XF.out.below b8)
  replace XG := hidD (XG.out.below b8)
  replace SD := hidD (SD.out.below b8)
  replace SY := hidD (SY.out.below b8)
  clear b8 oc
  go_wp2_with fail
  refine (RC.out w8 B8.out).mono ?_
  rintro e w9 ⟨xc, rfl, b9, od⟩
  have B9 := hidD (below_then B8.out (below_low b9 B8.out.size))
  replace OI := hidD (OI.out.on b9)
  replace OA := hidD (OA.out.on b9)
  replace OX := hidD (OX.out.on b9)
  replace OD := hidD (OD.out.on b9)
  replace OY := hidD (OY.out.on b9)
  replace OC := hidD (OC.out.on b9)
  have OE := hidD od
  obtain ⟨aOE, cOE, rfl, _, dOE, _⟩ := id od.ts
  replace XF := hidD (XF.out.below b9)
  replace XG := hidD (XG.out.below b9)
  replace SD := hidD (SD.out.below b9)
  replace SY := hidD (SY.out.below b9)
  clear b9 od
  clear CC RC
  go_wp2_with fail
  refine (CR.out _ w9 OI.out.ts).mono ?_
  rintro e w10 ⟨rr, rfl, b10, orr⟩
  have B10 := hidD (below_then B9.out (below_low b10 B9.out.size))
  replace OI := hidD (OI.out.on b10)
  replace OA := hidD (OA.out.on b10)
  replace OX := hidD (OX.out.on b10)
  replace OD := hidD (OD.out.on b10)
  replace OY := hidD (OY.out.on b10)
  replace OC := hidD (OC.out.on b10)
  replace OE := hidD (OE.out.on b10)
  have OR := hidD orr
  obtain ⟨aOR, cOR, rfl, _, dOR, _⟩ := id orr.ts
  replace XF := hidD (XF.out.below b10)
  replace XG := hidD (XG.out.below b10)
  replace SD := hidD (SD.out.below b10)
  replace SY := hidD (SY.out.below b10)
  clear b10 orr
  go_wp2_with fail
  refine (RR.out w10 B10.out).mono ?_
  rintro e w11 ⟨xr, rfl, b11, oz⟩
  have B11 := hidD (below_then B10.out (below_low b11 B10.out.size))
  replace OI := hidD (OI.out.on b11)
  replace OA := hidD (OA.out.on b11)
  replace OX := hidD (OX.out.on b11)
  replace OD := hidD (OD.out.on b11)
  replace OY := hidD (OY.out.on b11)
  replace OC := hidD (OC.out.on b11)
  replace OE := hidD (OE.out.on b11)
  replace OR := hidD (OR.out.on b11)
  have OZ := hidD oz
  obtain ⟨aOZ, cOZ, rfl, _, dOZ, _⟩ := id oz.ts
  replace XF := hidD (XF.out.below b11)
  replace XG := hidD (XG.out.below b11)
  replace SD := hidD (SD.out.below b11)
  replace SY := hidD (SY.out.below b11)
  clear b11 oz
  clear CR RR
  go_wp2_with fail
  with_reducible refine (tsame_true _ _ rA w11 OA.out.ts OX.out.ts).mono ?_
  rintro e w12 ⟨rfl, b12⟩
  have B12 := hidD (below_then B11.out (below_low b12 B11.out.size))
  replace OI := hidD (OI.out.on b12)
  replace OA := hidD (OA.out.on b12)
  replace OX := hidD (OX.out.on b12)
  replace OD := hidD (OD.out.on b12)
  replace OY := hidD (OY.out.on b12)
  replace OC := hidD (OC.out.on b12)
  replace OE := hidD (OE.out.on b12)
  replace OR := hidD (OR.out.on b12)
  replace OZ := hidD (OZ.out.on b12)
  replace XF := hidD (XF.out.below b12)
  replace XG := hidD (XG.out.below b12)
  replace SD := hidD (SD.out.below b12)
  replace SY := hidD (SY.out.below b12)
  clear b12 
  have p1 := XF.out.cell 0 rfl
  have p2 := XF.out.cell 1 rfl
  have p3 := XG.out.cell 0 rfl
  have p4 := XG.out.cell 1 rfl
  go_wp2_with (first | (go_at_call 21; refine (num_any _ _).mono ?_; rintro e ww ⟨rfl, rfl⟩))
  with_reducible refine (tsame_true _ _ rD w12 OD.out.ts OY.out.ts).mono ?_
  rintro e w13 ⟨rfl, b13⟩
  have B13 := hidD (below_then B12.out (below_low b13 B12.out.size))
  replace OI := hidD (OI.out.on b13)
  replace OA := hidD (OA.out.on b13)
  replace OX := hidD (OX.out.on b13)
  replace OD := hidD (OD.out.on b13)
  replace OY := hidD (OY.out.on b13)
  replace OC := hidD (OC.out.on b13)
  replace OE := hidD (OE.out.on b13)
  replace OR := hidD (OR.out.on b13)
  replace OZ := hidD (OZ.out.on b13)
  replace XF := hidD (XF.out.below b13)
  replace XG := hidD (XG.out.below b13)
  replace SD := hidD (SD.out.below b13)
  replace SY := hidD (SY.out.below b13)
  clear b13 
  clear p1 p2 p3 p4 XF XG
  go_wp2_with fail
  with_reducible refine (same_ints _ _ iD w13 SD.out SY.out).mono ?_
  rintro e w14 ⟨rfl, b14⟩
  have B14 := hidD (below_then B13.out (below_low b14 B13.out.size))
  replace OI := hidD (OI.out.on b14)
  replace OA := hidD (OA.out.on b14)
  replace OX := hidD (OX.out.on b14)
  replace OD := hidD (OD.out.on b14)
  replace OY := hidD (OY.out.on b14)
  replace OC := hidD (OC.out.on b14)
  replace OE := hidD (OE.out.on b14)
  replace OR := hidD (OR.out.on b14)
  replace OZ := hidD (OZ.out.on b14)
  clear b14 
  clear SD SY
  go_wp2_with (first | (go_at_call 21; refine (num_any _ _).mono ?_; rintro e ww ⟨rfl, rfl⟩))
  with_reducible refine (tsame_true _ _ rC w14 OC.out.ts OE.out.ts).mono ?_
  rintro e w15 ⟨rfl, b15⟩
  have B15 := hidD (below_then B14.out (below_low b15 B14.out.size))
  replace OI := hidD (OI.out.on b15)
  replace OA := hidD (OA.out.on b15)
  replace OX := hidD (OX.out.on b15)
  replace OD := hidD (OD.out.on b15)
  replace OY := hidD (OY.out.on b15)
  replace OC := hidD (OC.out.on b15)
  replace OE := hidD (OE.out.on b15)
  replace OR := hidD (OR.out.on b15)
  replace OZ := hidD (OZ.out.on b15)
  clear b15 
  go_wp2_with (first | (go_at_call 21; refine (num_any _ _).mono ?_; rintro e ww ⟨rfl, rfl⟩))
  with_reducible refine (tsame_true _ _ rR w15 OR.out.ts OZ.out.ts).mono ?_
  rintro e w16 ⟨rfl, b16⟩
  have B16 := hidD (below_then B15.out (below_low b16 B15.out.size))
  replace OI := hidD (OI.out.on b16)
  replace OA := hidD (OA.out.on b16)
  replace OX := hidD (OX.out.on b16)
  replace OD := hidD (OD.out.on b16)
  replace OY := hidD (OY.out.on b16)
  replace OC := hidD (OC.out.on b16)
  replace OE := hidD (OE.out.on b16)
  replace OR := hidD (OR.out.on b16)
  replace OZ := hidD (OZ.out.on b16)
  clear b16 
  go_wp2_with (first | (go_at_call 21; refine (num_any _ _).mono ?_; rintro e ww ⟨rfl, rfl⟩))
  with_reducible refine (CK.out _ w16 OI.out.ts).mono ?_
  rintro e w17 ⟨rfl, b17⟩
  have B17 := hidD (below_then B16.out (below_low b17 B16.out.size))
  replace OI := hidD (OI.out.on b17)
  replace OA := hidD (OA.out.on b17)
  replace OX := hidD (OX.out.on b17)
  replace OD := hidD (OD.out.on b17)
  replace OY := hidD (OY.out.on b17)
  replace OC := hidD (OC.out.on b17)
  replace OE := hidD (OE.out.on b17)
  replace OR := hidD (OR.out.on b17)
  replace OZ := hidD (OZ.out.on b17)
  clear b17 
  go_wp2_with (first | (go_at_call 21; refine (num_any _ _).mono ?_; rintro e ww ⟨rfl, rfl⟩))
  with_reducible refine (RK.out w17 B17.out).mono ?_
  rintro e w18 ⟨rfl, b18⟩
  have B18 := hidD (below_then B17.out (below_low b18 B17.out.size))
  replace OI := hidD (OI.out.on b18)
  replace OA := hidD (OA.out.on b18)
  replace OX := hidD (OX.out.on b18)
  replace OD := hidD (OD.out.on b18)
  replace OY := hidD (OY.out.on b18)
  replace OC := hidD (OC.out.on b18)
  replace OE := hidD (OE.out.on b18)
  replace OR := hidD (OR.out.on b18)
  replace OZ := hidD (OZ.out.on b18)
  clear b18 
  go_wp2_with (first | (go_at_call 21; refine (num_any _ _).mono ?_; rintro e ww ⟨rfl, rfl⟩))
  with_reducible refine (tsame_true _ _ l w18 OI.out.ts (HS.out w18 B18.out)).mono ?_
  rintro e w19 ⟨rfl, b19⟩
  have B19 := hidD (below_then B18.out (below_low b19 B18.out.size))
  replace OI := hidD (OI.out.on b19)
  replace OA := hidD (OA.out.on b19)
  replace OX := hidD (OX.out.on b19)
  replace OD := hidD (OD.out.on b19)
  replace OY := hidD (OY.out.on b19)
  replace OC := hidD (OC.out.on b19)
  replace OE := hidD (OE.out.on b19)
  replace OR := hidD (OR.out.on b19)
  replace OZ := hidD (OZ.out.on b19)
  clear b19 
  go_wp2_with (first | (go_at_call 21; refine (num_any _ _).mono ?_; rintro e ww ⟨rfl, rfl⟩))
  with_reducible refine (cal.out w19).mono ?_
  rintro e w20 ⟨rfl, b20⟩
  have B20 := hidD (below_then B19.out (below_low b20 B19.out.size))
  replace OI := hidD (OI.out.on b20)
  replace OA := hidD (OA.out.on b20)
  replace OX := hidD (OX.out.on b20)
  replace OD := hidD (OD.out.on b20)
  replace OY := hidD (OY.out.on b20)
  replace OC := hidD (OC.out.on b20)
  replace OE := hidD (OE.out.on b20)
  replace OR := hidD (OR.out.on b20)
  replace OZ := hidD (OZ.out.on b20)
  clear b20 
  go_wp2_with (first | (go_at_call 21; refine (num_any _ _).mono ?_; rintro e ww ⟨rfl, rfl⟩))
  go_ret
  exact ⟨by first | rfl | simp, B20.out⟩

theorem walk {w : World} (v0 : Value) (l0 : List Ti.T) (hs0 : TS w v0 l0) (ho0 : ∀ x, x ∈ l0 → okTimer x) (z0 : l0.length ≤ 8796093022208) (v1 : Value) (l1 : List Ti.T) (hs1 : TS w v1 l1) (ho1 : ∀ x, x ∈ l1 → okTimer x) (z1 : l1.length ≤ 8796093022208) (a2 : Int) (w2 : (Lit.int .i64 a2).wf = true)
    (v3 : Value) (l3 : List Int) (hs3 : Seg .i64 w v3 l3) (ho3 : ∀ z ∈ l3, -9223372036854775808 ≤ z ∧ z ≤ 9223372036854775807) (z3 : l3.length ≤ 17592186043904) :
    Calls Try.prog 3 #[v0, v1, .int .i64 a2, v3] w fun e w' => e = .returned (.bool true) ∧ Below w.heap.size w w' :=
  tells_walk v0 v1 v3 l0 l1 a2 l3 w hs0 hs1 hs3 z0 (fun i hi => wf_range (ho3 i hi))

set_option maxRecDepth 100000 in
theorem lifted (os : Os) (started : os.Started) (H : Type) (enc : TypeId × Value → H) :
    ReturnsInHanded {} Try.checked os 3 .any (Rows.timerTellsSpec.pre6 enc Try.prog Try.f3 Rows.timerTellsRow.domain false) (Rows.timerTellsSpec.post enc Try.prog Try.f3 false true false false) := by
  refine returnsInHanded_of_change_sized (C := Try.checked) own started (by kernel_rfl) Try.func3
    (ChangeSpec.witness6 (enc := enc) (C := Try.checked) false ⟨#[], #[.slice none 0 0, .slice none 0 0, .int .i64 0, .slice none 0 0], []⟩ 8 (by kernel_rfl) (by kernel_rfl) (by kernel_rfl) (by kernel_rfl)) ?_
  intro W base args ds gs before hval0 hW hcnd hsz0 _
  have hval : ∀ (j : Nat) t v, Try.f3.params[j]? = some t → args[j]? = some v → Value.okWide Try.prog W .any base t v := hval0
  have hsz : (DataW.weightsEach Try.prog (Try.f3.params.toList ++ Rows.timerTellsSpec.plain.varTypes Try.prog) (ds ++ gs)).all (· ≤ reachBytes) = true := hsz0
  have hW' := hW
  obtain ⟨p, q, hA0, hV, rfl, hfz, hnd⟩ := hW
  have hA : DataW.TrodAll enc Try.prog W 0 (fun _ => true) true Try.f3.params.toList args.toList ds p := hA0
  rw [Try.params3] at hA hval hsz
  obtain ⟨v0, vs0, d0, ds0, p0, q0, hargs, rfl, rfl, h0, r0⟩ := trodAll_cons hA
  obtain ⟨v1, vs1, d1, ds1, p1, q1, rfl, rfl, rfl, h1, r1⟩ := trodAll_cons r0
  obtain ⟨v2, vs2, d2, ds2, p2, q2, rfl, rfl, rfl, h2, r2⟩ := trodAll_cons r1
  obtain ⟨v3, vs3, d3, ds3, p3, q3, rfl, rfl, rfl, h3, r3⟩ := trodAll_cons r2
  obtain ⟨rfl, rfl, rfl⟩ := trodAll_nil r3
  obtain rfl : args = #[v0, v1, v2, v3] := by cases args; simp_all
  obtain ⟨rfl, rfl⟩ := trodVars_none hV
  have k0 := h0
  have lt0 : ∀ x ∈ p0, x.block < W.heap.size := by obtain ⟨m, hm⟩ := k0; exact DataW.trod_lt m _ _ _ hm
  obtain ⟨l0, hs0, ho0, e0⟩ := open_timers (hval 0 22 v0 rfl rfl) h0
  have z0 : l0.length ≤ 8796093022208 := by
    rcases e0 with ⟨_, rfl⟩ | ⟨elems, spare, rfl, hl⟩
    · simp
    · have := sized_slice hsz (j := 0) (t := 22) (e := 31) rfl rfl Try.underlying22
      rw [Try.bytesT] at this
      simp only [reachBytes] at this
      omega
  have k1 := h1
  have lt1 : ∀ x ∈ p1, x.block < W.heap.size := by obtain ⟨m, hm⟩ := k1; exact DataW.trod_lt m _ _ _ hm
  obtain ⟨l1, hs1, ho1, e1⟩ := open_timers (hval 1 22 v1 rfl rfl) h1
  have z1 : l1.length ≤ 8796093022208 := by
    rcases e1 with ⟨_, rfl⟩ | ⟨elems, spare, rfl, hl⟩
    · simp
    · have := sized_slice hsz (j := 1) (t := 22) (e := 31) rfl rfl Try.underlying22
      rw [Try.bytesT] at this
      simp only [reachBytes] at this
      omega
  obtain ⟨a2, rfl, rfl, rfl, w2⟩ := open_int Try.underlying3 (hval 2 3 v2 rfl rfl) h2
  have k3 := h3
  have lt3 : ∀ x ∈ p3, x.block < W.heap.size := by obtain ⟨m, hm⟩ := k3; exact DataW.trod_lt m _ _ _ hm
  obtain ⟨l3, hs3, ho3, e3⟩ := open_numbers (hval 3 23 v3 rfl rfl) h3
  have z3 : l3.length ≤ 17592186043904 := by
    rcases e3 with ⟨_, rfl⟩ | ⟨elems, spare, rfl, hl⟩
    · simp
    · have := sized_slice hsz (j := 3) (t := 23) (e := 3) rfl rfl Try.underlying23
      rw [Try.bytesI] at this
      simp only [reachBytes] at this
      omega
  clear hA0 hval0
  refine (walk v0 l0 hs0 ho0 z0 v1 l1 hs1 ho1 z1 a2 w2 v3 l3 hs3 ho3 z3).mono fun e W' ⟨he, bel⟩ => ?_
  subst he
  exact ⟨_, rfl, _, _, _, [], _, [], hW', trodAll_mk1 (shut_bool Try.underlying4 _), (trodAll_cons_mk (Below.trod laidOut (by kernel_rfl) (of_decide_eq_true (by kernel_rfl)) k0 bel lt0) (trodAll_cons_mk (Below.trod laidOut (by kernel_rfl) (of_decide_eq_true (by kernel_rfl)) k1 bel lt1) (trodAll_cons_mk (shut_int Try.underlying3 w2) (trodAll_cons_mk (Below.trod laidOut (by kernel_rfl) (of_decide_eq_true (by kernel_rfl)) k3 bel lt3) trodAll_mk0)))), rfl, bel.frame _, fun h => by cases h⟩

theorem over : Rows.timerTellsRow.holds Try.pinned (OpenSpec.ofChange Rows.timerTellsSpec) :=
  OpenClaim.holds_of_wide 3 Try.f3 rfl rfl rfl rfl rfl rfl rfl ⟨rfl, rfl, rfl, rfl, rfl⟩ rfl rfl rfl rfl rfl (by kernel_rfl) Try.func3 (by kernel_rfl)
    (of_decide_eq_true (by kernel_rfl)) (by unfold Func.isWrapper; first | (rw [if_pos (by decide +kernel)]; kernel_rfl) | (rw [if_neg (by decide +kernel)]; exact ⟨rfl, rfl⟩))
    (fun os started H enc _ => lifted os started H enc)
end Go.Proofs.Ytkamcjebihfdlaa.timerTells

namespace Go.Proofs.Ytkamcjebihfdlaa
/-- THE STATEMENT. -/
theorem timerTells_holds : Rows.TimerTellsSaid := timerTells.over
#print axioms timerTells_holds
end Go.Proofs.Ytkamcjebihfdlaa
