/- TimerOwn: what Add, Due and Order tell shares nothing with what was handed in: for every two rows of timers and every tick that fit a machine. -/
import Derived.Test.YtkamcjebihfdlaaRows
import Derived.BigQuiet
import Derived.Deep.QuietTactic
import Derived.WalkKit
import Derived.ProofKit
import Derived.OpenShut
import Derived.ShutString
import Derived.Test.YtkamcjebihfdlaaTmZ
import Derived.Test.YtkamcjebihfdlaaOpenTm
namespace Go.Proofs.Ytkamcjebihfdlaa.timerOwn
open Go.ChangeShapes Go.WideShapes Go.ChangeAt Go.RowKit
open Go.ChangeMaps (open_string shut_string)
set_option linter.unusedVariables false
set_option maxRecDepth 20000

set_option maxHeartbeats 16000000 in
theorem own_walk (v0 v1 : Value) (l more : List Ti.T) (t : Int) (w : World) (hs : TS w v0 l) (hm : TS w v1 more) (z0 : l.length ≤ 8796093022208) :
    Calls Try.prog 8 #[v0, v1, .int .i64 t] w fun e w' => e = .returned (.bool true) ∧ Below w.heap.size w w' := by
  have cal := calive w
  have HS := hidD (fun (W : World) (b : Below w.heap.size w W) => hs.below b)
  have CO := hidD (fun (W : World) (b : Below w.heap.size w W) => rown_any v0 l W (hs.below b) z0)
  have CA := hidD (fun (x : Value) (W : World) (b : Below w.heap.size w W) (h : TS W x l) => cadd x v1 l more W h (hm.below b) z0)
  have CD := hidD (fun (x : Value) (W : World) (h : TS W x l) => cdue x l t W h z0)
  have CR := hidD (fun (x : Value) (W : World) (h : TS W x l) => order_any x l W h)
  have RA := hidD (fun (W : World) (b : Below w.heap.size w W) => radd_any v0 v1 l more W (hs.below b) (hm.below b) z0)
  have RD := hidD (fun (W : World) (b : Below w.heap.size w W) => rdue_any v0 l t W (hs.below b) z0)
  have RR := hidD (fun (W : World) (b : Below w.heap.size w W) => rorder_any v0 l W (hs.below b))
  generalize Ti.addE l more = eA at *
  generalize Ti.addR l more = rA at *
  generalize Ti.dueL l t = rD at *
  generalize Ti.dueI l t = iD at *
  generalize Ti.orR l = rR at *
  generalize Ti.chkE l = ck at *
  obtain ⟨a0, c0, rfl, _⟩ := id hs
  obtain ⟨a1, c1, rfl, _⟩ := id hm
  clear hs hm
  go_enter Try.func8, Try.ntmps8
  go_wp2_with fail
  with_reducible refine (cal).mono ?_
  rintro e w1 ⟨rfl, b1⟩
  have B1 := hidD (b1)
  clear b1 
  clear cal
  go_wp2_with fail
  refine (CO.out w1 B1.out).mono ?_
  rintro e w2 ⟨vi, rfl, oi, b2⟩
  have B2 := hidD (below_then B1.out (below_low b2 B1.out.size))
  have OI := hidD oi
  obtain ⟨aOI, cOI, rfl, _, dOI, _⟩ := id oi.ts
  clear b2 oi
  have GI := hidD (fun g e => (OI.out.lt g e).2)
  clear CO
  go_wp2_with fail
  refine (CA.out _ w2 B2.out OI.out.ts).mono ?_
  rintro e w3 ⟨ra, rfl, b3, oa⟩
  have H3 := hidD b3.size
  have B3 := hidD (below_then B2.out (below_low b3 B2.out.size))
  replace OI := hidD (OI.out.on b3)
  have OA := hidD oa
  obtain ⟨aOA, cOA, rfl, _, dOA, _⟩ := id oa.ts
  clear b3 oa
  go_wp2_with fail
  refine (CD.out _ w3 OI.out.ts).mono ?_
  rintro e w4 ⟨rd, sd, rfl, b4, od, od2⟩
  have H4 := hidD b4.size
  have B4 := hidD (below_then B3.out (below_low b4 B3.out.size))
  replace OI := hidD (OI.out.on b4)
  replace OA := hidD (OA.out.on b4)
  have OD := hidD od
  obtain ⟨aOD, cOD, rfl, _, dOD, _⟩ := id od.ts
  clear b4 od
  obtain ⟨asd, csd, rfl, _⟩ := id (Seg.own od2)
  clear od2
  go_wp2_with fail
  refine (CR.out _ w4 OI.out.ts).mono ?_
  rintro e w5 ⟨rr, rfl, b5, orr⟩
  have B5 := hidD (below_then B4.out (below_low b5 B4.out.size))
  replace OI := hidD (OI.out.on b5)
  replace OA := hidD (OA.out.on b5)
  replace OD := hidD (OD.out.on b5)
  have OR := hidD orr
  obtain ⟨aOR, cOR, rfl, _, dOR, _⟩ := id orr.ts
  clear b5 orr
  clear CA CD CR
  have S3 := hidD (Nat.le_refl w2.heap.size)
  have S4 : Hid (w2.heap.size ≤ w3.heap.size ∧ w3.heap.size ≤ w4.heap.size) := hidD ⟨H3.out, H4.out⟩
  have HI0 : Hid (OT w5 w1.heap.size (.slice aOI l.length cOI) l) := OI
  have z9 := HI0.out.ts
  obtain ⟨x9, y9, e9, z8, _⟩ := z9
  cases e9
  obtain ⟨n, hn⟩ : ∃ n, n = l.length := ⟨_, rfl⟩
  rw [← hn] at HI0 GI HS RA RD RR z8 ⊢
  have HLN : Hid (l.length = n) := hidD hn.symm
  replace hn := hidD hn
  clear OI
  unfold maxLen at dOI
  go_wp2_with fail
  go_loopw [15] (fun i wr => ∃ (k : Nat) (L : List Ti.T), k ≤ n ∧ i = .int .i64 (k : Int) ∧ Hid (OT wr w1.heap.size (.slice aOI n cOI) L ∧ L.length = n ∧ OT wr w2.heap.size (.slice aOA rA.length cOA) rA ∧ OT wr w3.heap.size (.slice aOD rD.length cOD) rD ∧ OT wr w4.heap.size (.slice aOR rR.length cOR) rR ∧ Below w.heap.size w wr)) (fun i _ => n - (intOf i).toNat)
  case atStart => exact ⟨0, l, Nat.zero_le _, rfl, hidD ⟨HI0.out, HLN.out, OA.out, OD.out, OR.out, B5.out⟩⟩
  case round =>
    clear HI0 OA OD OR B5
    obtain ⟨k, L, hk, rfl, hJ⟩ := hrel
    obtain ⟨j1, j2, j3, j4, j5, j6⟩ := hJ.out
    by_cases hlt : k < n
    · obtain ⟨g, cap9, e0, hg1, hg2, hc1, hc2⟩ := j1.lies (by omega)
      injection e0 with e01 e02 e03
      subst e01 e03
      obtain ⟨q1, q2, f1, f2⟩ := j1.at k (by omega)
      have GG := hidD (GI.out g rfl)
      have hi : (k : Int) < (n : Int) := by omega
      have C := putT_cg wr g k ⟨0, 0⟩
      have P1 := hidD (j1.put k (by omega) ⟨0, 0⟩)
      have P2 : Hid ((L.set k (⟨0, 0⟩ : Ti.T)).length = n) := hidD (by rw [List.length_set]; exact j2)
      have P3 := hidD (j3.cg C (by have := GG.out; omega))
      have P4 := hidD (j4.cg C (by have := GG.out; have := S4.out; omega))
      have P5 := hidD (j5.cg C (by have := GG.out; have := S4.out; omega))
      have P6 := hidD (C.below (B := w.heap.size) (Nat.le_trans B1.out.size hg1) (Nat.le_trans B1.out.size (Nat.le_trans hg1 (Nat.le_of_lt hg2))) j6)
      clear j1 j2 j3 j4 j5 j6 hJ C e02
      go_wp2_with fail
      exact ⟨⟨k + 1, _, by omega, by go_num, hidD ⟨P1.out, P2.out, P3.out, P4.out, P5.out, P6.out⟩⟩, by simp [intOf]; omega⟩
    · have B5 := hidD j6
      have OA := hidD j3
      have OD := hidD j4
      have OR := hidD j5
      generalize wr = w5 at *
      clear j1 j2 j3 j4 j5 j6 hJ
      go_wp2_with fail
      refine (RA.out w5 B5.out).mono ?_
      rintro e w6 ⟨xa, rfl, b6, ox⟩
      have B6 := hidD (below_then B5.out (below_low b6 B5.out.size))
      replace OA := hidD (OA.out.on b6)
      replace OD := hidD (OD.out.on b6)
      replace OR := hidD (OR.out.on b6)
      have OX := hidD ox
      obtain ⟨aOX, cOX, rfl, _, dOX, _⟩ := id ox.ts
      clear b6 ox
      go_wp2_with fail
      refine (RD.out w6 B6.out).mono ?_
      rintro e w7 ⟨xd, yd, rfl, b7, oy, oy2⟩
      have B7 := hidD (below_then B6.out (below_low b7 B6.out.size))
      replace OA := hidD (OA.out.on b7)
      replace OD := hidD (OD.out.on b7)
      replace OR := hidD (OR.out.on b7)
      replace OX := hidD (OX.out.on b7)
      have OY := hidD oy
      obtain ⟨aOY, cOY, rfl, _, dOY, _⟩ := id oy.ts
      clear b7 oy
      obtain ⟨ayd, cyd, rfl, _⟩ := id (Seg.own oy2)
      clear oy2
      go_wp2_with fail
      refine (RR.out w7 B7.out).mono ?_
      rintro e w8 ⟨xr, rfl, b8, oz⟩
      have B8 := hidD (below_then B7.out (below_low b8 B7.out.size))
      replace OA := hidD (OA.out.on b8)
      replace OD := hidD (OD.out.on b8)
      replace OR := hidD (OR.out.on b8)
      replace OX := hidD (OX.out.on b8)
      replace OY := hidD (OY.out.on b8)
      have OZ := hidD oz
      obtain ⟨aOZ, cOZ, rfl, _, dOZ, _⟩ := id oz.ts
      clear b8 oz
      clear RA RD RR
      go_wp2_with fail
      with_reducible refine (tsame_true _ _ rA w8 OA.out.ts OX.out.ts).mono ?_
      rintro e w9 ⟨rfl, b9⟩
      have B9 := hidD (below_then B8.out (below_low b9 B8.out.size))
      replace OA := hidD (OA.out.on b9)
      replace OD := hidD (OD.out.on b9)
      replace OR := hidD (OR.out.on b9)
      replace OX := hidD (OX.out.on b9)
      replace OY := hidD (OY.out.on b9)
      replace OZ := hidD (OZ.out.on b9)
      clear b9 
      go_wp2_with (first | (go_at_call 21; refine (num_any _ _).mono ?_; rintro e ww ⟨rfl, rfl⟩))
      with_reducible refine (tsame_true _ _ rD w9 OD.out.ts OY.out.ts).mono ?_
      rintro e w10 ⟨rfl, b10⟩
      have B10 := hidD (below_then B9.out (below_low b10 B9.out.size))
      replace OA := hidD (OA.out.on b10)
      replace OD := hidD (OD.out.on b10)
      replace OR := hidD (OR.out.on b10)
      replace OX := hidD (OX.out.on b10)
      replace OY := hidD (OY.out.on b10)
      replace OZ := hidD (OZ.out.on b10)
      clear b10 
      go_wp2_with (first | (go_at_call 21; refine (num_any _ _).mono ?_; rintro e ww ⟨rfl, rfl⟩))
      with_reducible refine (tsame_true _ _ rR w10 OR.out.ts OZ.out.ts).mono ?_
      rintro e w11 ⟨rfl, b11⟩
      have B11 := hidD (below_then B10.out (below_low b11 B10.out.size))
      replace OA := hidD (OA.out.on b11)
      replace OD := hidD (OD.out.on b11)
      replace OR := hidD (OR.out.on b11)
      replace OX := hidD (OX.out.on b11)
      replace OY := hidD (OY.out.on b11)
      replace OZ := hidD (OZ.out.on b11)
      clear b11 
      go_wp2_with (first | (go_at_call 21; refine (num_any _ _).mono ?_; rintro e ww ⟨rfl, rfl⟩))
      go_ret
      exact ⟨by first | rfl | simp, B11.out⟩

theorem walk {w : World} (v0 : Value) (l0 : List Ti.T) (hs0 : TS w v0 l0) (ho0 : ∀ x, x ∈ l0 → okTimer x) (z0 : l0.length ≤ 8796093022208) (v1 : Value) (l1 : List Ti.T) (hs1 : TS w v1 l1) (ho1 : ∀ x, x ∈ l1 → okTimer x) (z1 : l1.length ≤ 8796093022208) (a2 : Int) (w2 : (Lit.int .i64 a2).wf = true) :
    Calls Try.prog 8 #[v0, v1, .int .i64 a2] w fun e w' => e = .returned (.bool true) ∧ Below w.heap.size w w' :=
  own_walk v0 v1 l0 l1 a2 w hs0 hs1 z0

set_option maxRecDepth 100000 in
theorem lifted (os : Os) (started : os.Started) (H : Type) (enc : TypeId × Value → H) :
    ReturnsInHanded {} Try.checked os 8 .any (Rows.timerOwnSpec.pre6 enc Try.prog Try.f8 Rows.timerOwnRow.domain false) (Rows.timerOwnSpec.post enc Try.prog Try.f8 false true false false) := by
  refine returnsInHanded_of_change_sized (C := Try.checked) own started (by kernel_rfl) Try.func8
    (ChangeSpec.witness6 (enc := enc) (C := Try.checked) false ⟨#[], #[.slice none 0 0, .slice none 0 0, .int .i64 0], []⟩ 8 (by kernel_rfl) (by kernel_rfl) (by kernel_rfl) (by kernel_rfl)) ?_
  intro W base args ds gs before hval0 hW hcnd hsz0 _
  have hval : ∀ (j : Nat) t v, Try.f8.params[j]? = some t → args[j]? = some v → Value.okWide Try.prog W .any base t v := hval0
  have hsz : (DataW.weightsEach Try.prog (Try.f8.params.toList ++ Rows.timerOwnSpec.plain.varTypes Try.prog) (ds ++ gs)).all (· ≤ reachBytes) = true := hsz0
  have hW' := hW
  obtain ⟨p, q, hA0, hV, rfl, hfz, hnd⟩ := hW
  have hA : DataW.TrodAll enc Try.prog W 0 (fun _ => true) true Try.f8.params.toList args.toList ds p := hA0
  rw [Try.params8] at hA hval hsz
  obtain ⟨v0, vs0, d0, ds0, p0, q0, hargs, rfl, rfl, h0, r0⟩ := trodAll_cons hA
  obtain ⟨v1, vs1, d1, ds1, p1, q1, rfl, rfl, rfl, h1, r1⟩ := trodAll_cons r0
  obtain ⟨v2, vs2, d2, ds2, p2, q2, rfl, rfl, rfl, h2, r2⟩ := trodAll_cons r1
  obtain ⟨rfl, rfl, rfl⟩ := trodAll_nil r2
  obtain rfl : args = #[v0, v1, v2] := by cases args; simp_all
  obtain ⟨rfl, rfl⟩ := trodVars_none hV
  have k0 := h0
  have lt0 : ∀ x ∈ p0, x.block < W.heap.size := by obtain ⟨m, hm⟩ := k0; exact DataW.trod_lt m _ _ _ hm
  obtain ⟨l0, hs0, ho0, e0⟩ := open_timers (hval 0 22 v0 rfl rfl) h0
  have z0 : l0.length ≤ 8796093022208 := by
    rcases e0 with ⟨_, rfl⟩ | ⟨elems, spare, rfl, hl⟩
    · simp
    · have := sized_slice hsz (j := 0) (t := 22) (e := 31) rfl rfl Try.underlying22
      rw [Try.bytesT] at this
      simp only [reachBytes] at this
      omega
  have k1 := h1
  have lt1 : ∀ x ∈ p1, x.block < W.heap.size := by obtain ⟨m, hm⟩ := k1; exact DataW.trod_lt m _ _ _ hm
  obtain ⟨l1, hs1, ho1, e1⟩ := open_timers (hval 1 22 v1 rfl rfl) h1
  have z1 : l1.length ≤ 8796093022208 := by
    rcases e1 with ⟨_, rfl⟩ | ⟨elems, spare, rfl, hl⟩
    · simp
    · have := sized_slice hsz (j := 1) (t := 22) (e := 31) rfl rfl Try.underlying22
      rw [Try.bytesT] at this
      simp only [reachBytes] at this
      omega
  obtain ⟨a2, rfl, rfl, rfl, w2⟩ := open_int Try.underlying3 (hval 2 3 v2 rfl rfl) h2
  clear hA0 hval0
  refine (walk v0 l0 hs0 ho0 z0 v1 l1 hs1 ho1 z1 a2 w2).mono fun e W' ⟨he, bel⟩ => ?_
  subst he
  exact ⟨_, rfl, _, _, _, [], _, [], hW', trodAll_mk1 (shut_bool Try.underlying4 _), (trodAll_cons_mk (Below.trod laidOut (by kernel_rfl) (of_decide_eq_true (by kernel_rfl)) k0 bel lt0) (trodAll_cons_mk (Below.trod laidOut (by kernel_rfl) (of_decide_eq_true (by kernel_rfl)) k1 bel lt1) (trodAll_cons_mk (shut_int Try.underlying3 w2) trodAll_mk0))), rfl, bel.frame _, fun h => by cases h⟩

theorem over : Rows.timerOwnRow.holds Try.pinned (OpenSpec.ofChange Rows.timerOwnSpec) :=
  OpenClaim.holds_of_wide 8 Try.f8 rfl rfl rfl rfl rfl rfl rfl ⟨rfl, rfl, rfl, rfl, rfl⟩ rfl rfl rfl rfl rfl (by kernel_rfl) Try.func8 (by kernel_rfl)
    (of_decide_eq_true (by kernel_rfl)) (by unfold Func.isWrapper; first | (rw [if_pos (by decide +kernel)]; kernel_rfl) | (rw [if_neg (by decide +kernel)]; exact ⟨rfl, rfl⟩))
    (fun os started H enc _ => lifted os started H enc)
end Go.Proofs.Ytkamcjebihfdlaa.timerOwn

namespace Go.Proofs.Ytkamcjebihfdlaa
/-- THE STATEMENT. -/
theorem timerOwn_holds : Rows.TimerOwnSaid := timerOwn.over
#print axioms timerOwn_holds
end Go.Proofs.Ytkamcjebihfdlaa
