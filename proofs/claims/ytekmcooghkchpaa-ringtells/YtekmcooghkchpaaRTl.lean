/- For all ints points and keys, all backends, all points and all uint64 hashes: Check, Build, Whole, Lookup, Walk and Shares tell what the reference tells (the law RingTells answers true), and the arguments stay: without a bound. -/
import Derived.Test.YtekmcooghkchpaaRows
import Derived.BigQuiet
import Derived.Deep.QuietTactic
import Derived.WalkKit
import Derived.ProofKit
import Derived.OpenShut
import Derived.ShutString
import Derived.Test.YtekmcooghkchpaaRT4
import Derived.Test.YtekmcooghkchpaaOpenZ
namespace Go.Proofs.Ytekmcooghkchpaa.ringTells
open Go.ChangeShapes Go.WideShapes Go.ChangeAt Go.RowKit
open Go.ChangeMaps (open_string shut_string)
open Go.Sort Go.Shelf
set_option linter.unusedVariables false
set_option maxRecDepth 20000

set_option maxRecDepth 100000 in
set_option maxHeartbeats 8000000 in
theorem walk_v (pn h keys : Int) (v u : Value) (l r RG : List Rp.Pt) (E1 A1 E2 E3 E4 E5 : Int) (W1 S1 : List Int) (w : World) (hv : PSeg .i64 w v l) (hu : PSeg .u64 w u r)
    (CO : Calls Try.prog 9 #[u] w fun e w' => ∃ v', e = .returned v' ∧ PSeg .u64 w' v' r ∧ Below w.heap.size w w')
    (CB : ∀ w' : World, PSeg .i64 w' v l → Calls Try.prog 10 #[.int .i64 pn, v] w' fun e w'' => ∃ v', e = .returned (.tuple #[v', .int .i64 E1]) ∧ PSeg .u64 w'' v' RG ∧ Below w'.heap.size w' w'')
    (CRB : ∀ w' : World, PSeg .i64 w' v l → Calls Try.prog 11 #[.int .i64 pn, v] w' fun e w'' => ∃ v', e = .returned (.tuple #[v', .int .i64 E1]) ∧ PSeg .u64 w'' v' RG ∧ Below w'.heap.size w' w'')
    (CL : ∀ (v' : Value) (w' : World), PSeg .u64 w' v' r → Calls Try.prog 12 #[v', .int .u64 h] w' fun e w'' => e = .returned (.tuple #[.int .i64 A1, .int .i64 E2]) ∧ Below w'.heap.size w' w'')
    (CRL : ∀ (v' : Value) (w' : World), PSeg .u64 w' v' r → Calls Try.prog 13 #[v', .int .u64 h] w' fun e w'' => e = .returned (.tuple #[.int .i64 A1, .int .i64 E2]) ∧ Below w'.heap.size w' w'')
    (CW : ∀ (v' : Value) (w' : World), PSeg .u64 w' v' r → Calls Try.prog 14 #[v', .int .u64 h] w' fun e w'' => ∃ v2, e = .returned (.tuple #[v2, .int .i64 E2]) ∧ Seg .i64 w'' v2 W1 ∧ Below w'.heap.size w' w'')
    (CRW : ∀ (v' : Value) (w' : World), PSeg .u64 w' v' r → Calls Try.prog 15 #[v', .int .u64 h] w' fun e w'' => ∃ v2, e = .returned (.tuple #[v2, .int .i64 E2]) ∧ Seg .i64 w'' v2 W1 ∧ Below w'.heap.size w' w'')
    (CS : ∀ (v' : Value) (w' : World), PSeg .u64 w' v' r → Calls Try.prog 16 #[v', .int .i64 keys] w' fun e w'' => ∃ v2, e = .returned (.tuple #[v2, .int .i64 E3]) ∧ Seg .i64 w'' v2 S1 ∧ Below w'.heap.size w' w'')
    (CRS : ∀ (v' : Value) (w' : World), PSeg .u64 w' v' r → Calls Try.prog 17 #[v', .int .i64 keys] w' fun e w'' => ∃ v2, e = .returned (.tuple #[v2, .int .i64 E3]) ∧ Seg .i64 w'' v2 S1 ∧ Below w'.heap.size w' w'')
    (CC : ∀ w' : World, PSeg .i64 w' v l → Calls Try.prog 21 #[v] w' fun e w'' => e = .returned (.int .i64 E4) ∧ Below w'.heap.size w' w'')
    (CRC : ∀ w' : World, PSeg .i64 w' v l → Calls Try.prog 22 #[v] w' fun e w'' => e = .returned (.int .i64 E4) ∧ Below w'.heap.size w' w'')
    (CH : ∀ (v' : Value) (w' : World), PSeg .u64 w' v' r → Calls Try.prog 23 #[v'] w' fun e w'' => e = .returned (.int .i64 E5) ∧ Below w'.heap.size w' w'')
    (CRH : ∀ (v' : Value) (w' : World), PSeg .u64 w' v' r → Calls Try.prog 24 #[v'] w' fun e w'' => e = .returned (.int .i64 E5) ∧ Below w'.heap.size w' w'') :
    Calls Try.prog 3 #[.int .i64 pn, v, u, .int .u64 h, .int .i64 keys] w fun e w' => e = .returned (.bool true) ∧ Below w.heap.size w w' := by
  have HV := hidD hv
  have HU := hidD hu
  obtain ⟨la, lcap, hveq, -⟩ := id hv
  obtain ⟨LN, hLN⟩ : ∃ LN, LN = l.length := ⟨_, rfl⟩
  rw [← hLN] at hveq
  subst hveq
  obtain ⟨ra, rcap, hueq, -⟩ := id hu
  obtain ⟨RN, hRN⟩ : ∃ RN, RN = r.length := ⟨_, rfl⟩
  rw [← hRN] at hueq
  subst hueq
  clear hv hu hLN hRN
  go_enter Try.func3, Try.ntmps3
  go_wp2_with fail
  with_reducible refine CO.mono ?_
  rintro e w1 ⟨vi, rfl, pi, b1⟩
  have c2 := CB w1 (HV.out.below b1)
  obtain ⟨ia, icap, hieq, -⟩ := id pi
  obtain ⟨IN, hIN⟩ : ∃ IN, IN = r.length := ⟨_, rfl⟩
  rw [← hIN] at hieq
  subst hieq
  have HPI := hidD pi
  clear CO CB hIN pi
  go_wp2_with fail
  with_reducible refine c2.mono ?_
  rintro e w2 ⟨va, rfl, pa, b2⟩
  have c3 := CRB w2 (HV.out.below (Below.step b1 b2))
  obtain ⟨aa, acap, haeq, -⟩ := id pa
  obtain ⟨AN, hAN⟩ : ∃ AN, AN = RG.length := ⟨_, rfl⟩
  rw [← hAN] at haeq
  subst haeq
  clear c2 CRB hAN
  go_wp2_with fail
  with_reducible refine c3.mono ?_
  rintro e w3 ⟨vb, rfl, pb, b3⟩
  have c4 := CL _ w3 ((HPI.out.below b2).below b3)
  obtain ⟨ba, bcap, hbeq, -⟩ := id pb
  obtain ⟨BN, hBN⟩ : ∃ BN, BN = RG.length := ⟨_, rfl⟩
  rw [← hBN] at hbeq
  subst hbeq
  clear c3 CL hBN
  have b13 := Below.step (Below.step b1 b2) b3
  have bi3 := Below.step b2 b3
  have HPA := hidD (pa.below b3)
  have HPB := hidD pb
  clear pa pb b1 b2 b3
  go_wp2_with fail
  with_reducible refine c4.mono ?_
  rintro e w4 ⟨rfl, b4⟩
  have c5 := CRL _ w4 (HU.out.below (Below.step b13 b4))
  clear c4 CRL
  go_wp2_with fail
  with_reducible refine c5.mono ?_
  rintro e w5 ⟨rfl, b5⟩
  have b35 := Below.step b4 b5
  have c6 := CW _ w5 (HPI.out.below (Below.step bi3 b35))
  clear c5 CW b4 b5
  go_wp2_with fail
  with_reducible refine c6.mono ?_
  rintro e w6 ⟨vw, rfl, sw, b6⟩
  have b36 := Below.step b35 b6
  have c7 := CRW _ w6 (HU.out.below (Below.step b13 b36))
  obtain ⟨wa, wcap, hweq, -⟩ := id sw
  obtain ⟨WN, hWN⟩ : ∃ WN, WN = W1.length := ⟨_, rfl⟩
  rw [← hWN] at hweq
  subst hweq
  have HSW := hidD sw
  clear c6 CRW b35 b6 hWN sw
  go_wp2_with fail
  with_reducible refine c7.mono ?_
  rintro e w7 ⟨vx, rfl, sx, b7⟩
  have b37 := Below.step b36 b7
  have c8 := CS _ w7 (HPI.out.below (Below.step bi3 b37))
  obtain ⟨xa, xcap, hxeq, -⟩ := id sx
  obtain ⟨XN, hXN⟩ : ∃ XN, XN = W1.length := ⟨_, rfl⟩
  rw [← hXN] at hxeq
  subst hxeq
  have HSW7 := hidD (HSW.out.below b7)
  have HSX := hidD sx
  clear c7 CS b36 b7 hXN sx HSW
  go_wp2_with fail
  with_reducible refine c8.mono ?_
  rintro e w8 ⟨vs, rfl, ss, b8⟩
  have b38 := Below.step b37 b8
  have c9 := CRS _ w8 (HU.out.below (Below.step b13 b38))
  obtain ⟨sa, scap, hseq, -⟩ := id ss
  obtain ⟨SN, hSN⟩ : ∃ SN, SN = S1.length := ⟨_, rfl⟩
  rw [← hSN] at hseq
  subst hseq
  have HSS := hidD ss
  clear c8 CRS b37 hSN ss
  go_wp2_with fail
  with_reducible refine c9.mono ?_
  rintro e w9 ⟨vt, rfl, st, b9⟩
  obtain ⟨ta, tcap, hteq, -⟩ := id st
  obtain ⟨TN, hTN⟩ : ∃ TN, TN = S1.length := ⟨_, rfl⟩
  rw [← hTN] at hteq
  subst hteq
  have b39 := Below.step b38 b9
  have b79 := Below.step b8 b9
  have cA := samePts _ _ RG w9 (HPA.out.below b39) (HPB.out.below b39)
  have HW9 := hidD (HSW7.out.below b79)
  have HX9 := hidD (HSX.out.below b79)
  have HS9 := hidD (HSS.out.below b9)
  have HT9 := hidD st
  have HI9 := hidD (HPI.out.below (Below.step bi3 b39))
  have HB9 := hidD (Below.step b13 b39)
  have hn1 : (E1 != E1) = false := by simp
  have hn2 : (A1 != A1) = false := by simp
  have hn3 : (E2 != E2) = false := by simp
  have hn4 : (E3 != E3) = false := by simp
  clear c9 hTN st b13 b38 b39 b79 b8 b9 HPA HPB HSW7 HSX HSS HPI
  go_wp2_with (go_at_call 19; refine (num_any _ _).mono ?_; rintro e wn ⟨rfl, rfl⟩)
  with_reducible refine cA.mono ?_
  rintro e wA ⟨rfl, bA⟩
  have cB := sameInts_any _ _ _ _ wA (HW9.out.below bA) (HX9.out.below bA)
  rw [decide_eq_true rfl] at cB
  clear cA
  go_wp2_with (go_at_call 19; refine (num_any _ _).mono ?_; rintro e wn ⟨rfl, rfl⟩)
  with_reducible refine cB.mono ?_
  rintro e wB ⟨rfl, bB⟩
  have bAB := Below.step bA bB
  have cC := sameInts_any _ _ _ _ wB (HS9.out.below bAB) (HT9.out.below bAB)
  rw [decide_eq_true rfl] at cC
  clear cB bA bB
  go_wp2_with (go_at_call 19; refine (num_any _ _).mono ?_; rintro e wn ⟨rfl, rfl⟩)
  with_reducible refine cC.mono ?_
  rintro e wC ⟨rfl, bC⟩
  have bAC := Below.step bAB bC
  have bwC := Below.step HB9.out bAC
  have cD := CC wC (HV.out.below bwC)
  clear cC bAB bC CC
  go_wp2_with (go_at_call 19; refine (num_any _ _).mono ?_; rintro e wn ⟨rfl, rfl⟩)
  with_reducible refine cD.mono ?_
  rintro e wD ⟨rfl, bD⟩
  have bwD := Below.step bwC bD
  have cE := CRC wD (HV.out.below bwD)
  clear cD CRC
  go_wp2_with (go_at_call 19; refine (num_any _ _).mono ?_; rintro e wn ⟨rfl, rfl⟩)
  with_reducible refine cE.mono ?_
  rintro e wE ⟨rfl, bE⟩
  have bwE := Below.step bwD bE
  have b9E := Below.step (Below.step bAC bD) bE
  have cF := CH _ wE (HI9.out.below b9E)
  have hq1 : (E4 == E4) = true := by simp
  have hq2 : (E5 == E5) = true := by simp
  clear cE CH bwC bwD bAC bD bE
  go_wp2_with (go_at_call 19; refine (num_any _ _).mono ?_; rintro e wn ⟨rfl, rfl⟩)
  with_reducible refine cF.mono ?_
  rintro e wF ⟨rfl, bF⟩
  have bwF := Below.step bwE bF
  have b9F := Below.step b9E bF
  have cG := CRH _ wF (HU.out.below bwF)
  clear cF CRH bwE b9E bF
  go_wp2_with (go_at_call 19; refine (num_any _ _).mono ?_; rintro e wn ⟨rfl, rfl⟩)
  with_reducible refine cG.mono ?_
  rintro e wG ⟨rfl, bG⟩
  have bwG := Below.step bwF bG
  have b9G := Below.step b9F bG
  have cH := samePts _ _ r wG (HI9.out.below b9G) (HU.out.below bwG)
  clear cG bwF b9F bG
  go_wp2_with (go_at_call 19; refine (num_any _ _).mono ?_; rintro e wn ⟨rfl, rfl⟩)
  with_reducible refine cH.mono ?_
  rintro e wH ⟨rfl, bH⟩
  have bwH := Below.step bwG bH
  have cI := alive_any wH
  clear cH bwG bH
  go_wp2_with (go_at_call 19; refine (num_any _ _).mono ?_; rintro e wn ⟨rfl, rfl⟩)
  with_reducible refine cI.mono ?_
  rintro e wI ⟨rfl, bI⟩
  go_wp2_with (go_at_call 19; refine (num_any _ _).mono ?_; rintro e wn ⟨rfl, rfl⟩)
  go_ret
  exact ⟨rfl, Below.step bwH bI⟩

theorem walk (pn : Int) (w0 : (Lit.int .i64 pn).wf = true) (v : Value) (l : List Rp.Pt) {w : World} (hv : PSeg .i64 w v l) (ho : ∀ t ∈ l, (Lit.int .i64 t.2).wf = true) (u : Value) (r : List Rp.Pt) (hu : PSeg .u64 w u r) (hwf : ∀ t ∈ r, (Lit.int .i64 t.2).wf = true) (hz : r.length ≤ 8796093022208) (h : Int) (w3 : (Lit.int .u64 h).wf = true) (keys : Int) (w4 : (Lit.int .i64 keys).wf = true) :
    Calls Try.prog 3 #[.int .i64 pn, v, u, .int .u64 h, .int .i64 keys] w fun e w' => e = .returned (.bool true) ∧ Below w.heap.size w w' :=
  walk_v pn h keys v u l r (Rp.ring pn l) (Rp.buildE pn l) (Rp.lookI r h) (Rp.peopledE r) (Rp.sharesE r keys) (Rp.checkE l) (Rp.wholeE r) (Rp.walkL r h) (Rp.sharesL r keys) w hv hu (own_any u r w hu hz)
    (fun w' hv' => (build_any pn v l w' hv').mono fun _ _ ⟨v', h1, h2, _, h3⟩ => ⟨v', h1, h2, h3⟩) (fun w' hv' => rbuild_any pn v l w' hv') (fun v' w' hv' => lookup_any v' r h w' hv') (fun v' w' hv' => rlookup_any v' r h w' hv')
    (fun v' w' hv' => (walk_any v' r h w' hv' hwf).mono fun _ _ ⟨v2, h1, h2, _, h3⟩ => ⟨v2, h1, h2, h3⟩) (fun v' w' hv' => (rwalk_any v' r h w' hv').mono fun _ _ ⟨v2, h1, h2, h3⟩ => ⟨v2, h1, Seg.own h2, h3⟩)
    (fun v' w' hv' => shares_any v' r keys w' hv' hwf) (fun v' w' hv' => rshares_any v' r keys w' hv') (fun w' hv' => check_any v l w' hv') (fun w' hv' => rcheck_any v l w' hv') (fun v' w' hv' => whole_any v' r w' hv') (fun v' w' hv' => rwhole_any v' r w' hv')

set_option maxRecDepth 100000 in
theorem lifted (os : Os) (started : os.Started) (H : Type) (enc : TypeId × Value → H) :
    ReturnsInHanded {} Try.checked os 3 .any (Rows.ringTellsSpec.pre6 enc Try.prog Try.f3 Rows.ringTellsRow.domain false) (Rows.ringTellsSpec.post enc Try.prog Try.f3 false true false false) := by
  refine returnsInHanded_of_change_sized (C := Try.checked) own started (by kernel_rfl) Try.func3
    (ChangeSpec.witness6 (enc := enc) (C := Try.checked) false ⟨#[], #[.int .i64 0, .slice none 0 0, .slice none 0 0, .int .u64 0, .int .i64 0], []⟩ 8 (by kernel_rfl) (by kernel_rfl) (by kernel_rfl) (by kernel_rfl)) ?_
  intro W base args ds gs before hval0 hW hcnd hsz0 _
  have hval : ∀ (j : Nat) t v, Try.f3.params[j]? = some t → args[j]? = some v → Value.okWide Try.prog W .any base t v := hval0
  have hsz : (DataW.weightsEach Try.prog (Try.f3.params.toList ++ Rows.ringTellsSpec.plain.varTypes Try.prog) (ds ++ gs)).all (· ≤ reachBytes) = true := hsz0
  have hW' := hW
  obtain ⟨p, q, hA0, hV, rfl, hfz, hnd⟩ := hW
  have hA : DataW.TrodAll enc Try.prog W 0 (fun _ => true) true Try.f3.params.toList args.toList ds p := hA0
  rw [Try.params3] at hA hval hsz
  obtain ⟨v0, vs0, d0, ds0, p0, q0, hargs, rfl, rfl, h0, r0⟩ := trodAll_cons hA
  obtain ⟨v1, vs1, d1, ds1, p1, q1, rfl, rfl, rfl, h1, r1⟩ := trodAll_cons r0
  obtain ⟨v2, vs2, d2, ds2, p2, q2, rfl, rfl, rfl, h2, r2⟩ := trodAll_cons r1
  obtain ⟨v3, vs3, d3, ds3, p3, q3, rfl, rfl, rfl, h3, r3⟩ := trodAll_cons r2
  obtain ⟨v4, vs4, d4, ds4, p4, q4, rfl, rfl, rfl, h4, r4⟩ := trodAll_cons r3
  obtain ⟨rfl, rfl, rfl⟩ := trodAll_nil r4
  obtain rfl : args = #[v0, v1, v2, v3, v4] := by cases args; simp_all
  obtain ⟨rfl, rfl⟩ := trodVars_none hV
  obtain ⟨a0, rfl, rfl, rfl, w0⟩ := open_int Try.underlying3 (hval 0 3 v0 rfl rfl) h0
  have k1 := h1
  have lt1 : ∀ x ∈ p1, x.block < W.heap.size := by obtain ⟨m, hm⟩ := k1; exact DataW.trod_lt m _ _ _ hm
  obtain ⟨l1, hs1, ho1, _⟩ := open_backs (hval 1 22 v1 rfl rfl) h1
  have k2 := h2
  have lt2 : ∀ x ∈ p2, x.block < W.heap.size := by obtain ⟨m, hm⟩ := k2; exact DataW.trod_lt m _ _ _ hm
  obtain ⟨l2, hs2, ho2, e2⟩ := open_pointsZ (hval 2 23 v2 rfl rfl) h2
  have z2 : l2.length ≤ 8796093022208 := by
    rcases e2 with ⟨_, rfl⟩ | ⟨elems, spare, rfl, hl⟩
    · simp
    · have := sized_slice hsz (j := 2) (t := 23) (e := 52) rfl rfl Try.underlying23
      rw [Try.bytesP] at this
      simp only [reachBytes] at this
      omega
  obtain ⟨a3, rfl, rfl, rfl, w3⟩ := open_int Try.underlying24 (hval 3 24 v3 rfl rfl) h3
  obtain ⟨a4, rfl, rfl, rfl, w4⟩ := open_int Try.underlying3 (hval 4 3 v4 rfl rfl) h4
  clear hA0 hval0
  refine (walk a0 w0 v1 l1 hs1 ho1 v2 l2 hs2 ho2 z2 a3 w3 a4 w4).mono fun e W' ⟨he, bel⟩ => ?_
  subst he
  exact ⟨_, rfl, _, _, _, [], _, [], hW', trodAll_mk1 (shut_bool Try.underlying4 _), (trodAll_cons_mk (shut_int Try.underlying3 w0) (trodAll_cons_mk (Below.trod laidOut (by kernel_rfl) (of_decide_eq_true (by kernel_rfl)) k1 bel lt1) (trodAll_cons_mk (Below.trod laidOut (by kernel_rfl) (of_decide_eq_true (by kernel_rfl)) k2 bel lt2) (trodAll_cons_mk (shut_int Try.underlying24 w3) (trodAll_cons_mk (shut_int Try.underlying3 w4) trodAll_mk0))))), rfl, bel.frame _, fun h => by cases h⟩

theorem over : Rows.ringTellsRow.holds Try.pinned (OpenSpec.ofChange Rows.ringTellsSpec) :=
  OpenClaim.holds_of_wide 3 Try.f3 rfl rfl rfl rfl rfl rfl rfl ⟨rfl, rfl, rfl, rfl, rfl⟩ rfl rfl rfl rfl rfl (by kernel_rfl) Try.func3 (by kernel_rfl)
    (of_decide_eq_true (by kernel_rfl)) (by unfold Func.isWrapper; first | (rw [if_pos (by decide +kernel)]; kernel_rfl) | (rw [if_neg (by decide +kernel)]; exact ⟨rfl, rfl⟩))
    (fun os started H enc _ => lifted os started H enc)
end Go.Proofs.Ytekmcooghkchpaa.ringTells

namespace Go.Proofs.Ytekmcooghkchpaa
/-- THE STATEMENT. -/
theorem ringTells_holds : Rows.RingTellsSaid := ringTells.over
#print axioms ringTells_holds
end Go.Proofs.Ytekmcooghkchpaa
