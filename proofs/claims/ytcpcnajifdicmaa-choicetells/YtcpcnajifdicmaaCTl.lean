/- For all uint64 states and hashes, all loads, all points and all ints n: Check, Least, Two, Ring and Spread tell what the reference tells, and the loads stay (the law ChoiceTells answers true): without a bound. -/
import Derived.Test.YtcpcnajifdicmaaRows
import Derived.BigQuiet
import Derived.Deep.QuietTactic
import Derived.WalkKit
import Derived.ProofKit
import Derived.OpenShut
import Derived.ShutString
import Derived.Test.YtcpcnajifdicmaaCB6
import Derived.Test.YtcpcnajifdicmaaOpenL
import Derived.Test.YtcpcnajifdicmaaOpenZ
namespace Go.Proofs.Ytcpcnajifdicmaa.choiceTells
open Go.ChangeShapes Go.WideShapes Go.ChangeAt Go.RowKit
open Go.ChangeMaps (open_string shut_string)
open Go.Sort Go.Shelf
set_option linter.unusedVariables false
set_option maxRecDepth 20000

set_option maxHeartbeats 16000000 in
theorem walk_v (s : Nat) (v : Value) (l : List Rp.Pt) (vr : Value) (r : List Rp.Pt) (h n A E1 S X E2 RI RE E4 EC : Int) (L : List Rp.Pt) (w : World) (hs : PSeg .i64 w v l) (hz : l.length ≤ 8796093022208) (hr : PSeg .u64 w vr r)
    (K10 : ∀ (u : Value) (W : World), PSeg .i64 W u l → Calls Try.prog 10 #[u] W fun e w' => e = .returned (.tuple #[.int .i64 A, .int .i64 E1]) ∧ Below W.heap.size W w')
    (K11 : ∀ (u : Value) (W : World), PSeg .i64 W u l → Calls Try.prog 11 #[u] W fun e w' => e = .returned (.tuple #[.int .i64 A, .int .i64 E1]) ∧ Below W.heap.size W w')
    (K12 : ∀ (u : Value) (W : World), PSeg .i64 W u l → Calls Try.prog 12 #[.int .u64 s, u] W fun e w' => e = .returned (.tuple #[.int .u64 S, .int .i64 X, .int .i64 E2]) ∧ Below W.heap.size W w')
    (K13 : ∀ (u : Value) (W : World), PSeg .i64 W u l → Calls Try.prog 13 #[.int .u64 s, u] W fun e w' => e = .returned (.tuple #[.int .u64 S, .int .i64 X, .int .i64 E2]) ∧ Below W.heap.size W w')
    (K14 : ∀ (u : Value) (W : World), PSeg .i64 W u l → PSeg .u64 W vr r → Calls Try.prog 14 #[vr, .int .u64 h, u] W fun e w' => e = .returned (.tuple #[.int .i64 RI, .int .i64 RE]) ∧ Below W.heap.size W w')
    (K15 : ∀ (u : Value) (W : World), PSeg .i64 W u l → PSeg .u64 W vr r → Calls Try.prog 15 #[vr, .int .u64 h, u] W fun e w' => e = .returned (.tuple #[.int .i64 RI, .int .i64 RE]) ∧ Below W.heap.size W w')
    (K16 : ∀ (u : Value) (W : World), PSeg .i64 W u l → Calls Try.prog 16 #[.int .u64 s, .int .i64 n, u] W fun e w' => ∃ v', e = .returned (.tuple #[v', .int .i64 E4]) ∧ PSeg .i64 w' v' L ∧ Below W.heap.size W w')
    (K17 : ∀ (u : Value) (W : World), PSeg .i64 W u l → Calls Try.prog 17 #[.int .u64 s, .int .i64 n, u] W fun e w' => ∃ v', e = .returned (.tuple #[v', .int .i64 E4]) ∧ PSeg .i64 w' v' L ∧ Below W.heap.size W w')
    (K20 : ∀ (u : Value) (W : World), PSeg .i64 W u l → Calls Try.prog 20 #[u] W fun e w' => e = .returned (.int .i64 EC) ∧ Below W.heap.size W w')
    (K21 : ∀ (u : Value) (W : World), PSeg .i64 W u l → Calls Try.prog 21 #[u] W fun e w' => e = .returned (.int .i64 EC) ∧ Below W.heap.size W w') :
    Calls Try.prog 3 #[.int .u64 s, v, vr, .int .u64 h, .int .i64 n] w fun e w' => e = .returned (.bool true) ∧ Below w.heap.size w w' := by
  have HS := hidD hs
  have HR := hidD hr
  have H10 := hidD K10
  have H11 := hidD K11
  have H12 := hidD K12
  have H13 := hidD K13
  have H14 := hidD K14
  have H15 := hidD K15
  have H16 := hidD K16
  have H17 := hidD K17
  have H20 := hidD K20
  have H21 := hidD K21
  have co := low_any v l w hs hz
  obtain ⟨a, cap, rfl, q1, q2, _, _⟩ := hs
  obtain ⟨a2, cap2, rfl, q3, q4, _, _⟩ := hr
  clear K10 K11 K12 K13 K14 K15 K16 K17 K20 K21
  go_enter Try.func3, Try.ntmps3
  go_wp2_with fail
  with_reducible refine co.mono ?_
  rintro e w1 ⟨vi, rfl, rowi, b1⟩
  have HI := hidD (pseg_of_rowL rowi)
  obtain ⟨ai, ci, rfl⟩ : ∃ ai ci, vi = .slice ai l.length ci := by
    rcases rowi.2 with ⟨rfl, h0⟩ | ⟨gg, cc, cur, rfl, _⟩
    · exact ⟨none, 0, by rw [h0]⟩
    · exact ⟨_, _, rfl⟩
  have B1 := hidD b1
  have c10 := H10.out _ w1 HI.out
  clear co rowi b1 H10
  go_wp2_with fail
  with_reducible refine c10.mono ?_
  rintro e w2 ⟨rfl, b2⟩
  have B2 := hidD (Below.step B1.out b2)
  have I2 := hidD (HI.out.below b2)
  have c11 := H11.out _ w2 (HS.out.below B2.out)
  clear c10 b2 H11 B1 HI
  go_wp2_with fail
  with_reducible refine c11.mono ?_
  rintro e w3 ⟨rfl, b3⟩
  have B3 := hidD (Below.step B2.out b3)
  have I3 := hidD (I2.out.below b3)
  have c12 := H12.out _ w3 I3.out
  clear c11 b3 H12 B2 I2
  go_wp2_with fail
  with_reducible refine c12.mono ?_
  rintro e w4 ⟨rfl, b4⟩
  have B4 := hidD (Below.step B3.out b4)
  have I4 := hidD (I3.out.below b4)
  have c13 := H13.out _ w4 (HS.out.below B4.out)
  clear c12 b4 H13 B3 I3
  go_wp2_with fail
  with_reducible refine c13.mono ?_
  rintro e w5 ⟨rfl, b5⟩
  have B5 := hidD (Below.step B4.out b5)
  have I5 := hidD (I4.out.below b5)
  have c14 := H14.out _ w5 I5.out (HR.out.below B5.out)
  clear c13 b5 H14 B4 I4
  go_wp2_with fail
  with_reducible refine c14.mono ?_
  rintro e w6 ⟨rfl, b6⟩
  have B6 := hidD (Below.step B5.out b6)
  have I6 := hidD (I5.out.below b6)
  have c15 := H15.out _ w6 (HS.out.below B6.out) (HR.out.below B6.out)
  clear c14 b6 H15 B5 I5
  go_wp2_with fail
  with_reducible refine c15.mono ?_
  rintro e w7 ⟨rfl, b7⟩
  have B7 := hidD (Below.step B6.out b7)
  have I7 := hidD (I6.out.below b7)
  have c16 := H16.out _ w7 I7.out
  clear c15 b7 H16 B6 I6
  go_wp2_with fail
  with_reducible refine c16.mono ?_
  rintro e w8 ⟨vu, rfl, hu8, b8⟩
  have B8 := hidD (Below.step B7.out b8)
  have I8 := hidD (I7.out.below b8)
  have U8 := hidD hu8
  obtain ⟨au, cu, rfl, u1, u2, _, _⟩ := hu8
  have c17 := H17.out _ w8 (HS.out.below B8.out)
  clear c16 b8 H17 B7 I7
  go_wp2_with fail
  with_reducible refine c17.mono ?_
  rintro e w9 ⟨vv, rfl, hv9, b9⟩
  have B9 := hidD (Below.step B8.out b9)
  have I9 := hidD (I8.out.below b9)
  have cs1 := lsame_true _ _ L w9 (U8.out.below b9) hv9
  obtain ⟨av, cv, rfl, z1, z2, _, _⟩ := hv9
  clear c17 b9 B8 I8 U8
  have n1 : (A != A) = false := by simp
  have n2 : (E1 != E1) = false := by simp
  have n3 : (S != S) = false := by simp
  have n4 : (X != X) = false := by simp
  have n5 : (E2 != E2) = false := by simp
  have n6 : (RI != RI) = false := by simp
  have n7 : (RE != RE) = false := by simp
  have n8 : (E4 != E4) = false := by simp
  have n9 : (EC == EC) = true := by simp
  go_wp2_with (go_at_call 18; refine (num_any _ _).mono ?_; rintro e ww ⟨rfl, rfl⟩)
  with_reducible refine cs1.mono ?_
  rintro e wa ⟨rfl, ba⟩
  have Ba := hidD (Below.step B9.out ba)
  have Ia := hidD (I9.out.below ba)
  have c20 := H20.out _ wa (HS.out.below Ba.out)
  clear cs1 ba B9 I9 H20
  go_wp2_with (go_at_call 18; refine (num_any _ _).mono ?_; rintro e ww ⟨rfl, rfl⟩)
  with_reducible refine c20.mono ?_
  rintro e wb ⟨rfl, bb⟩
  have Bb := hidD (Below.step Ba.out bb)
  have Ib := hidD (Ia.out.below bb)
  have c21 := H21.out _ wb (HS.out.below Bb.out)
  clear c20 bb Ba Ia H21
  go_wp2_with (go_at_call 18; refine (num_any _ _).mono ?_; rintro e ww ⟨rfl, rfl⟩)
  with_reducible refine c21.mono ?_
  rintro e wc ⟨rfl, bc⟩
  have Bc := hidD (Below.step Bb.out bc)
  have Ic := hidD (Ib.out.below bc)
  have cs2 := lsame_true _ _ l wc Ic.out (HS.out.below Bc.out)
  clear c21 bc Bb Ib
  go_wp2_with fail
  with_reducible refine cs2.mono ?_
  rintro e wd ⟨rfl, bd⟩
  have Bd := hidD (Below.step Bc.out bd)
  have ca := lalive_any wd
  clear cs2 bd Bc Ic
  go_wp2_with fail
  with_reducible refine ca.mono ?_
  rintro e we ⟨rfl, be⟩
  go_wp2
  go_ret
  exact ⟨by first | rfl | simp, Below.step Bd.out be⟩

theorem walk (s0 : Int) (hw0 : (Lit.int .u64 s0).wf = true) (v : Value) (l : List Rp.Pt) {w : World} (hs : PSeg .i64 w v l) (ho : ∀ t ∈ l, (Lit.int .i64 t.2).wf = true) (hz : l.length ≤ 8796093022208) (vr : Value) (r : List Rp.Pt) (hr : PSeg .u64 w vr r) (hwf : ∀ t ∈ r, (Lit.int .i64 t.2).wf = true) (hzr : r.length ≤ 8796093022208) (h : Int) (hw1 : (Lit.int .u64 h).wf = true) (n : Int) (hw2 : (Lit.int .i64 n).wf = true) :
    Calls Try.prog 3 #[.int .u64 s0, v, vr, .int .u64 h, .int .i64 n] w fun e w' => e = .returned (.bool true) ∧ Below w.heap.size w w' := by
  have hx := bounds_u64 hw0
  obtain ⟨s, rfl⟩ := Int.eq_ofNat_of_zero_le hx.1
  refine walk_v s v l vr r h n _ _ _ _ _ _ _ (Lo.spreadE n l) _ (Lo.spread s n l) w hs hz hr (fun u W hu => lleast_any u l W hu) (fun u W hu => lrleast_any u l W hu) (fun u W hu => ltwo_any s u l W hu) (fun u W hu => lrtwo_any s u l W hu) (fun u W hu hr => lring_any vr r h u l W hr hwf hu) (fun u W hu hr => lrring_any vr r h u l W hr hu) (fun u W hu => ?_) (fun u W hu => ?_) (fun u W hu => lcheck_any u l W hu) (fun u W hu => lrcheck_any u l W hu)
  · refine (lspread_any s n u l W hu).mono ?_
    rintro e w' ⟨v', rfl, row, b⟩
    exact ⟨v', rfl, pseg_of_rowL row, b⟩
  · refine (lrspread_any s n u l W hu).mono ?_
    rintro e w' ⟨v', rfl, row, b⟩
    exact ⟨v', rfl, pseg_of_rowL row, b⟩

set_option maxRecDepth 100000 in
theorem lifted (os : Os) (started : os.Started) (H : Type) (enc : TypeId × Value → H) :
    ReturnsInHanded {} Try.checked os 3 .any (Rows.choiceTellsSpec.pre6 enc Try.prog Try.f3 Rows.choiceTellsRow.domain false) (Rows.choiceTellsSpec.post enc Try.prog Try.f3 false true false false) := by
  refine returnsInHanded_of_change_sized (C := Try.checked) own started (by kernel_rfl) Try.func3
    (ChangeSpec.witness6 (enc := enc) (C := Try.checked) false ⟨#[], #[.int .u64 0, .slice none 0 0, .slice none 0 0, .int .u64 0, .int .i64 0], []⟩ 8 (by kernel_rfl) (by kernel_rfl) (by kernel_rfl) (by kernel_rfl)) ?_
  intro W base args ds gs before hval0 hW hcnd hsz0 _
  have hval : ∀ (j : Nat) t v, Try.f3.params[j]? = some t → args[j]? = some v → Value.okWide Try.prog W .any base t v := hval0
  have hsz : (DataW.weightsEach Try.prog (Try.f3.params.toList ++ Rows.choiceTellsSpec.plain.varTypes Try.prog) (ds ++ gs)).all (· ≤ reachBytes) = true := hsz0
  have hW' := hW
  obtain ⟨p, q, hA0, hV, rfl, hfz, hnd⟩ := hW
  have hA : DataW.TrodAll enc Try.prog W 0 (fun _ => true) true Try.f3.params.toList args.toList ds p := hA0
  rw [Try.params3] at hA hval hsz
  obtain ⟨v0, vs0, d0, ds0, p0, q0, hargs, rfl, rfl, h0, r0⟩ := trodAll_cons hA
  obtain ⟨v1, vs1, d1, ds1, p1, q1, rfl, rfl, rfl, h1, r1⟩ := trodAll_cons r0
  obtain ⟨v2, vs2, d2, ds2, p2, q2, rfl, rfl, rfl, h2, r2⟩ := trodAll_cons r1
  obtain ⟨v3, vs3, d3, ds3, p3, q3, rfl, rfl, rfl, h3, r3⟩ := trodAll_cons r2
  obtain ⟨v4, vs4, d4, ds4, p4, q4, rfl, rfl, rfl, h4, r4⟩ := trodAll_cons r3
  obtain ⟨rfl, rfl, rfl⟩ := trodAll_nil r4
  obtain rfl : args = #[v0, v1, v2, v3, v4] := by cases args; simp_all
  obtain ⟨rfl, rfl⟩ := trodVars_none hV
  obtain ⟨a0, rfl, rfl, rfl, w0⟩ := open_int Try.underlying22 (hval 0 22 v0 rfl rfl) h0
  have k1 := h1
  have lt1 : ∀ x ∈ p1, x.block < W.heap.size := by obtain ⟨m, hm⟩ := k1; exact DataW.trod_lt m _ _ _ hm
  obtain ⟨l1, hs1, ho1, e1⟩ := open_loads (hval 1 23 v1 rfl rfl) h1
  have z1 : l1.length ≤ 8796093022208 := by
    rcases e1 with ⟨_, rfl⟩ | ⟨elems, spare, rfl, hl⟩
    · simp
    · have := sized_slice hsz (j := 1) (t := 23) (e := 49) rfl rfl Try.underlying23
      rw [Try.bytesL] at this
      simp only [reachBytes] at this
      omega
  have k2 := h2
  have lt2 : ∀ x ∈ p2, x.block < W.heap.size := by obtain ⟨m, hm⟩ := k2; exact DataW.trod_lt m _ _ _ hm
  obtain ⟨l2, hs2, ho2, e2⟩ := open_pointsZ (hval 2 24 v2 rfl rfl) h2
  have z2 : l2.length ≤ 8796093022208 := by
    rcases e2 with ⟨_, rfl⟩ | ⟨elems, spare, rfl, hl⟩
    · simp
    · have := sized_slice hsz (j := 2) (t := 24) (e := 79) rfl rfl Try.underlying24
      rw [Try.bytesP] at this
      simp only [reachBytes] at this
      omega
  obtain ⟨a3, rfl, rfl, rfl, w3⟩ := open_int Try.underlying22 (hval 3 22 v3 rfl rfl) h3
  obtain ⟨a4, rfl, rfl, rfl, w4⟩ := open_int Try.underlying3 (hval 4 3 v4 rfl rfl) h4
  clear hA0 hval0
  refine (walk a0 w0 v1 l1 hs1 ho1 z1 v2 l2 hs2 ho2 z2 a3 w3 a4 w4).mono fun e W' ⟨he, bel⟩ => ?_
  subst he
  exact ⟨_, rfl, _, _, _, [], _, [], hW', trodAll_mk1 (shut_bool Try.underlying4 _), (trodAll_cons_mk (shut_int Try.underlying22 w0) (trodAll_cons_mk (Below.trod laidOut (by kernel_rfl) (of_decide_eq_true (by kernel_rfl)) k1 bel lt1) (trodAll_cons_mk (Below.trod laidOut (by kernel_rfl) (of_decide_eq_true (by kernel_rfl)) k2 bel lt2) (trodAll_cons_mk (shut_int Try.underlying22 w3) (trodAll_cons_mk (shut_int Try.underlying3 w4) trodAll_mk0))))), rfl, bel.frame _, fun h => by cases h⟩

theorem over : Rows.choiceTellsRow.holds Try.pinned (OpenSpec.ofChange Rows.choiceTellsSpec) :=
  OpenClaim.holds_of_wide 3 Try.f3 rfl rfl rfl rfl rfl rfl rfl ⟨rfl, rfl, rfl, rfl, rfl⟩ rfl rfl rfl rfl rfl (by kernel_rfl) Try.func3 (by kernel_rfl)
    (of_decide_eq_true (by kernel_rfl)) (by unfold Func.isWrapper; first | (rw [if_pos (by decide +kernel)]; kernel_rfl) | (rw [if_neg (by decide +kernel)]; exact ⟨rfl, rfl⟩))
    (fun os started H enc _ => lifted os started H enc)
end Go.Proofs.Ytcpcnajifdicmaa.choiceTells

namespace Go.Proofs.Ytcpcnajifdicmaa
/-- THE STATEMENT. -/
theorem choiceTells_holds : Rows.ChoiceTellsSaid := choiceTells.over
#print axioms choiceTells_holds
end Go.Proofs.Ytcpcnajifdicmaa
