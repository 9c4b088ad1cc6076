/- SubsetTells: any client's subset, its round, how many clients each backend has, and what changed between two lists, are as the reference says, and lists stay: for every two lists, client, size, seed and number. -/
import Derived.Test.YtdgdhhbapgfjgaaRows
import Derived.BigQuiet
import Derived.Deep.QuietTactic
import Derived.WalkKit
import Derived.ProofKit
import Derived.OpenShut
import Derived.ShutString
import Derived.Test.YtdgdhhbapgfjgaaSRG
import Derived.Test.YtdgdhhbapgfjgaaOpen
import Derived.Test.YtdgdhhbapgfjgaaOpenI
namespace Go.Proofs.Ytdgdhhbapgfjgaa.subsetTells
open Go.ChangeShapes Go.WideShapes Go.ChangeAt Go.RowKit
open Go.ChangeMaps (open_string shut_string)
open Go.Sort Go.Shelf
set_option linter.unusedVariables false
set_option maxRecDepth 20000

set_option maxRecDepth 100000 in
set_option maxHeartbeats 8000000 in
theorem walk_v (v u : Value) (ids other : List Int) (c k n : Int) (s : Nat) (w : World) (E R P RE CE : Int) (L CL MO GO : List Int) (hs : Seg .i64 w v ids) (ho : Seg .i64 w u other) (hl : ids.length ≤ 17592186043904)
    (C1 : ∀ (v : Value) (w : World), Seg .i64 w v ids → Calls Try.prog 10 #[v, .int .i64 c, .int .i64 k, .int .u64 s] w fun e w' => ∃ v', e = .returned (.tuple #[v', .int .i64 E]) ∧ Seg .i64 w' v' L ∧ Below w.heap.size w w')
    (C2 : ∀ (v : Value) (w : World), Seg .i64 w v ids → Calls Try.prog 11 #[v, .int .i64 c, .int .i64 k, .int .u64 s] w fun e w' => ∃ v', e = .returned (.tuple #[v', .int .i64 E]) ∧ Seg .i64 w' v' L ∧ Below w.heap.size w w')
    (C3 : ∀ w : World, Calls Try.prog 12 #[.int .i64 n, .int .i64 c, .int .i64 k] w fun e w' => e = .returned (.tuple #[.int .i64 R, .int .i64 P, .int .i64 RE]) ∧ Below w.heap.size w w')
    (C4 : ∀ w : World, Calls Try.prog 13 #[.int .i64 n, .int .i64 c, .int .i64 k] w fun e w' => e = .returned (.tuple #[.int .i64 R, .int .i64 P, .int .i64 RE]) ∧ Below w.heap.size w w')
    (C5 : ∀ (v : Value) (w : World), Seg .i64 w v ids → Calls Try.prog 14 #[v, .int .i64 n, .int .i64 k, .int .u64 s] w fun e w' => ∃ v', e = .returned (.tuple #[v', .int .i64 CE]) ∧ Seg .i64 w' v' CL ∧ Below w.heap.size w w')
    (C6 : ∀ (v : Value) (w : World), Seg .i64 w v ids → Calls Try.prog 15 #[v, .int .i64 n, .int .i64 k, .int .u64 s] w fun e w' => ∃ v', e = .returned (.tuple #[v', .int .i64 CE]) ∧ Seg .i64 w' v' CL ∧ Below w.heap.size w w')
    (C7 : ∀ (v u : Value) (w : World), Seg .i64 w v ids → Seg .i64 w u other → Calls Try.prog 16 #[v, u] w fun e w' => ∃ v1 v2, e = .returned (.tuple #[v1, v2]) ∧ Seg .i64 w' v1 MO ∧ Seg .i64 w' v2 GO ∧ Below w.heap.size w w')
    (C8 : ∀ (v u : Value) (w : World), Seg .i64 w v ids → Seg .i64 w u other → Calls Try.prog 17 #[v, u] w fun e w' => ∃ v1 v2, e = .returned (.tuple #[v1, v2]) ∧ Seg .i64 w' v1 MO ∧ Seg .i64 w' v2 GO ∧ Below w.heap.size w w') :
    Calls Try.prog 3 #[v, u, .int .i64 c, .int .i64 k, .int .u64 s, .int .i64 n] w fun e w' => e = .returned (.bool true) ∧ Below w.heap.size w w' := by
  have cc := copy_any v ids w hs (by omega)
  go_enter Try.func3, Try.ntmps3
  go_wp2_with fail
  with_reducible refine cc.mono ?_
  rintro e w1 ⟨v1, rfl, row1, b1⟩
  have own1 : Seg .i64 w1 v1 ids := Seg.own row1
  have hs1 := hs.below b1
  have ho1 := ho.below b1
  have c1 := C1 v1 w1 own1
  clear cc row1 C1
  go_wp2_with fail
  with_reducible refine c1.mono ?_
  rintro e w2 ⟨va, rfl, sa2, b2⟩
  have own2 := own1.below b2
  have hs2 := hs1.below b2
  have ho2 := ho1.below b2
  have B2 := Below.step b1 b2
  have c2 := C2 v w2 hs2
  clear c1 own1 hs1 ho1 b1 b2 C2
  go_wp2_with fail
  with_reducible refine c2.mono ?_
  rintro e w3 ⟨vb, rfl, sb3, b3⟩
  have own3 := own2.below b3
  have hs3 := hs2.below b3
  have ho3 := ho2.below b3
  have sa3 := sa2.below b3
  have B3 := Below.step B2 b3
  have c3 := C3 w3
  clear c2 own2 hs2 ho2 sa2 b3 B2 C3
  go_wp2_with fail
  with_reducible refine c3.mono ?_
  rintro e w4 ⟨rfl, b4⟩
  have c4 := C4 w4
  clear c3 C4
  go_wp2_with fail
  with_reducible refine c4.mono ?_
  rintro e w5 ⟨rfl, b5⟩
  have own5 := (own3.below b4).below b5
  have hs5 := (hs3.below b4).below b5
  have ho5 := (ho3.below b4).below b5
  have sa5 := (sa3.below b4).below b5
  have sb5 := (sb3.below b4).below b5
  have B5 := Below.step (Below.step B3 b4) b5
  have c5 := C5 v1 w5 own5
  clear c4 own3 hs3 ho3 sa3 sb3 b4 b5 B3 C5
  go_wp2_with fail
  with_reducible refine c5.mono ?_
  rintro e w6 ⟨vc, rfl, sc6, b6⟩
  have own6 := own5.below b6
  have hs6 := hs5.below b6
  have ho6 := ho5.below b6
  have sa6 := sa5.below b6
  have sb6 := sb5.below b6
  have B6 := Below.step B5 b6
  have c6 := C6 v w6 hs6
  clear c5 own5 hs5 ho5 sa5 sb5 b6 B5 C6
  go_wp2_with fail
  with_reducible refine c6.mono ?_
  rintro e w7 ⟨vd, rfl, sd7, b7⟩
  have own7 := own6.below b7
  have hs7 := hs6.below b7
  have ho7 := ho6.below b7
  have sa7 := sa6.below b7
  have sb7 := sb6.below b7
  have sc7 := sc6.below b7
  have B7 := Below.step B6 b7
  have c7 := C7 v1 u w7 own7 ho7
  clear c6 own6 hs6 ho6 sa6 sb6 sc6 b7 B6 C7
  go_wp2_with fail
  with_reducible refine c7.mono ?_
  rintro e w8 ⟨vx, vy, rfl, sx8, sy8, b8⟩
  have own8 := own7.below b8
  have hs8 := hs7.below b8
  have ho8 := ho7.below b8
  have sa8 := sa7.below b8
  have sb8 := sb7.below b8
  have sc8 := sc7.below b8
  have sd8 := sd7.below b8
  have B8 := Below.step B7 b8
  have c8 := C8 v u w8 hs8 ho8
  clear c7 own7 hs7 ho7 sa7 sb7 sc7 sd7 b8 B7 C8
  go_wp2_with fail
  with_reducible refine c8.mono ?_
  rintro e w9 ⟨vu, vv, rfl, su9, sv9, b9⟩
  have own9 := own8.below b9
  have hs9 := hs8.below b9
  have sa9 := sa8.below b9
  have sb9 := sb8.below b9
  have sc9 := sc8.below b9
  have sd9 := sd8.below b9
  have sx9 := sx8.below b9
  have sy9 := sy8.below b9
  have B9 := Below.step B8 b9
  clear c8 own8 hs8 ho8 sa8 sb8 sc8 sd8 sx8 sy8 b9 B8 hs ho
  have SI : ∀ (x y : Value) (l : List Int) (wz : World), Below w9.heap.size w9 wz → Seg .i64 w9 x l → Seg .i64 w9 y l → Calls Try.prog 18 #[x, y] wz fun e w' => e = .returned (.bool true) ∧ Below w9.heap.size w9 w' := by
    intro x y l wz hb h1 h2
    refine (sameInts_any x y l l wz (h1.below hb) (h2.below hb)).mono ?_
    rintro e w' ⟨rfl, b'⟩
    rw [decide_eq_true rfl]
    exact ⟨rfl, Below.step hb b'⟩
  have HSI := hidD SI
  have Hown := hidD own9
  have Hhs := hidD hs9
  have Hsa := hidD sa9
  have Hsb := hidD sb9
  have Hsc := hidD sc9
  have Hsd := hidD sd9
  have Hsx := hidD sx9
  have Hsy := hidD sy9
  have Hsu := hidD su9
  have Hsv := hidD sv9
  have HB9 := hidD B9
  clear SI own9 hs9 sa9 sb9 sc9 sd9 sx9 sy9 su9 sv9 B9
  go_wp2_with fail
  refine (HSI.out va vb L w9 (Below.refl _ _) Hsa.out Hsb.out).mono ?_
  rintro e w10 ⟨rfl, b10⟩
  go_wp2_with (go_at_call 19; refine (num_any _ _).mono ?_; rintro e w4 ⟨rfl, rfl⟩)
  refine (HSI.out vc vd CL w10 b10 Hsc.out Hsd.out).mono ?_
  rintro e w11 ⟨rfl, b11⟩
  clear b10
  go_wp2_with (go_at_call 19; refine (num_any _ _).mono ?_; rintro e w4 ⟨rfl, rfl⟩)
  refine (HSI.out vx vu MO w11 b11 Hsx.out Hsu.out).mono ?_
  rintro e w12 ⟨rfl, b12⟩
  clear b11
  go_wp2_with fail
  refine (HSI.out vy vv GO w12 b12 Hsy.out Hsv.out).mono ?_
  rintro e w13 ⟨rfl, b13⟩
  clear b12
  go_wp2_with fail
  refine (HSI.out v1 v ids w13 b13 Hown.out Hhs.out).mono ?_
  rintro e w14 ⟨rfl, b14⟩
  clear b13
  have ca := alive_any w14
  go_wp2_with fail
  refine ca.mono ?_
  rintro e w15 ⟨rfl, b15⟩
  go_wp2
  go_ret
  exact ⟨by first | rfl | simp, Below.step (Below.step HB9.out b14) b15⟩

theorem walk {w : World} (v0 : Value) (l0 : List Int) (hs0 : Seg .i64 w v0 l0) (ho0 : ∀ z ∈ l0, -9223372036854775808 ≤ z ∧ z ≤ 9223372036854775807) (z0 : l0.length ≤ 17592186043904) (v1 : Value) (l1 : List Int) (hs1 : Seg .i64 w v1 l1) (ho1 : ∀ z ∈ l1, -9223372036854775808 ≤ z ∧ z ≤ 9223372036854775807) (z1 : l1.length ≤ 17592186043904) (c : Int) (w1 : (Lit.int .i64 c).wf = true) (k : Int) (w2 : (Lit.int .i64 k).wf = true) (x : Int) (w3 : (Lit.int .u64 x).wf = true) (n : Int) (w4 : (Lit.int .i64 n).wf = true) :
    Calls Try.prog 3 #[v0, v1, .int .i64 c, .int .i64 k, .int .u64 x, .int .i64 n] w fun e w' => e = .returned (.bool true) ∧ Below w.heap.size w w' := by
  have hx := bounds_u64 w3
  clear w1 w2 w3 w4
  obtain ⟨s, rfl⟩ := Int.eq_ofNat_of_zero_le hx.1
  have hs : s < 18446744073709551616 := by omega
  exact walk_v v0 v1 l0 l1 c k n s w _ _ _ _ _ _ _ _ _ hs0 hs1 z0 (fun v w h => of_any v l0 c k s w h hs) (fun v w h => rof_any v l0 c k s w h hs) (fun w => round_any n c k w) (fun w => rround_any n c k w) (fun v w h => counts_any v l0 n k s w h hs) (fun v w h => rcounts_any v l0 n k s w h hs)
    (fun v u w h1 h2 => change_any v u l0 l1 w h1 h2 (by omega) (by omega)) (fun v u w h1 h2 => rchange_any v u l0 l1 w h1 h2 (by omega) (by omega))

set_option maxRecDepth 100000 in
theorem lifted (os : Os) (started : os.Started) (H : Type) (enc : TypeId × Value → H) :
    ReturnsInHanded {} Try.checked os 3 .any (Rows.subsetTellsSpec.pre6 enc Try.prog Try.f3 Rows.subsetTellsRow.domain false) (Rows.subsetTellsSpec.post enc Try.prog Try.f3 false true false false) := by
  refine returnsInHanded_of_change_sized (C := Try.checked) own started (by kernel_rfl) Try.func3
    (ChangeSpec.witness6 (enc := enc) (C := Try.checked) false ⟨#[], #[.slice none 0 0, .slice none 0 0, .int .i64 0, .int .i64 0, .int .u64 0, .int .i64 0], []⟩ 8 (by kernel_rfl) (by kernel_rfl) (by kernel_rfl) (by kernel_rfl)) ?_
  intro W base args ds gs before hval0 hW hcnd hsz0 _
  have hval : ∀ (j : Nat) t v, Try.f3.params[j]? = some t → args[j]? = some v → Value.okWide Try.prog W .any base t v := hval0
  have hsz : (DataW.weightsEach Try.prog (Try.f3.params.toList ++ Rows.subsetTellsSpec.plain.varTypes Try.prog) (ds ++ gs)).all (· ≤ reachBytes) = true := hsz0
  have hW' := hW
  obtain ⟨p, q, hA0, hV, rfl, hfz, hnd⟩ := hW
  have hA : DataW.TrodAll enc Try.prog W 0 (fun _ => true) true Try.f3.params.toList args.toList ds p := hA0
  rw [Try.params3] at hA hval hsz
  obtain ⟨v0, vs0, d0, ds0, p0, q0, hargs, rfl, rfl, h0, r0⟩ := trodAll_cons hA
  obtain ⟨v1, vs1, d1, ds1, p1, q1, rfl, rfl, rfl, h1, r1⟩ := trodAll_cons r0
  obtain ⟨v2, vs2, d2, ds2, p2, q2, rfl, rfl, rfl, h2, r2⟩ := trodAll_cons r1
  obtain ⟨v3, vs3, d3, ds3, p3, q3, rfl, rfl, rfl, h3, r3⟩ := trodAll_cons r2
  obtain ⟨v4, vs4, d4, ds4, p4, q4, rfl, rfl, rfl, h4, r4⟩ := trodAll_cons r3
  obtain ⟨v5, vs5, d5, ds5, p5, q5, rfl, rfl, rfl, h5, r5⟩ := trodAll_cons r4
  obtain ⟨rfl, rfl, rfl⟩ := trodAll_nil r5
  obtain rfl : args = #[v0, v1, v2, v3, v4, v5] := by cases args; simp_all
  obtain ⟨rfl, rfl⟩ := trodVars_none hV
  have k0 := h0
  have lt0 : ∀ x ∈ p0, x.block < W.heap.size := by obtain ⟨m, hm⟩ := k0; exact DataW.trod_lt m _ _ _ hm
  obtain ⟨l0, hs0, ho0, e0⟩ := open_numbers (hval 0 22 v0 rfl rfl) h0
  have z0 : l0.length ≤ 17592186043904 := by
    rcases e0 with ⟨_, rfl⟩ | ⟨elems, spare, rfl, hl⟩
    · simp
    · have := sized_slice hsz (j := 0) (t := 22) (e := 3) rfl rfl Try.underlying22
      rw [Try.bytesI] at this
      simp only [reachBytes] at this
      omega
  have k1 := h1
  have lt1 : ∀ x ∈ p1, x.block < W.heap.size := by obtain ⟨m, hm⟩ := k1; exact DataW.trod_lt m _ _ _ hm
  obtain ⟨l1, hs1, ho1, e1⟩ := open_numbers (hval 1 22 v1 rfl rfl) h1
  have z1 : l1.length ≤ 17592186043904 := by
    rcases e1 with ⟨_, rfl⟩ | ⟨elems, spare, rfl, hl⟩
    · simp
    · have := sized_slice hsz (j := 1) (t := 22) (e := 3) rfl rfl Try.underlying22
      rw [Try.bytesI] at this
      simp only [reachBytes] at this
      omega
  obtain ⟨a2, rfl, rfl, rfl, w2⟩ := open_int Try.underlying3 (hval 2 3 v2 rfl rfl) h2
  obtain ⟨a3, rfl, rfl, rfl, w3⟩ := open_int Try.underlying3 (hval 3 3 v3 rfl rfl) h3
  obtain ⟨a4, rfl, rfl, rfl, w4⟩ := open_int Try.underlying23 (hval 4 23 v4 rfl rfl) h4
  obtain ⟨a5, rfl, rfl, rfl, w5⟩ := open_int Try.underlying3 (hval 5 3 v5 rfl rfl) h5
  clear hA0 hval0
  refine (walk v0 l0 hs0 ho0 z0 v1 l1 hs1 ho1 z1 a2 w2 a3 w3 a4 w4 a5 w5).mono fun e W' ⟨he, bel⟩ => ?_
  subst he
  exact ⟨_, rfl, _, _, _, [], _, [], hW', trodAll_mk1 (shut_bool Try.underlying4 _), (trodAll_cons_mk (Below.trod laidOut (by kernel_rfl) (of_decide_eq_true (by kernel_rfl)) k0 bel lt0) (trodAll_cons_mk (Below.trod laidOut (by kernel_rfl) (of_decide_eq_true (by kernel_rfl)) k1 bel lt1) (trodAll_cons_mk (shut_int Try.underlying3 w2) (trodAll_cons_mk (shut_int Try.underlying3 w3) (trodAll_cons_mk (shut_int Try.underlying23 w4) (trodAll_cons_mk (shut_int Try.underlying3 w5) trodAll_mk0)))))), rfl, bel.frame _, fun h => by cases h⟩

theorem over : Rows.subsetTellsRow.holds Try.pinned (OpenSpec.ofChange Rows.subsetTellsSpec) :=
  OpenClaim.holds_of_wide 3 Try.f3 rfl rfl rfl rfl rfl rfl rfl ⟨rfl, rfl, rfl, rfl, rfl⟩ rfl rfl rfl rfl rfl (by kernel_rfl) Try.func3 (by kernel_rfl)
    (of_decide_eq_true (by kernel_rfl)) (by unfold Func.isWrapper; first | (rw [if_pos (by decide +kernel)]; kernel_rfl) | (rw [if_neg (by decide +kernel)]; exact ⟨rfl, rfl⟩))
    (fun os started H enc _ => lifted os started H enc)
end Go.Proofs.Ytdgdhhbapgfjgaa.subsetTells

namespace Go.Proofs.Ytdgdhhbapgfjgaa
/-- THE STATEMENT. -/
theorem subsetTells_holds : Rows.SubsetTellsSaid := subsetTells.over
#print axioms subsetTells_holds
end Go.Proofs.Ytdgdhhbapgfjgaa
