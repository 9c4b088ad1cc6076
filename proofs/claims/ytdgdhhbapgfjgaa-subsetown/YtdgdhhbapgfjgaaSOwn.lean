/- SubsetOwn: what Of tells shares nothing with the list that was handed in, and is what the reference tells: for every list, client, size and seed. -/
import Derived.Test.YtdgdhhbapgfjgaaRows
import Derived.BigQuiet
import Derived.Deep.QuietTactic
import Derived.WalkKit
import Derived.ProofKit
import Derived.OpenShut
import Derived.ShutString
import Derived.Test.YtdgdhhbapgfjgaaSR4
import Derived.Test.YtdgdhhbapgfjgaaOpen
import Derived.Test.YtdgdhhbapgfjgaaOpenI
namespace Go.Proofs.Ytdgdhhbapgfjgaa.subsetOwn
open Go.ChangeShapes Go.WideShapes Go.ChangeAt Go.RowKit
open Go.ChangeMaps (open_string shut_string)
open Go.Sort Go.Shelf
set_option linter.unusedVariables false
set_option maxRecDepth 20000

set_option maxHeartbeats 4000000 in
theorem walk_v (v : Value) (ids : List Int) (c k : Int) (s : Nat) (w : World) (E : Int) (L : List Int) (hs : Seg .i64 w v ids) (hl : ids.length ≤ 17592186043904)
    (C1 : ∀ (v : Value) (w : World), Seg .i64 w v ids → Calls Try.prog 10 #[v, .int .i64 c, .int .i64 k, .int .u64 s] w fun e w' => ∃ v', e = .returned (.tuple #[v', .int .i64 E]) ∧ Seg .i64 w' v' L ∧ Below w.heap.size w w' ∧ FreshS w.heap.size v')
    (C2 : ∀ (v : Value) (w : World), Seg .i64 w v ids → Calls Try.prog 11 #[v, .int .i64 c, .int .i64 k, .int .u64 s] w fun e w' => ∃ v', e = .returned (.tuple #[v', .int .i64 E]) ∧ Seg .i64 w' v' L ∧ Below w.heap.size w w') :
    Calls Try.prog 8 #[v, .int .i64 c, .int .i64 k, .int .u64 s] w fun e w' => e = .returned (.bool true) ∧ Below w.heap.size w w' := by
  have ca := alive_any w
  have HS := hidD hs
  have HC2 := hidD C2
  obtain ⟨a, cap, rfl, q1, q2, _, _⟩ := hs
  unfold maxLen at q2
  go_enter Try.func8, Try.ntmps8
  go_wp2_with fail
  with_reducible refine ca.mono ?_
  rintro e w1 ⟨rfl, b1⟩
  have HS1 := hidD (HS.out.below b1)
  have cc := copy_any _ ids w1 HS1.out (by omega)
  clear ca C2
  go_wp2_with fail
  with_reducible refine cc.mono ?_
  rintro e w2 ⟨v2, rfl, row2, b2⟩
  have cf := C1 v2 w2 (Seg.own row2)
  have HCP : Hid (∀ a c, v2 = .slice a ids.length c → ids.length ≤ c ∧ c ≤ 2 ^ 63 - 1) := hidD (fun a c h => by
    subst h
    obtain ⟨_, _, e', g1, g2, _, _⟩ := Seg.own row2
    cases e'
    exact ⟨g1, g2⟩)
  clear cc C1
  go_wp2_with fail
  with_reducible refine cf.mono ?_
  rintro e w3 ⟨v3, rfl, hs3, b3, f3⟩
  clear cf
  have HL := hidD hs3
  obtain ⟨a3, cap3, rfl, q3, q4, _, _⟩ := hs3
  unfold maxLen at q4
  have HF3 : Hid (∀ x, a3 = some x → w2.heap.size ≤ x.block) := hidD (fun x h => f3 x _ _ (by rw [h]))
  have row3 := own_below row2 b3
  obtain ⟨N, hN⟩ : ∃ N, N = ids.length := ⟨_, rfl⟩
  rw [← hN] at row2 row3 HS1 q1 hl HCP ⊢
  clear hN
  obtain ⟨a2, cap2, rfl⟩ := row_slice row2
  have HLT : Hid (∀ g, a2 = some ⟨g, 0, none⟩ → g < w2.heap.size ∧ w1.heap.size ≤ g) := hidD (fun g h => by subst h; exact ⟨(row2.lt g rfl).2, (row2.lt g rfl).1⟩)
  have HA2 : Hid (0 < N → ∃ g, a2 = some ⟨g, 0, none⟩) := hidD (fun h => by
    obtain ⟨g, c, e⟩ := row_block row2 h
    cases e
    exact ⟨g, rfl⟩)
  have HB3 := hidD (Below.step b2 b3)
  have HB1 := hidD b1
  have HROW := hidD row3
  clear row2 row3 b1 b2 b3 f3
  obtain ⟨hc1, hc2⟩ := HCP.out a2 cap2 rfl
  go_wp2_with fail
  go_loopw [12] (fun i wr => ∃ (q : Nat) (ys : List Value), q ≤ N ∧ i = .int .i64 q ∧ wr.ownsRow w1.heap.size 3 1 (.slice a2 N cap2) N ys ∧ Below w1.heap.size w1 wr ∧ Hid (Seg .i64 wr (.slice a3 L.length cap3) L)) (fun i _ => N - (intOf i).toNat)
  case atStart => exact ⟨0, _, Nat.zero_le _, rfl, HROW.out, HB3.out, HL⟩
  case round =>
    clear HROW
    obtain ⟨q, ys, hq, rfl, hr, hbel, HSL⟩ := hrel
    by_cases hlt : q < N
    · obtain ⟨g, rfl⟩ := HA2.out (by omega)
      have hlg := HLT.out g rfl
      have hys : ys.length = N := by have := hr.1; omega
      obtain ⟨z, hc⟩ : ∃ z, wr.cell? ⟨g, q, none⟩ = some z := ⟨ys[q]'(by omega), by rw [hr.cellAt q (by omega), List.getElem?_eq_getElem (by omega)]⟩
      have hf := hr.frozenAt q
      have hst := hr.stored q (.int .i64 77)
      have HO2 := hidD hst.1
      have HSL2 := hidD (Seg.apart HSL.out hst.2 (fun x hx => by have := HF3.out x hx; omega))
      have HB2 := hidD (hbel.grown hst.2 hbel.size (fun j e => by cases e; exact hlg.2))
      have i1 : (q : Int) < (N : Int) := by omega
      clear hst hr hys hbel HSL
      go_wp2
      exact ⟨⟨q + 1, _, by omega, by go_num, HO2.out, HB2.out, HSL2⟩, by simp [intOf]; omega⟩
    · have c2 := HC2.out _ wr (HS1.out.below hbel)
      have HB4 := hidD (Below.step HB1.out hbel)
      clear hr hbel
      go_wp2_with fail
      with_reducible refine c2.mono ?_
      rintro e w5 ⟨v5, rfl, hs5, b5⟩
      have c3 := sameInts_any _ v5 L L w5 (HSL.out.below b5) hs5
      rw [decide_eq_true rfl] at c3
      have HB5 := hidD (Below.step HB4.out b5)
      clear c2 b5 hs5
      go_wp2_with (first | (go_at_call 19; refine (num_any _ _).mono ?_; rintro e w4 ⟨rfl, rfl⟩) | (go_at_call 18; refine c3.mono ?_; rintro e w6 ⟨rfl, b6⟩))
      go_ret
      exact ⟨by first | rfl | simp, Below.step HB5.out b6⟩

theorem walk {w : World} (v0 : Value) (l0 : List Int) (hs0 : Seg .i64 w v0 l0) (ho0 : ∀ z ∈ l0, -9223372036854775808 ≤ z ∧ z ≤ 9223372036854775807) (z0 : l0.length ≤ 17592186043904) (c : Int) (w1 : (Lit.int .i64 c).wf = true) (k : Int) (w2 : (Lit.int .i64 k).wf = true) (x : Int) (w3 : (Lit.int .u64 x).wf = true) :
    Calls Try.prog 8 #[v0, .int .i64 c, .int .i64 k, .int .u64 x] w fun e w' => e = .returned (.bool true) ∧ Below w.heap.size w w' := by
  have hx := bounds_u64 w3
  clear w1 w2 w3
  obtain ⟨s, rfl⟩ := Int.eq_ofNat_of_zero_le hx.1
  have hs : s < 18446744073709551616 := by omega
  exact walk_v v0 l0 c k s w (Sp.ofE l0 c k) (Sp.ofL l0 c k s) hs0 z0 (fun v w h => of_new v l0 c k s w h hs) (fun v w h => rof_any v l0 c k s w h hs)

set_option maxRecDepth 100000 in
theorem lifted (os : Os) (started : os.Started) (H : Type) (enc : TypeId × Value → H) :
    ReturnsInHanded {} Try.checked os 8 .any (Rows.subsetOwnSpec.pre6 enc Try.prog Try.f8 Rows.subsetOwnRow.domain false) (Rows.subsetOwnSpec.post enc Try.prog Try.f8 false true false false) := by
  refine returnsInHanded_of_change_sized (C := Try.checked) own started (by kernel_rfl) Try.func8
    (ChangeSpec.witness6 (enc := enc) (C := Try.checked) false ⟨#[], #[.slice none 0 0, .int .i64 0, .int .i64 0, .int .u64 0], []⟩ 8 (by kernel_rfl) (by kernel_rfl) (by kernel_rfl) (by kernel_rfl)) ?_
  intro W base args ds gs before hval0 hW hcnd hsz0 _
  have hval : ∀ (j : Nat) t v, Try.f8.params[j]? = some t → args[j]? = some v → Value.okWide Try.prog W .any base t v := hval0
  have hsz : (DataW.weightsEach Try.prog (Try.f8.params.toList ++ Rows.subsetOwnSpec.plain.varTypes Try.prog) (ds ++ gs)).all (· ≤ reachBytes) = true := hsz0
  have hW' := hW
  obtain ⟨p, q, hA0, hV, rfl, hfz, hnd⟩ := hW
  have hA : DataW.TrodAll enc Try.prog W 0 (fun _ => true) true Try.f8.params.toList args.toList ds p := hA0
  rw [Try.params8] at hA hval hsz
  obtain ⟨v0, vs0, d0, ds0, p0, q0, hargs, rfl, rfl, h0, r0⟩ := trodAll_cons hA
  obtain ⟨v1, vs1, d1, ds1, p1, q1, rfl, rfl, rfl, h1, r1⟩ := trodAll_cons r0
  obtain ⟨v2, vs2, d2, ds2, p2, q2, rfl, rfl, rfl, h2, r2⟩ := trodAll_cons r1
  obtain ⟨v3, vs3, d3, ds3, p3, q3, rfl, rfl, rfl, h3, r3⟩ := trodAll_cons r2
  obtain ⟨rfl, rfl, rfl⟩ := trodAll_nil r3
  obtain rfl : args = #[v0, v1, v2, v3] := by cases args; simp_all
  obtain ⟨rfl, rfl⟩ := trodVars_none hV
  have k0 := h0
  have lt0 : ∀ x ∈ p0, x.block < W.heap.size := by obtain ⟨m, hm⟩ := k0; exact DataW.trod_lt m _ _ _ hm
  obtain ⟨l0, hs0, ho0, e0⟩ := open_numbers (hval 0 22 v0 rfl rfl) h0
  have z0 : l0.length ≤ 17592186043904 := by
    rcases e0 with ⟨_, rfl⟩ | ⟨elems, spare, rfl, hl⟩
    · simp
    · have := sized_slice hsz (j := 0) (t := 22) (e := 3) rfl rfl Try.underlying22
      rw [Try.bytesI] at this
      simp only [reachBytes] at this
      omega
  obtain ⟨a1, rfl, rfl, rfl, w1⟩ := open_int Try.underlying3 (hval 1 3 v1 rfl rfl) h1
  obtain ⟨a2, rfl, rfl, rfl, w2⟩ := open_int Try.underlying3 (hval 2 3 v2 rfl rfl) h2
  obtain ⟨a3, rfl, rfl, rfl, w3⟩ := open_int Try.underlying23 (hval 3 23 v3 rfl rfl) h3
  clear hA0 hval0
  refine (walk v0 l0 hs0 ho0 z0 a1 w1 a2 w2 a3 w3).mono fun e W' ⟨he, bel⟩ => ?_
  subst he
  exact ⟨_, rfl, _, _, _, [], _, [], hW', trodAll_mk1 (shut_bool Try.underlying4 _), (trodAll_cons_mk (Below.trod laidOut (by kernel_rfl) (of_decide_eq_true (by kernel_rfl)) k0 bel lt0) (trodAll_cons_mk (shut_int Try.underlying3 w1) (trodAll_cons_mk (shut_int Try.underlying3 w2) (trodAll_cons_mk (shut_int Try.underlying23 w3) trodAll_mk0)))), rfl, bel.frame _, fun h => by cases h⟩

theorem over : Rows.subsetOwnRow.holds Try.pinned (OpenSpec.ofChange Rows.subsetOwnSpec) :=
  OpenClaim.holds_of_wide 8 Try.f8 rfl rfl rfl rfl rfl rfl rfl ⟨rfl, rfl, rfl, rfl, rfl⟩ rfl rfl rfl rfl rfl (by kernel_rfl) Try.func8 (by kernel_rfl)
    (of_decide_eq_true (by kernel_rfl)) (by unfold Func.isWrapper; first | (rw [if_pos (by decide +kernel)]; kernel_rfl) | (rw [if_neg (by decide +kernel)]; exact ⟨rfl, rfl⟩))
    (fun os started H enc _ => lifted os started H enc)
end Go.Proofs.Ytdgdhhbapgfjgaa.subsetOwn

namespace Go.Proofs.Ytdgdhhbapgfjgaa
/-- THE STATEMENT. -/
theorem subsetOwn_holds : Rows.SubsetOwnSaid := subsetOwn.over
#print axioms subsetOwn_holds
end Go.Proofs.Ytdgdhhbapgfjgaa
