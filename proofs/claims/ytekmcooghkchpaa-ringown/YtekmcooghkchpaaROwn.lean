/- For all ints points and all backends: two rings of the same backends share nothing (the law RingOwn answers true), and the arguments stay: without a bound. -/
import Derived.Test.YtekmcooghkchpaaRows
import Derived.BigQuiet
import Derived.Deep.QuietTactic
import Derived.WalkKit
import Derived.ProofKit
import Derived.OpenShut
import Derived.ShutString
import Derived.Test.YtekmcooghkchpaaRN
import Derived.Test.YtekmcooghkchpaaOpenP
namespace Go.Proofs.Ytekmcooghkchpaa.ringOwn
open Go.ChangeShapes Go.WideShapes Go.ChangeAt Go.RowKit
open Go.ChangeMaps (open_string shut_string)
open Go.Sort Go.Shelf
set_option linter.unusedVariables false
set_option maxRecDepth 20000

set_option maxHeartbeats 4000000 in
theorem walk_v (pn : Int) (v : Value) (l r : List Rp.Pt) (E : Int) (w : World) (hv : PSeg .i64 w v l) (hlen : r.length ≤ 1024)
    (CB : ∀ w' : World, PSeg .i64 w' v l → Calls Try.prog 10 #[.int .i64 pn, v] w' fun e w'' => ∃ v', e = .returned (.tuple #[v', .int .i64 E]) ∧ w''.ownsRow w'.heap.size 52 2 v' r.length (rowP r) ∧ Below w'.heap.size w' w'')
    (CR : ∀ w' : World, PSeg .i64 w' v l → Calls Try.prog 11 #[.int .i64 pn, v] w' fun e w'' => ∃ v', e = .returned (.tuple #[v', .int .i64 E]) ∧ PSeg .u64 w'' v' r ∧ Below w'.heap.size w' w'') :
    Calls Try.prog 8 #[.int .i64 pn, v] w fun e w' => e = .returned (.bool true) ∧ Below w.heap.size w w' := by
  have HV := hidD hv
  have c0 := alive_any w
  obtain ⟨la, lcap, hveq, -⟩ := id hv
  obtain ⟨N, hN⟩ : ∃ N, N = l.length := ⟨_, rfl⟩
  rw [← hN] at hveq
  subst hveq
  clear hN hv
  go_enter Try.func8, Try.ntmps8
  go_wp2_with fail
  with_reducible refine c0.mono ?_
  rintro e w1 ⟨rfl, b1⟩
  have c1 := CB w1 (HV.out.below b1)
  clear c0
  go_wp2_with fail
  with_reducible refine c1.mono ?_
  rintro e w2 ⟨v1, rfl, o1, b2⟩
  have b12 := Below.step b1 b2
  have c2 := CB w2 (HV.out.below b12)
  clear c1 CB
  go_wp2_with fail
  with_reducible refine c2.mono ?_
  rintro e w3 ⟨v2, rfl, o2, b3⟩
  clear c2
  have b13 := Below.step b12 b3
  have o1' := own_below o1 b3
  obtain ⟨M, hM⟩ : ∃ M, M = r.length := ⟨_, rfl⟩
  have HM := hidD hM
  rw [← hM] at o1 o1' o2 hlen
  have hb1s := b1.size
  have hb3s := b3.size
  have ha : ∀ k, v1.ownBlock = some k → w.heap.size ≤ k ∧ k < w2.heap.size := fun k e => ⟨by have := (o1.lt k e).1; omega, (o1.lt k e).2⟩
  have hb : ∀ k, v2.ownBlock = some k → w2.heap.size ≤ k := fun k e => (o2.lt k e).1
  obtain ⟨aa, acap, rfl⟩ : ∃ aa acap, v1 = .slice aa M acap := by
    rcases o1.2 with ⟨rfl, h0⟩ | ⟨gg, cc, cur, rfl, _⟩
    · exact ⟨none, 0, by rw [h0]⟩
    · exact ⟨_, _, rfl⟩
  obtain ⟨ba, bcap, rfl⟩ : ∃ ba bcap, v2 = .slice ba M bcap := by
    rcases o2.2 with ⟨rfl, h0⟩ | ⟨gg, cc, cur, rfl, _⟩
    · exact ⟨none, 0, by rw [h0]⟩
    · exact ⟨_, _, rfl⟩
  have HO2 := hidD o2
  have HA := hidD ha
  have HB := hidD hb
  have HB13 := hidD b13
  have HRL : Hid ((rowP r).length = M * 2) := hidD (by rw [rowP_length, hM])
  clear hM o1 o2 ha hb b13 b12 b1 b2 b3
  go_wp2_with fail
  go_loopw [9] (fun i wr => ∃ k : Nat, k ≤ M ∧ i = .int .i64 k ∧ (∃ L : List Rp.Pt, L.length = M ∧ wr.ownsRow w1.heap.size 52 2 (.slice aa M acap) M (rowP L)) ∧ w3.grownBy wr (Value.slice aa M acap).ownBlock) (fun i _ => M - (intOf i).toNat)
  case atStart => exact ⟨0, Nat.zero_le _, rfl, ⟨r, HM.out.symm, o1'⟩, ⟨rfl, rfl, rfl, Nat.le_refl _, fun _ _ _ => rfl⟩⟩
  case round =>
    clear o1'
    obtain ⟨k, hk, rfl, ⟨L, hL, hrw⟩, hgr⟩ := hrel
    by_cases hlt : k < M
    · obtain ⟨gg, rfl⟩ : ∃ gg, aa = some ⟨gg, 0, none⟩ := by
        rcases hrw.2 with ⟨e, h0⟩ | ⟨gg, cc, cur, e, _⟩
        · omega
        · cases e; exact ⟨gg, rfl⟩
      obtain ⟨R3, R4⟩ := rowP_get L k (by omega)
      have C3 : wr.cell? ⟨gg, k * 2, none⟩ = some (.int .u64 (L.getD k (0, 0)).1) := by rw [hrw.cellAt (k * 2) (by omega)]; exact R3
      have C4 : wr.cell? ⟨gg, k * 2 + 1, none⟩ = some (.int .i64 (L.getD k (0, 0)).2) := by rw [hrw.cellAt (k * 2 + 1) (by omega)]; exact R4
      have F3 := hrw.frozenAt (k * 2)
      have F4 := hrw.frozenAt (k * 2 + 1)
      have st1 := hrw.stored (k * 2) (.int .u64 0)
      have st2 := st1.1.stored (k * 2 + 1) (.int .i64 0)
      have hr2 := st2.1
      rw [← rowP_set L k (0, 0) (by omega)] at hr2
      have hgr2 := grown_trans hgr (set2_grown wr gg (k * 2) (k * 2 + 1) (.int .u64 0) (.int .i64 0))
      have HR2 := hidD hr2
      have HG2 := hidD hgr2
      have HLL : Hid ((L.set k (0, 0)).length = M) := hidD (by rw [List.length_set]; exact hL)
      have i1 : (k : Int) < (M : Int) := by omega
      clear R3 R4 st1 st2 hr2 hgr2 hgr hrw
      generalize L.set k (0, 0) = L2 at *
      generalize L.getD k (0, 0) = z at *
      go_wp2
      exact ⟨⟨k + 1, by omega, by go_num, ⟨L2, HLL.out, HR2.out⟩, HG2.out⟩, by simp [intOf]; omega⟩
    · have hbw : Below w.heap.size w wr := HB13.out.grown hgr HB13.out.size (fun k e => (HA.out k e).1)
      have ob := HO2.out.kept hgr (by
        cases hv2 : (Value.slice ba M bcap).ownBlock with
        | none => exact .inl rfl
        | some k2 =>
          refine .inr fun e => ?_
          have h1 := HB.out k2 hv2
          have h2 := (HA.out k2 e.symm).2
          omega)
      rw [HM.out] at ob
      have cr := CR wr (HV.out.below hbw)
      have HBW := hidD hbw
      have HOB := hidD (pseg_of_row ob)
      clear CR ob hgr hrw hbw
      go_wp2_with fail
      with_reducible refine cr.mono ?_
      rintro e w4 ⟨v4, rfl, p4, b4⟩
      have hpb := HOB.out.below b4
      rw [← HM.out] at hpb
      have cs := samePts _ v4 r w4 hpb p4
      have HB4 := hidD (Below.step HBW.out b4)
      obtain ⟨ca, ccap, rfl, -⟩ := id p4
      clear cr p4 hpb b4
      go_wp2_with (first | (go_at_call 19; refine (num_any _ _).mono ?_; rintro e w5 ⟨rfl, rfl⟩) | (go_at_call 18; with_reducible refine cs.mono ?_; rintro e w6 ⟨rfl, b6⟩))
      go_ret
      exact ⟨by first | rfl | simp, Below.step HB4.out b6⟩

theorem walk (pn : Int) (w0 : (Lit.int .i64 pn).wf = true) (v : Value) (l : List Rp.Pt) {w : World} (hv : PSeg .i64 w v l) (ho : ∀ t ∈ l, (Lit.int .i64 t.2).wf = true) :
    Calls Try.prog 8 #[.int .i64 pn, v] w fun e w' => e = .returned (.bool true) ∧ Below w.heap.size w w' := by
  refine walk_v pn v l (Rp.ring pn l) (Rp.buildE pn l) w hv ?_ (fun w' hv' => ?_) (fun w' hv' => rbuild_any pn v l w' hv')
  · by_cases h : Rp.buildE pn l = 0
    · rw [Rp.ring_length h]; exact (Rp.build_ok h).2.2.2
    · rw [show Rp.ring pn l = [] from if_neg h]; simp
  · refine (build_any pn v l w' hv').mono ?_
    rintro e w2 ⟨v', rfl, _, h1, h2⟩
    exact ⟨v', rfl, h1, h2⟩

set_option maxRecDepth 100000 in
theorem lifted (os : Os) (started : os.Started) (H : Type) (enc : TypeId × Value → H) :
    ReturnsInHanded {} Try.checked os 8 .any (Rows.ringOwnSpec.pre6 enc Try.prog Try.f8 Rows.ringOwnRow.domain false) (Rows.ringOwnSpec.post enc Try.prog Try.f8 false true false false) := by
  refine returnsInHanded_of_change (C := Try.checked) own started (by kernel_rfl) Try.func8
    (ChangeSpec.witness6 (enc := enc) (C := Try.checked) false ⟨#[], #[.int .i64 0, .slice none 0 0], []⟩ 8 (by kernel_rfl) (by kernel_rfl) (by kernel_rfl) (by kernel_rfl)) ?_
  intro W base args ds gs before hval0 hW hcnd _
  have hval : ∀ (j : Nat) t v, Try.f8.params[j]? = some t → args[j]? = some v → Value.okWide Try.prog W .any base t v := hval0
  have hW' := hW
  obtain ⟨p, q, hA0, hV, rfl, hfz, hnd⟩ := hW
  have hA : DataW.TrodAll enc Try.prog W 0 (fun _ => true) true Try.f8.params.toList args.toList ds p := hA0
  rw [Try.params8] at hA hval
  obtain ⟨v0, vs0, d0, ds0, p0, q0, hargs, rfl, rfl, h0, r0⟩ := trodAll_cons hA
  obtain ⟨v1, vs1, d1, ds1, p1, q1, rfl, rfl, rfl, h1, r1⟩ := trodAll_cons r0
  obtain ⟨rfl, rfl, rfl⟩ := trodAll_nil r1
  obtain rfl : args = #[v0, v1] := by cases args; simp_all
  obtain ⟨rfl, rfl⟩ := trodVars_none hV
  obtain ⟨a0, rfl, rfl, rfl, w0⟩ := open_int Try.underlying3 (hval 0 3 v0 rfl rfl) h0
  have k1 := h1
  have lt1 : ∀ x ∈ p1, x.block < W.heap.size := by obtain ⟨m, hm⟩ := k1; exact DataW.trod_lt m _ _ _ hm
  obtain ⟨l1, hs1, ho1, _⟩ := open_backs (hval 1 22 v1 rfl rfl) h1
  clear hA0 hval0
  refine (walk a0 w0 v1 l1 hs1 ho1).mono fun e W' ⟨he, bel⟩ => ?_
  subst he
  exact ⟨_, rfl, _, _, _, [], _, [], hW', trodAll_mk1 (shut_bool Try.underlying4 _), (trodAll_cons_mk (shut_int Try.underlying3 w0) (trodAll_cons_mk (Below.trod laidOut (by kernel_rfl) (of_decide_eq_true (by kernel_rfl)) k1 bel lt1) trodAll_mk0)), rfl, bel.frame _, fun h => by cases h⟩

theorem over : Rows.ringOwnRow.holds Try.pinned (OpenSpec.ofChange Rows.ringOwnSpec) :=
  OpenClaim.holds_of_wide 8 Try.f8 rfl rfl rfl rfl rfl rfl rfl ⟨rfl, rfl, rfl, rfl, rfl⟩ rfl rfl rfl rfl rfl (by kernel_rfl) Try.func8 (by kernel_rfl)
    (of_decide_eq_true (by kernel_rfl)) (by unfold Func.isWrapper; first | (rw [if_pos (by decide +kernel)]; kernel_rfl) | (rw [if_neg (by decide +kernel)]; exact ⟨rfl, rfl⟩))
    (fun os started H enc _ => lifted os started H enc)
end Go.Proofs.Ytekmcooghkchpaa.ringOwn

namespace Go.Proofs.Ytekmcooghkchpaa
/-- THE STATEMENT. -/
theorem ringOwn_holds : Rows.RingOwnSaid := ringOwn.over
#print axioms ringOwn_holds
end Go.Proofs.Ytekmcooghkchpaa
