/- Whatever settings and acts are handed in: BreakerGood returns true, and they read as they did. -/
import Derived.Test.YtkfkhhhoboenkaaRows
import Derived.BigQuiet
import Derived.Deep.QuietTactic
import Derived.WalkKit
import Derived.ProofKit
import Derived.OpenShut
import Derived.ShutString
import Derived.Test.YtkfkhhhoboenkaaCD
import Derived.Test.YtkfkhhhoboenkaaOpenK
namespace Go.Proofs.Ytkfkhhhoboenkaa.breakerGood
open Go.ChangeShapes Go.WideShapes Go.ChangeAt Go.RowKit
open Go.ChangeMaps (open_string shut_string)
set_option linter.unusedVariables false
set_option maxRecDepth 20000

theorem own_cgD {B D : Nat} {e : TypeId} {z : Nat} {w w' : World} {v : Value} {k : Nat} {xs : List Value} (h : w.ownsRow B e z v k xs) (hc : Cg D w w') (hD : v.ownBlock ≠ some D) : w'.ownsRow B e z v k xs := by
  refine h.kept (row := some D) ⟨hc.os, hc.tape, hc.output, hc.size, fun b hb hne => hc.block b hb (fun e => hne (by rw [e]))⟩ ?_
  cases hv : v.ownBlock with
  | none => exact .inl rfl
  | some b => exact .inr (fun e => hD (by rw [hv, e]))
set_option maxHeartbeats 1000000 in
theorem walk (s : Br.Se) (v : Value) (l : List Br.Ac) {w : World} (hv : ASeg w v l) (ho : ∀ t ∈ l, (Lit.int .i64 t.k).wf = true ∧ (Lit.int .i64 t.t).wf = true) :
    Calls Try.prog 8 #[vS s, v] w fun e w' => e = .returned (.bool true) ∧ Below w.heap.size w w' := by
  obtain ⟨i0, hi, hz0, hz1, hz2⟩ := info_parts Try.infoA
  have ca := fun W => balive_any W
  have HV := hidD hv
  obtain ⟨av, cv, rfl, _, q2, _, _⟩ := hv
  unfold maxLen at q2
  have X0 := Bo.new w [.int .i64 s.f, .int .i64 s.o, .int .i64 s.p] 25
  have HB0 : Below w.heap.size w (w.alloc (.cells #[.int .i64 s.f, .int .i64 s.o, .int .i64 s.p] 25)) := (Below.refl _ _).alloc (Nat.le_refl _) _
  have hs0 : w.heap.size + 1 ≤ (w.alloc (.cells #[.int .i64 s.f, .int .i64 s.o, .int .i64 s.p] 25)).heap.size := by simp
  obtain ⟨W0, hW0⟩ : ∃ W0, W0 = w.alloc (.cells #[.int .i64 s.f, .int .i64 s.o, .int .i64 s.p] 25) := ⟨_, rfl⟩
  obtain ⟨N, hN⟩ : ∃ N, N = w.heap.size := ⟨_, rfl⟩
  rw [← hW0] at X0 HB0 hs0
  have HVS : Hid (∀ W, Below N w W → ASeg W (.slice av l.length cv) l) := hidD (fun W h => HV.out.below (hN ▸ h))
  rw [← hN] at X0 HB0 hs0 ⊢
  obtain ⟨n, hn⟩ : ∃ n, n = l.length := ⟨_, rfl⟩
  rw [← hn] at HVS ⊢
  have HN := hidD hn
  clear hn HV ho
  have c := ca W0
  go_enter Try.func8, Try.ntmps8
  go_wp2_with fail
  rw [← hN, ← hW0]
  clear hN hW0
  with_reducible refine c.mono ?_
  rintro e ww ⟨rfl, h⟩
  clear c ca
  have XS := hidD (X0.below h)
  have HB := hidD (below_on HB0 (by omega) h)
  have hs := Nat.le_trans hs0 h.size
  clear X0 HB0 hs0 h W0
  go_wp2_with fail
  go_loopw [5, 6] (fun ov i wr => ∃ k : Nat, k ≤ n ∧ k ≤ 200 ∧ i = .int .i64 k ∧ Hid (wr.ownsRow (N + 1) 55 4 ov k (rowA (Br.gds l k))) ∧ Hid (Bo wr N [.int .i64 s.f, .int .i64 s.o, .int .i64 s.p] 25) ∧ Hid (Below N w wr) ∧ N + 1 ≤ wr.heap.size) (fun _ i _ => n - (intOf i).toNat)
  case atStart => exact ⟨0, Nat.zero_le _, Nat.zero_le _, rfl, hidD (World.ownsRow_nil _ _ _ _), XS, HB, hs⟩
  case round =>
    clear XS HB hs
    obtain ⟨k, hk, hk2, rfl, OW, XS, HB, hs⟩ := hrel
    obtain ⟨oa, oc, rfl⟩ := own_sl OW.out
    by_cases hlt : k < n ∧ k < 200
    · obtain ⟨hlt1, hlt2⟩ := hlt
      obtain ⟨g0, off, cap', e1, hg, hcell⟩ := aseg_at (by have := HN.out; omega) (HVS.out wr HB.out)
      rw [← HN.out] at e1
      cases e1
      obtain ⟨Q1, Q2, Q3, Q4⟩ := hcell k (by have := HN.out; omega)
      have HGS := hidD (Br.gds_succ l k)
      have HGD : Hid (Br.gd l k = ⟨Br.three (l.getD k Br.ac0).k, k, false, true⟩) := hidD rfl
      have i1 : (k : Int) < (n : Int) := by omega
      have i2 : (k : Int) < 200 := by omega
      clear hcell
      generalize l.getD k Br.ac0 = a at *
      obtain ⟨tw1, tw2⟩ := Br.three_wraps a.k
      generalize Br.three a.k = th at *
      have HOB : Hid (∀ j, (Value.slice oa k oc).ownBlock = some j → N + 1 ≤ j ∧ j < wr.heap.size) := hidD (fun j hj => OW.out.lt j hj)
      replace OW := hidD (OW.out.alloc (.cells #[.int .i64 a.k, .int .i64 a.t, .bool a.p, .bool a.g] 55))
      replace XS := hidD (XS.out.alloc (.cells #[.int .i64 a.k, .int .i64 a.t, .bool a.p, .bool a.g] 55))
      replace HB := hidD (HB.out.alloc (by omega) (.cells #[.int .i64 a.k, .int .i64 a.t, .bool a.p, .bool a.g] 55))
      have XA := hidD (Bo.new wr [.int .i64 a.k, .int .i64 a.t, .bool a.p, .bool a.g] 55)
      have hsA : (wr.alloc (.cells #[.int .i64 a.k, .int .i64 a.t, .bool a.p, .bool a.g] 55)).heap.size = wr.heap.size + 1 := by simp
      go_upto_region 8 with fail
      generalize wr.alloc (.cells #[.int .i64 a.k, .int .i64 a.t, .bool a.p, .bool a.g] 55) = W1 at *
      generalize wr.heap.size = D at *
      clear Q1 Q2 Q3 Q4 hg
      have CC := (((Cg.set W1 0 (.int .i64 th) (b := D)).trans (Cg.set _ 1 (.int .i64 (k : Int)))).trans (Cg.set _ 2 (.bool false))).trans (Cg.set _ 3 (.bool true))
      have XA3 := hidD ((((XA.out.set 0 (.int .i64 th)).set 1 (.int .i64 (k : Int))).set 2 (.bool false)).set 3 (.bool true))
      have OW3 := hidD (own_cgD OW.out CC (fun e => by have := (HOB.out D e).2; omega))
      have XS3 := hidD (CC.bo (show N ≠ D by omega) XS.out)
      have HB3 := hidD (CC.below (B := N) (by omega) (by omega) HB.out)
      have hs3 := CC.size
      have HNN : Hid (some N ≠ (Value.slice oa k oc).ownBlock) := hidD (fun e => by have := (HOB.out N e.symm).1; omega)
      have x0 := XA.out.cell 0 rfl
      have x1 := XA.out.cell 1 rfl
      have x2 := XA.out.cell 2 rfl
      have x3 := XA.out.cell 3 rfl
      have f0 := XA.out.frozen 0
      have f1 := XA.out.frozen 1
      have f2 := XA.out.frozen 2
      have f3 := XA.out.frozen 3
      clear XA CC OW XS HB
      go_upto_region 9 with fail
      obtain ⟨W3, hW3⟩ : ∃ W3, W3 = ((((W1.setCell ⟨D, 0, none⟩ (.int .i64 th)).setCell ⟨D, 1, none⟩ (.int .i64 (k : Int))).setCell ⟨D, 2, none⟩ (.bool false)).setCell ⟨D, 3, none⟩ (.bool true)) := ⟨_, rfl⟩
      rw [← hW3] at XA3 OW3 XS3 HB3 hs3 ⊢
      clear hW3 x0 x1 x2 x3 f0 f1 f2 f3
      have x0 := XA3.out.cell 0 rfl
      have x1 := XA3.out.cell 1 rfl
      have x2 := XA3.out.cell 2 rfl
      have x3 := XA3.out.cell 3 rfl
      go_wp2_with (at_builtin; refine wpList_append_own _ rfl _ _ 46 rfl (N + 1) 55 i0 _ 4 24 Try.underlying46 hi hz0 hz1 hz2 rfl (by decide) _ _ _ rfl (OW3.out.alloc _) ⟨W3.heap.size, 0, none⟩ 1 1 [.int .i64 th, .int .i64 (k : Int), .bool false, .bool true] rfl rfl (World.news_of_block (heap_alloc_new W3 _)) (by simp [Value.oneCell']) (by unfold maxLen; omega) (by omega) (by simp; omega) ?_; intro v6 w6 hown6 hgr6 _)
      have S6 := hidD ((hgr6.block N (by simp; omega) HNN.out).trans (XS3.out.alloc _))
      have H6 := hidD ((HB3.out.alloc (by omega) (.cells #[.int .i64 th, .int .i64 (k : Int), .bool false, .bool true] 55)).grown hgr6 (by simp; omega) (fun j hj => by have := (HOB.out j hj).1; omega))
      have O6 := hidD hown6
      have z6 := hgr6.size
      have hs6 : N + 1 ≤ w6.heap.size := by simp at z6; omega
      clear hown6 hgr6 z6
      go_wp2
      exact ⟨⟨k + 1, by omega, by omega, by go_num, by rw [HGS.out, rowA_append, HGD.out]; exact O6, S6, H6, hs6⟩, by simp [intOf]; omega⟩
    have hrun := Br.gds_runE s l k hk2
    have c0 := fun W (hW : ASeg W (.slice oa k oc) (Br.gds l k)) => run_any s (.slice oa k oc) (Br.gds l k) W hW
    have hst := Br.gds_st s l k k (Nat.le_refl _)
    have htl := Br.gds_told s l k
    have hgl := Br.gds_length l k
    have hend : Br.endR2 s (Br.gds l k) = Br.zero := by
      unfold Br.endR2
      rw [hgl, hst]
      split <;> rfl
    have htd : Br.toldR s (Br.gds l k) = if Br.sets s = true then List.replicate k 0 else [] := by
      unfold Br.toldR
      rw [hgl, htl, hrun]
      cases Br.sets s <;> simp
    rw [hrun, hend, htd] at c0
    have hown := OW.out
    have c := c0 wr (aseg_of_rowA (by rw [hgl]; exact hown))
    unfold Br.zero at c
    generalize Br.sets s = sb at *
    have HNL : Hid (¬ (k < n ∧ k < 200)) := hidD hlt
    clear hrun hst htl hgl hend htd c0 hown hlt
    have s0 := XS.out.cell 0 rfl
    have s1 := XS.out.cell 1 rfl
    have s2 := XS.out.cell 2 rfl
    have VB := hidD HB.out
    clear OW XS HB
    have hsplit : ¬ (k : Int) < (n : Int) ∨ ((k : Int) < (n : Int) ∧ ¬ (k : Int) < 200) := by have := HNL.out; omega
    cases sb
    case false =>
      rw [if_neg (by decide), if_neg (by decide)] at c
      have Hc := hidD c
      clear c
      rcases hsplit with h1 | ⟨h1, h2⟩
      all_goals
        go_wp2_with fail
        with_reducible refine Hc.out.mono ?_
        rintro e w5 ⟨v5, rfl, o5, h5⟩
        have B5 := hidD (below_on VB.out (by omega) h5)
        have hs5 := h5.size
        obtain ⟨a5, c5, rfl⟩ := own_sl o5
        have B6 := hidD (B5.out.alloc (by omega) (.cells #[.int .i64 0, .int .i64 0, .int .i64 0, .int .i64 0, .int .i64 0] 23))
        clear h5 o5
        go_wp2_with (go_at_call 17; refine (num_any _ _).mono ?_; rintro e w4 ⟨rfl, rfl⟩)
        go_ret
        exact ⟨by first | rfl | simp, B6.out⟩
    case true =>
      rw [if_pos rfl, if_pos rfl] at c
      have Hc := hidD c
      clear c
      rcases hsplit with h1 | ⟨h1, h2⟩
      all_goals
        go_wp2_with fail
        with_reducible refine Hc.out.mono ?_
        rintro e w5 ⟨v5, rfl, o5, h5⟩
        have B5 := hidD (below_on VB.out (by omega) h5)
        have hs5 := h5.size
        obtain ⟨a5, c5, rfl⟩ := own_sl o5
        rw [List.length_replicate] at o5
        have B6 := hidD (B5.out.alloc (by omega) (.cells #[.int .i64 0, .int .i64 0, .int .i64 0, .int .i64 0, .int .i64 0] 23))
        have O6 := hidD (o5.alloc (.cells #[.int .i64 0, .int .i64 0, .int .i64 0, .int .i64 0, .int .i64 0] 23))
        have YB := hidD (Bo.new w5 [.int .i64 0, .int .i64 0, .int .i64 0, .int .i64 0, .int .i64 0] 23)
        have hRL := List.length_replicate (n := k) (a := (0 : Int))
        clear h5 o5 s0 s1 s2
        go_upto_region 13 with (go_at_call 17; refine (num_any _ _).mono ?_; rintro e w4 ⟨rfl, rfl⟩)
        try rw [hRL]
        generalize w5.alloc (.cells #[.int .i64 0, .int .i64 0, .int .i64 0, .int .i64 0, .int .i64 0] 23) = W6 at *
        generalize w5.heap.size = D6 at *
        have y0 := YB.out.cell 0 rfl
        have y1 := YB.out.cell 1 rfl
        have y2 := YB.out.cell 2 rfl
        have y3 := YB.out.cell 3 rfl
        have y4 := YB.out.cell 4 rfl
        clear hRL hs5
        go_wp2_with fail
        go_loopw [11] (fun i wr => ∃ j : Nat, j ≤ k ∧ i = .int .i64 j ∧ W6 = wr) (fun i _ => k - (intOf i).toNat)
        case atStart => exact ⟨0, Nat.zero_le _, rfl, rfl⟩
        case round =>
          obtain ⟨j, hj, rfl, rfl⟩ := hrel
          by_cases hjk : j < k
          · obtain ⟨gg, rfl⟩ : ∃ gg, a5 = some ⟨gg, 0, none⟩ := by
              rcases O6.out.2 with ⟨e, h0⟩ | ⟨gg, cc, cur, e, _⟩
              · omega
              · cases e; exact ⟨gg, rfl⟩
            have hc6 : W6.cell? ⟨gg, j, none⟩ = some (.int .i64 0) := by
              rw [O6.out.cellAt j (by omega)]
              simp [hjk]
            go_wp2
            exact ⟨⟨j + 1, by omega, by go_num, (by first | rfl | trivial)⟩, by simp [intOf]; omega⟩
          · go_wp2
            go_ret
            exact ⟨by first | rfl | simp, B6.out⟩

set_option maxRecDepth 100000 in
theorem lifted (os : Os) (started : os.Started) (H : Type) (enc : TypeId × Value → H) :
    ReturnsInHanded {} Try.checked os 8 .any (Rows.breakerGoodSpec.pre6 enc Try.prog Try.f8 Rows.breakerGoodRow.domain false) (Rows.breakerGoodSpec.post enc Try.prog Try.f8 false true false false) := by
  refine returnsInHanded_of_change (C := Try.checked) own started (by kernel_rfl) Try.func8
    (ChangeSpec.witness6 (enc := enc) (C := Try.checked) false ⟨#[], #[.agg #[.int .i64 0, .int .i64 0, .int .i64 0], .slice none 0 0], []⟩ 8 (by kernel_rfl) (by kernel_rfl) (by kernel_rfl) (by kernel_rfl)) ?_
  intro W base args ds gs before hval0 hW hcnd _
  have hval : ∀ (j : Nat) t v, Try.f8.params[j]? = some t → args[j]? = some v → Value.okWide Try.prog W .any base t v := hval0
  have hW' := hW
  obtain ⟨p, q, hA0, hV, rfl, hfz, hnd⟩ := hW
  have hA : DataW.TrodAll enc Try.prog W 0 (fun _ => true) true Try.f8.params.toList args.toList ds p := hA0
  rw [Try.params8] at hA hval
  obtain ⟨v0, vs0, d0, ds0, p0, q0, hargs, rfl, rfl, h0, r0⟩ := trodAll_cons hA
  obtain ⟨v1, vs1, d1, ds1, p1, q1, rfl, rfl, rfl, h1, r1⟩ := trodAll_cons r0
  obtain ⟨rfl, rfl, rfl⟩ := trodAll_nil r1
  obtain rfl : args = #[v0, v1] := by cases args; simp_all
  obtain ⟨rfl, rfl⟩ := trodVars_none hV
  have k0 := h0
  have lt0 : ∀ x ∈ p0, x.block < W.heap.size := by obtain ⟨m, hm⟩ := k0; exact DataW.trod_lt m _ _ _ hm
  obtain ⟨x0, hv0⟩ := open_set (hval 0 25 v0 rfl rfl) h0
  subst hv0
  have k1 := h1
  have lt1 : ∀ x ∈ p1, x.block < W.heap.size := by obtain ⟨m, hm⟩ := k1; exact DataW.trod_lt m _ _ _ hm
  obtain ⟨l1, hs1, ho1, e1⟩ := open_acts (hval 1 46 v1 rfl rfl) h1
  clear hA0 hval0
  refine (walk x0 v1 l1 hs1 ho1).mono fun e W' ⟨he, bel⟩ => ?_
  subst he
  exact ⟨_, rfl, _, _, _, [], _, [], hW', trodAll_mk1 (shut_bool Try.underlying4 _), (trodAll_cons_mk (Below.trod laidOut (by kernel_rfl) (of_decide_eq_true (by kernel_rfl)) k0 bel lt0) (trodAll_cons_mk (Below.trod laidOut (by kernel_rfl) (of_decide_eq_true (by kernel_rfl)) k1 bel lt1) trodAll_mk0)), rfl, bel.frame _, fun h => by cases h⟩

theorem over : Rows.breakerGoodRow.holds Try.pinned (OpenSpec.ofChange Rows.breakerGoodSpec) :=
  OpenClaim.holds_of_wide 8 Try.f8 rfl rfl rfl rfl rfl rfl rfl ⟨rfl, rfl, rfl, rfl, rfl⟩ rfl rfl rfl rfl rfl (by kernel_rfl) Try.func8 (by kernel_rfl)
    (of_decide_eq_true (by kernel_rfl)) (by unfold Func.isWrapper; first | (rw [if_pos (by decide +kernel)]; kernel_rfl) | (rw [if_neg (by decide +kernel)]; exact ⟨rfl, rfl⟩))
    (fun os started H enc _ => lifted os started H enc)
end Go.Proofs.Ytkfkhhhoboenkaa.breakerGood

namespace Go.Proofs.Ytkfkhhhoboenkaa
/-- THE STATEMENT. -/
theorem breakerGood_holds : Rows.BreakerGoodSaid := breakerGood.over
#print axioms breakerGood_holds
end Go.Proofs.Ytkfkhhhoboenkaa
