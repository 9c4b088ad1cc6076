/- Whatever settings and acts are handed in: BreakerProbes returns true, and they read as they did. -/
import Derived.Test.YtkfkhhhoboenkaaRows
import Derived.BigQuiet
import Derived.Deep.QuietTactic
import Derived.WalkKit
import Derived.ProofKit
import Derived.OpenShut
import Derived.ShutString
import Derived.Test.YtkfkhhhoboenkaaCE
import Derived.Test.YtkfkhhhoboenkaaOpenK
namespace Go.Proofs.Ytkfkhhhoboenkaa.breakerProbes
open Go.ChangeShapes Go.WideShapes Go.ChangeAt Go.RowKit
open Go.ChangeMaps (open_string shut_string)
set_option linter.unusedVariables false
set_option maxRecDepth 20000

theorem own_cgD {B D : Nat} {e : TypeId} {z : Nat} {w w' : World} {v : Value} {k : Nat} {xs : List Value} (h : w.ownsRow B e z v k xs) (hc : Cg D w w') (hD : v.ownBlock ≠ some D) : w'.ownsRow B e z v k xs := by
  refine h.kept (row := some D) ⟨hc.os, hc.tape, hc.output, hc.size, fun b hb hne => hc.block b hb (fun e => hne (by rw [e]))⟩ ?_
  cases hv : v.ownBlock with
  | none => exact .inl rfl
  | some b => exact .inr (fun e => hD (by rw [hv, e]))
set_option maxHeartbeats 1000000 in
theorem walk (s : Br.Se) (v : Value) (l : List Br.Ac) {w : World} (hv : ASeg w v l) (ho : ∀ t ∈ l, (Lit.int .i64 t.k).wf = true ∧ (Lit.int .i64 t.t).wf = true) :
    Calls Try.prog 6 #[vS s, v] w fun e w' => e = .returned (.bool true) ∧ Below w.heap.size w w' := by
  obtain ⟨i0, hi, hz0, hz1, hz2⟩ := info_parts Try.infoA
  have ca := fun W => balive_any W
  have HV := hidD hv
  obtain ⟨av, cv, rfl, _, q2, _, _⟩ := hv
  unfold maxLen at q2
  have X0 := Bo.new w [.int .i64 s.f, .int .i64 s.o, .int .i64 s.p] 25
  have HB0 : Below w.heap.size w (w.alloc (.cells #[.int .i64 s.f, .int .i64 s.o, .int .i64 s.p] 25)) := (Below.refl _ _).alloc (Nat.le_refl _) _
  have hs0 : w.heap.size + 1 ≤ (w.alloc (.cells #[.int .i64 s.f, .int .i64 s.o, .int .i64 s.p] 25)).heap.size := by simp
  obtain ⟨W0, hW0⟩ : ∃ W0, W0 = w.alloc (.cells #[.int .i64 s.f, .int .i64 s.o, .int .i64 s.p] 25) := ⟨_, rfl⟩
  obtain ⟨N, hN⟩ : ∃ N, N = w.heap.size := ⟨_, rfl⟩
  rw [← hW0] at X0 HB0 hs0
  have HVS : Hid (∀ W, Below N w W → ASeg W (.slice av l.length cv) l) := hidD (fun W h => HV.out.below (hN ▸ h))
  rw [← hN] at X0 HB0 hs0 ⊢
  obtain ⟨n, hn⟩ : ∃ n, n = l.length := ⟨_, rfl⟩
  rw [← hn] at HVS ⊢
  have HN := hidD hn
  clear hn HV ho
  have c := ca W0
  go_enter Try.func6, Try.ntmps6
  go_wp2_with fail
  rw [← hN, ← hW0]
  clear hN hW0
  with_reducible refine c.mono ?_
  rintro e ww ⟨rfl, h⟩
  clear c ca
  have XS := hidD (X0.below h)
  have HB := hidD (below_on HB0 (by omega) h)
  have hs := Nat.le_trans hs0 h.size
  clear X0 HB0 hs0 h W0
  go_wp2_with fail
  go_loopw [5, 6, 7] (fun ov ou i wr => ∃ k : Nat, k ≤ n ∧ k ≤ 200 ∧ i = .int .i64 k ∧ ou = .int .i64 (Br.pr s l k).2 ∧ Hid (wr.ownsRow (N + 1) 55 4 ov k (rowA (Br.pr s l k).1)) ∧ Hid (Bo wr N [.int .i64 s.f, .int .i64 s.o, .int .i64 s.p] 25) ∧ Hid (Below N w wr) ∧ N + 1 ≤ wr.heap.size) (fun _ _ i _ => n - (intOf i).toNat)
  case atStart => exact ⟨0, Nat.zero_le _, Nat.zero_le _, rfl, rfl, hidD (World.ownsRow_nil _ _ _ _), XS, HB, hs⟩
  case round =>
    clear XS HB hs
    obtain ⟨k, hk, hk2, rfl, rfl, OW, XS, HB, hs⟩ := hrel
    obtain ⟨oa, oc, rfl⟩ := own_sl OW.out
    by_cases hlt : k < n ∧ k < 200
    case neg =>
      have hsplit : ¬ (k : Int) < (n : Int) ∨ ((k : Int) < (n : Int) ∧ ¬ (k : Int) < 200) := by omega
      clear hlt
      rcases hsplit with h1 | ⟨h1, h2⟩
      all_goals
        go_wp2
        go_ret
        exact ⟨rfl, HB.out⟩
    obtain ⟨hlt1, hlt2⟩ := hlt
    obtain ⟨g0, off, cap', e1, hg, hcell⟩ := aseg_at (by have := HN.out; omega) (HVS.out wr HB.out)
    rw [← HN.out] at e1
    cases e1
    obtain ⟨Q1, Q2, Q3, Q4⟩ := hcell k (by have := HN.out; omega)
    have hrun := Br.pr_runE s l (k + 1) (by omega)
    have HL1 := Br.pr_length s l (k + 1)
    have HPT := Br.pr_told s l k
    have HO1 : Br.sets s = true → (Br.st s (Br.pr s l (k + 1)).1 (k + 1)).p = (Br.pr s l (k + 1)).2 ∧ (Br.pr s l (k + 1)).2 ≤ s.p := fun h => ⟨(Br.pr_out s l h (k + 1)).1, (Br.pr_out s l h (k + 1)).2.2⟩
    have HP0 : Br.sets s = true → 0 ≤ (Br.pr s l k).2 ∧ (Br.pr s l k).2 ≤ s.p := fun h => (Br.pr_out s l h k).2
    have HPS : (Br.pr s l (k + 1)).1 = (Br.pr s l k).1 ++ [Br.pb (l.getD k Br.ac0) k (Br.pr s l k).2] := rfl
    have HP2 : (Br.pr s l (k + 1)).2 = (Br.pr s l k).2 + Br.dl (Br.pb (l.getD k Br.ac0) k (Br.pr s l k).2) (Br.step s (Br.st s (Br.pr s l k).1 k) (Br.pb (l.getD k Br.ac0) k (Br.pr s l k).2)).2 := rfl
    have htl := Br.told_length s (Br.pr s l (k + 1)).1 (k + 1)
    have c0 := fun W v' (hW : ASeg W v' (Br.pr s l (k + 1)).1) => run_any s v' (Br.pr s l (k + 1)).1 W hW
    have hend : Br.sets s = true → Br.endR2 s (Br.pr s l (k + 1)).1 = Br.st s (Br.pr s l (k + 1)).1 (k + 1) ∧ Br.toldR s (Br.pr s l (k + 1)).1 = Br.tolds s (Br.pr s l (k + 1)).1 (k + 1) := fun h => by
      unfold Br.endR2 Br.toldR
      rw [HL1, hrun, h]
      exact ⟨rfl, rfl⟩
    have hend0 : Br.sets s = false → Br.toldR s (Br.pr s l (k + 1)).1 = [] := fun h => by
      unfold Br.toldR
      rw [hrun, h]
      rfl
    rw [hrun] at c0
    have hzc := @Br.zero_chk s
    have hset3 := fun h => (Br.sets_iff (s := s)).1 h
    generalize Br.endR2 s (Br.pr s l (k + 1)).1 = R at *
    generalize Br.toldR s (Br.pr s l (k + 1)).1 = TR at *
    generalize Br.tolds s (Br.pr s l (k + 1)).1 (k + 1) = TL at *
    generalize Br.st s (Br.pr s l (k + 1)).1 (k + 1) = R1 at *
    generalize Br.sets s = sb at *
    generalize ht2 : (Br.step s (Br.st s (Br.pr s l k).1 k) (Br.pb (l.getD k Br.ac0) k (Br.pr s l k).2)).2 = r at *
    generalize hout : (Br.pr s l k).2 = out at *
    generalize hown0 : (Br.pr s l k).1 = ow at *
    have Hr2 : Hid ((Br.pr s l (k + 1)).2 = out + Br.dl (Br.pb (l.getD k Br.ac0) k out) r) := hidD HP2
    have Hr1 : Hid ((Br.pr s l (k + 1)).1 = ow ++ [Br.pb (l.getD k Br.ac0) k out]) := hidD HPS
    rw [HP2] at HO1
    rw [HPS] at c0
    clear HP2 HPS ht2 hout hown0 hrun HL1
    have HC0 := hidD c0
    have HHend := hidD hend
    have HHend0 := hidD hend0
    have HHZ := hidD hzc
    have HHO := hidD HO1
    have HHP0 := hidD HP0
    have HHT := hidD HPT
    have HHL := hidD htl
    have HHS := hidD hset3
    clear c0 hend hend0 hzc HO1 HP0 HPT htl hset3
    have i1 : (k : Int) < (n : Int) := by omega
    have i2 : (k : Int) < 200 := by omega
    clear hcell
    generalize l.getD k Br.ac0 = a at *
    obtain ⟨tw1, tw2⟩ := Br.three_wraps a.k
    have htr := Br.three_range a.k
    have HPB : Hid (Br.pb a k out = ⟨Br.three a.k, (k : Int) / 2, a.p && decide (0 < out), a.g⟩) := hidD (by unfold Br.pb; rw [show ((k / 2 : Nat) : Int) = (k : Int) / 2 by omega])
    generalize Br.three a.k = th at *
    obtain ⟨pp, hpp⟩ : ∃ pp, (a.p && decide (0 < out)) = pp := ⟨_, rfl⟩
    rw [hpp] at HPB
    obtain ⟨q, hq⟩ : ∃ q, (k : Int) / 2 = q := ⟨_, rfl⟩
    rw [hq] at HPB
    have HOB : Hid (∀ j, (Value.slice oa k oc).ownBlock = some j → N + 1 ≤ j ∧ j < wr.heap.size) := hidD (fun j hj => OW.out.lt j hj)
    replace OW := hidD (OW.out.alloc (.cells #[.int .i64 a.k, .int .i64 a.t, .bool a.p, .bool a.g] 55))
    replace XS := hidD (XS.out.alloc (.cells #[.int .i64 a.k, .int .i64 a.t, .bool a.p, .bool a.g] 55))
    replace HB := hidD (HB.out.alloc (by omega) (.cells #[.int .i64 a.k, .int .i64 a.t, .bool a.p, .bool a.g] 55))
    have XA := hidD (Bo.new wr [.int .i64 a.k, .int .i64 a.t, .bool a.p, .bool a.g] 55)
    have hsA : (wr.alloc (.cells #[.int .i64 a.k, .int .i64 a.t, .bool a.p, .bool a.g] 55)).heap.size = wr.heap.size + 1 := by simp
    go_upto_region 9 with fail
    generalize wr.alloc (.cells #[.int .i64 a.k, .int .i64 a.t, .bool a.p, .bool a.g] 55) = W1 at *
    generalize wr.heap.size = D at *
    clear Q1 Q2 Q3 Q4 hg
    have CC := ((Cg.set W1 0 (.int .i64 th) (b := D)).trans (Cg.set _ 1 (.int .i64 q))).trans (Cg.set _ 2 (.bool pp))
    have XA3 := hidD (((XA.out.set 0 (.int .i64 th)).set 1 (.int .i64 q)).set 2 (.bool pp))
    have XAp := ((XA.out.set 0 (.int .i64 th)).set 1 (.int .i64 q)).cell 2 rfl
    have OW3 := hidD (own_cgD OW.out CC (fun e => by have := (HOB.out D e).2; omega))
    have XS3 := hidD (CC.bo (show N ≠ D by omega) XS.out)
    have HB3 := hidD (CC.below (B := N) (by omega) (by omega) HB.out)
    have hs3 := CC.size
    have HNN : Hid (some N ≠ (Value.slice oa k oc).ownBlock) := hidD (fun e => by have := (HOB.out N e.symm).1; omega)
    have x0 := XA.out.cell 0 rfl
    have x1 := XA.out.cell 1 rfl
    have x2 := XA.out.cell 2 rfl
    have x3 := XA.out.cell 3 rfl
    have f0 := XA.out.frozen 0
    have f1 := XA.out.frozen 1
    have f2 := XA.out.frozen 2
    have f3 := XA.out.frozen 3
    clear XA CC OW XS HB
    have hcond : a.p = false ∧ pp = false ∨ a.p = true ∧ pp = decide (0 < out) := by
      rw [← hpp]; cases a.p <;> simp
    have Hpp := hidD hpp
    clear hpp
    have HCO := hidD hcond
    clear hcond
    have HND : Hid (some D ≠ (Value.slice oa k oc).ownBlock) := hidD (fun e => by have := (HOB.out D e.symm).2; omega)
    obtain ⟨W3, hW3⟩ : ∃ W3, W3 = (((W1.setCell ⟨D, 0, none⟩ (.int .i64 th)).setCell ⟨D, 1, none⟩ (.int .i64 q)).setCell ⟨D, 2, none⟩ (.bool pp)) := ⟨_, rfl⟩
    rw [← hW3] at XA3 OW3 XS3 HB3 hs3
    have HW3 := hidD hW3
    clear hW3
    have hD3 : D < W3.heap.size := by omega
    have hND : N + 1 ≤ D := by omega
    go_upto_region 11 with fail
    rcases HCO.out with ⟨ha, hb⟩ | ⟨ha, hb⟩
    all_goals
      rw [ha] at x2 XAp
      go_upto_region 12 with fail
      have hW3 := HW3.out
      rw [hb] at hW3
      rw [← hW3]
      clear hW3 HW3 ha x0 x1 x2 x3 f0 f1 f2 f3 XAp HCO Hpp hb
      have x0 := XA3.out.cell 0 rfl
      have x1 := XA3.out.cell 1 rfl
      have x2 := XA3.out.cell 2 rfl
      have x3 := XA3.out.cell 3 rfl
      go_upto_region 13 with (at_builtin; refine wpList_append_own _ rfl _ _ 46 rfl (N + 1) 55 i0 _ 4 24 Try.underlying46 hi hz0 hz1 hz2 rfl (by decide) _ _ _ rfl (OW3.out.alloc _) ⟨W3.heap.size, 0, none⟩ 1 1 [.int .i64 th, .int .i64 q, .bool pp, .bool a.g] rfl rfl (World.news_of_block (heap_alloc_new W3 _)) (by simp [Value.oneCell']) (by unfold maxLen; omega) (by omega) (by simp; omega) ?_; intro v6 w6 hown6 hgr6 _)
      have S6 : Hid (Bo w6 N [.int .i64 s.f, .int .i64 s.o, .int .i64 s.p] 25) := hidD ((hgr6.block N (by simp; omega) HNN.out).trans (XS3.out.alloc _))
      have A6 : Hid (Bo w6 D [.int .i64 th, .int .i64 q, .bool pp, .bool a.g] 55) := hidD ((hgr6.block D (by simp; omega) HND.out).trans (XA3.out.alloc _))
      have H6 := hidD ((HB3.out.alloc (by omega) (.cells #[.int .i64 th, .int .i64 q, .bool pp, .bool a.g] 55)).grown hgr6 (by simp; omega) (fun j hj => by have := (HOB.out j hj).1; omega))
      have O6 : w6.ownsRow (N + 1) 55 4 v6 (k + 1) (rowA (ow ++ [Br.pb a k out])) := by rw [rowA_append, HPB.out]; exact hown6
      have z6 := hgr6.size
      have hs6 : D + 1 ≤ w6.heap.size := by simp at z6; omega
      obtain ⟨a6, c6, rfl⟩ := own_sl O6
      have hlen6 : (ow ++ [Br.pb a k out]).length = k + 1 := by rw [← Hr1.out]; exact Br.pr_length s l (k + 1)
      have c := HC0.out w6 _ (aseg_of_rowA (by rw [hlen6]; exact O6))
      have VO6 := hidD O6
      clear hown6 hgr6 z6 x0 x1 x2 x3 XA3 OW3 XS3 HB3 hs3 HC0 O6 hlen6 HND HNN HOB
      have s0 := S6.out.cell 0 rfl
      have s1 := S6.out.cell 1 rfl
      have s2 := S6.out.cell 2 rfl
      have a0 := A6.out.cell 0 rfl
      have HDL : Hid (Br.dl (Br.pb a k out) r = if th = 2 ∧ r = 1 then 1 else if th = 3 ∧ pp = true then -1 else 0) := hidD (by rw [HPB.out]; rfl)
      cases sb
      case false =>
        have hTR := HHend0.out (by first | rfl | trivial)
        subst hTR
        rw [if_neg (by decide)] at c
        have cz := rcheck_any Br.zero s 0
        rw [HHZ.out (by first | rfl | trivial)] at cz
        unfold Br.zero at cz
        have HCZ := hidD cz
        have hd0 := @cz
        clear cz hd0
        go_wp2_with fail
        with_reducible refine c.mono ?_
        rintro e w7 ⟨v7, rfl, o7, h7⟩
        have S7 := hidD ((S6.out.below h7).alloc (.cells #[.int .i64 R.m, .int .i64 R.f, .int .i64 R.u, .int .i64 R.p, .int .i64 R.w] 23))
        have B7 := hidD ((below_on H6.out (by omega) h7).alloc (by have := h7.size; omega) (.cells #[.int .i64 R.m, .int .i64 R.f, .int .i64 R.u, .int .i64 R.p, .int .i64 R.w] 23))
        have hz7 : N + 1 ≤ (w7.alloc (.cells #[.int .i64 R.m, .int .i64 R.f, .int .i64 R.u, .int .i64 R.p, .int .i64 R.w] 23)).heap.size := by have := h7.size; simp; omega
        obtain ⟨a7, c7, rfl⟩ := own_sl o7
        clear h7 o7 c s0 s1 s2 a0
        go_upto_region 14 with fail
        generalize w7.alloc (.cells #[.int .i64 R.m, .int .i64 R.f, .int .i64 R.u, .int .i64 R.p, .int .i64 R.w] 23) = W7 at *
        have s0 := S7.out.cell 0 rfl
        have s1 := S7.out.cell 1 rfl
        have s2 := S7.out.cell 2 rfl
        have c := HCZ.out W7
        go_wp2_with (go_at_call 17; refine (num_any _ _).mono ?_; rintro e w4 ⟨rfl, rfl⟩)
        with_reducible refine c.mono ?_
        rintro e w8 ⟨rfl, h8⟩
        have B8 := hidD (below_on B7.out (by omega) h8)
        clear h8
        go_wp2
        go_ret
        exact ⟨by first | rfl | simp, B8.out⟩
      case true =>
        obtain ⟨hR, hTR⟩ := HHend.out (by first | rfl | trivial)
        subst hR hTR
        rw [if_pos rfl, HHL.out] at c
        obtain ⟨g1, g2⟩ := HHO.out (by first | rfl | trivial)
        replace g1 := hidD g1
        obtain ⟨g3, g4⟩ := HHP0.out (by first | rfl | trivial)
        have g5 := HHS.out (by first | rfl | trivial)
        go_wp2_with fail
        with_reducible refine c.mono ?_
        rintro e w7 ⟨v7, rfl, o7, h7⟩
        have S7 := hidD ((S6.out.below h7).alloc (.cells #[.int .i64 R.m, .int .i64 R.f, .int .i64 R.u, .int .i64 R.p, .int .i64 R.w] 23))
        have A7 := hidD ((A6.out.below h7).alloc (.cells #[.int .i64 R.m, .int .i64 R.f, .int .i64 R.u, .int .i64 R.p, .int .i64 R.w] 23))
        have O7 := hidD ((ownsRow_below VO6.out h7).alloc (.cells #[.int .i64 R.m, .int .i64 R.f, .int .i64 R.u, .int .i64 R.p, .int .i64 R.w] 23))
        have T7 := hidD (o7.alloc (.cells #[.int .i64 R.m, .int .i64 R.f, .int .i64 R.u, .int .i64 R.p, .int .i64 R.w] 23))
        have B7 := hidD ((below_on H6.out (by omega) h7).alloc (by have := h7.size; omega) (.cells #[.int .i64 R.m, .int .i64 R.f, .int .i64 R.u, .int .i64 R.p, .int .i64 R.w] 23))
        have Y7 := hidD (Bo.new w7 [.int .i64 R.m, .int .i64 R.f, .int .i64 R.u, .int .i64 R.p, .int .i64 R.w] 23)
        have hz7 : N + 1 ≤ (w7.alloc (.cells #[.int .i64 R.m, .int .i64 R.f, .int .i64 R.u, .int .i64 R.p, .int .i64 R.w] 23)).heap.size := by have := h7.size; simp; omega
        obtain ⟨a7, c7, rfl⟩ := own_sl o7
        clear h7 o7 c s0 s1 s2 a0 S6 A6 H6 VO6
        go_upto_region 14 with fail
        generalize w7.alloc (.cells #[.int .i64 R.m, .int .i64 R.f, .int .i64 R.u, .int .i64 R.p, .int .i64 R.w] 23) = W7 at *
        generalize w7.heap.size = D7 at *
        replace g1 := g1.out
        obtain ⟨gg, rfl⟩ : ∃ gg, a7 = some ⟨gg, 0, none⟩ := by
          rcases T7.out.2 with ⟨e, h0⟩ | ⟨gg, cc, cur, e, _⟩
          · omega
          · cases e; exact ⟨gg, rfl⟩
        have t7 : W7.cell? ⟨gg, k, none⟩ = some (.int .i64 r) := by
          rw [T7.out.cellAt k (by omega)]
          have h1 := HHT.out
          have h2 := HHL.out
          have h3 : k < TR.length := by omega
          simp only [List.getD, List.getElem?_eq_getElem h3, Option.getD_some] at h1
          simp [h3, h1]
        have s0 := S7.out.cell 0 rfl
        have s1 := S7.out.cell 1 rfl
        have s2 := S7.out.cell 2 rfl
        have a0 := A7.out.cell 0 rfl
        have a2 := A7.out.cell 2 rfl
        have y3 := Y7.out.cell 3 rfl
        have i3 : (k : Int) < (k : Int) + 1 := by omega
        by_cases q2' : th = 2
        · have b2 : (th == 2) = true := by simp [q2']
          have b3 : (th == 3) = false := by simp [q2']
          by_cases qr : r = 1
          · have br : (r == 1) = true := by simp [qr]
            have hdl : Br.dl (Br.pb a k out) r = 1 := by rw [HDL.out, if_pos ⟨q2', qr⟩]
            rw [hdl] at g1 g2
            have hw : IntKind.i64.wrap (out + 1) = out + 1 := wrap_ok (by omega) (by omega)
            have hbp : (R.p != out + 1) = false := by rw [g1]; simp
            have Hd := hidD hdl
            clear hdl q2' qr
            go_wp2_with (go_at_call 17; refine (num_any _ _).mono ?_; rintro e w4 ⟨rfl, rfl⟩)
            exact ⟨⟨k + 1, by omega, by omega, by go_num, by rw [Hr2.out, Hd.out], by rw [Hr1.out]; exact O7, S7, B7, hz7⟩, by simp [intOf]; omega⟩
          · have br : (r == 1) = false := by simp [qr]
            have hdl : Br.dl (Br.pb a k out) r = 0 := by rw [HDL.out, if_neg (fun e => qr e.2), if_neg (fun e => by omega)]
            rw [hdl, Int.add_zero] at g1 g2
            have hbp : (R.p != out) = false := by rw [g1]; simp
            have Hd := hidD hdl
            clear hdl q2' qr
            go_wp2_with (go_at_call 17; refine (num_any _ _).mono ?_; rintro e w4 ⟨rfl, rfl⟩)
            exact ⟨⟨k + 1, by omega, by omega, by go_num, by rw [Hr2.out, Hd.out, Int.add_zero], by rw [Hr1.out]; exact O7, S7, B7, hz7⟩, by simp [intOf]; omega⟩
        · have b2 : (th == 2) = false := by simp [q2']
          by_cases q3 : th = 3
          · have b3 : (th == 3) = true := by simp [q3]
            cases pp
            · have hdl : Br.dl (Br.pb a k out) r = 0 := by rw [HDL.out, if_neg (fun e => q2' e.1), if_neg (fun e => by simp at e)]
              rw [hdl, Int.add_zero] at g1 g2
              have hbp : (R.p != out) = false := by rw [g1]; simp
              have Hd := hidD hdl
              clear hdl q2' q3
              go_wp2_with (go_at_call 17; refine (num_any _ _).mono ?_; rintro e w4 ⟨rfl, rfl⟩)
              exact ⟨⟨k + 1, by omega, by omega, by go_num, by rw [Hr2.out, Hd.out, Int.add_zero], by rw [Hr1.out]; exact O7, S7, B7, hz7⟩, by simp [intOf]; omega⟩
            · have hdl : Br.dl (Br.pb a k out) r = -1 := by rw [HDL.out, if_neg (fun e => q2' e.1), if_pos (by simp [q3])]
              rw [hdl] at g1 g2
              have hw : IntKind.i64.wrap (out - 1) = out - 1 := wrap_ok (by omega) (by omega)
              have hbp : (R.p != out - 1) = false := by rw [g1]; simp; omega
              have Hd := hidD hdl
              clear hdl q2' q3
              go_wp2_with (go_at_call 17; refine (num_any _ _).mono ?_; rintro e w4 ⟨rfl, rfl⟩)
              exact ⟨⟨k + 1, by omega, by omega, by go_num, by rw [Hr2.out, Hd.out]; rfl, by rw [Hr1.out]; exact O7, S7, B7, hz7⟩, by simp [intOf]; omega⟩
          · have b3 : (th == 3) = false := by simp [q3]
            have hdl : Br.dl (Br.pb a k out) r = 0 := by rw [HDL.out, if_neg (fun e => q2' e.1), if_neg (fun e => q3 e.1)]
            rw [hdl, Int.add_zero] at g1 g2
            have hbp : (R.p != out) = false := by rw [g1]; simp
            have Hd := hidD hdl
            clear hdl q2' q3
            go_wp2_with (go_at_call 17; refine (num_any _ _).mono ?_; rintro e w4 ⟨rfl, rfl⟩)
            exact ⟨⟨k + 1, by omega, by omega, by go_num, by rw [Hr2.out, Hd.out, Int.add_zero], by rw [Hr1.out]; exact O7, S7, B7, hz7⟩, by simp [intOf]; omega⟩

set_option maxRecDepth 100000 in
theorem lifted (os : Os) (started : os.Started) (H : Type) (enc : TypeId × Value → H) :
    ReturnsInHanded {} Try.checked os 6 .any (Rows.breakerProbesSpec.pre6 enc Try.prog Try.f6 Rows.breakerProbesRow.domain false) (Rows.breakerProbesSpec.post enc Try.prog Try.f6 false true false false) := by
  refine returnsInHanded_of_change (C := Try.checked) own started (by kernel_rfl) Try.func6
    (ChangeSpec.witness6 (enc := enc) (C := Try.checked) false ⟨#[], #[.agg #[.int .i64 0, .int .i64 0, .int .i64 0], .slice none 0 0], []⟩ 8 (by kernel_rfl) (by kernel_rfl) (by kernel_rfl) (by kernel_rfl)) ?_
  intro W base args ds gs before hval0 hW hcnd _
  have hval : ∀ (j : Nat) t v, Try.f6.params[j]? = some t → args[j]? = some v → Value.okWide Try.prog W .any base t v := hval0
  have hW' := hW
  obtain ⟨p, q, hA0, hV, rfl, hfz, hnd⟩ := hW
  have hA : DataW.TrodAll enc Try.prog W 0 (fun _ => true) true Try.f6.params.toList args.toList ds p := hA0
  rw [Try.params6] at hA hval
  obtain ⟨v0, vs0, d0, ds0, p0, q0, hargs, rfl, rfl, h0, r0⟩ := trodAll_cons hA
  obtain ⟨v1, vs1, d1, ds1, p1, q1, rfl, rfl, rfl, h1, r1⟩ := trodAll_cons r0
  obtain ⟨rfl, rfl, rfl⟩ := trodAll_nil r1
  obtain rfl : args = #[v0, v1] := by cases args; simp_all
  obtain ⟨rfl, rfl⟩ := trodVars_none hV
  have k0 := h0
  have lt0 : ∀ x ∈ p0, x.block < W.heap.size := by obtain ⟨m, hm⟩ := k0; exact DataW.trod_lt m _ _ _ hm
  obtain ⟨x0, hv0⟩ := open_set (hval 0 25 v0 rfl rfl) h0
  subst hv0
  have k1 := h1
  have lt1 : ∀ x ∈ p1, x.block < W.heap.size := by obtain ⟨m, hm⟩ := k1; exact DataW.trod_lt m _ _ _ hm
  obtain ⟨l1, hs1, ho1, e1⟩ := open_acts (hval 1 46 v1 rfl rfl) h1
  clear hA0 hval0
  refine (walk x0 v1 l1 hs1 ho1).mono fun e W' ⟨he, bel⟩ => ?_
  subst he
  exact ⟨_, rfl, _, _, _, [], _, [], hW', trodAll_mk1 (shut_bool Try.underlying4 _), (trodAll_cons_mk (Below.trod laidOut (by kernel_rfl) (of_decide_eq_true (by kernel_rfl)) k0 bel lt0) (trodAll_cons_mk (Below.trod laidOut (by kernel_rfl) (of_decide_eq_true (by kernel_rfl)) k1 bel lt1) trodAll_mk0)), rfl, bel.frame _, fun h => by cases h⟩

theorem over : Rows.breakerProbesRow.holds Try.pinned (OpenSpec.ofChange Rows.breakerProbesSpec) :=
  OpenClaim.holds_of_wide 6 Try.f6 rfl rfl rfl rfl rfl rfl rfl ⟨rfl, rfl, rfl, rfl, rfl⟩ rfl rfl rfl rfl rfl (by kernel_rfl) Try.func6 (by kernel_rfl)
    (of_decide_eq_true (by kernel_rfl)) (by unfold Func.isWrapper; first | (rw [if_pos (by decide +kernel)]; kernel_rfl) | (rw [if_neg (by decide +kernel)]; exact ⟨rfl, rfl⟩))
    (fun os started H enc _ => lifted os started H enc)
end Go.Proofs.Ytkfkhhhoboenkaa.breakerProbes

namespace Go.Proofs.Ytkfkhhhoboenkaa
/-- THE STATEMENT. -/
theorem breakerProbes_holds : Rows.BreakerProbesSaid := breakerProbes.over
#print axioms breakerProbes_holds
end Go.Proofs.Ytkfkhhhoboenkaa
