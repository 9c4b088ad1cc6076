/- subset: the reference's sorted. -/
import Derived.Test.YtdgdhhbapgfjgaaSB
import Derived.BigQuiet
import Derived.Deep.QuietTactic
import Derived.Deep.DeepCutAuto
namespace Go.Proofs.Ytdgdhhbapgfjgaa
open Go.RowKit
set_option maxRecDepth 20000
set_option linter.unusedVariables false

set_option maxRecDepth 100000 in
set_option maxHeartbeats 8000000 in
theorem rsorted_any (v : Value) (U : List Int) (w : World) (hs : Seg .i64 w v U) (hU : U.length ≤ 17592186044415) :
    Calls Try.prog 27 #[v] w fun e w' => ∃ v', e = .returned v' ∧ w'.ownsRow w.heap.size 3 1 v' U.length (i64s (Sp.srt U)) ∧ Below w.heap.size w w' := by
  have HS := hidD hs
  obtain ⟨a, cap, rfl, h1, h2, _, _⟩ := hs
  unfold maxLen at h2
  obtain ⟨L, hL⟩ : ∃ L, L = U.length := ⟨_, rfl⟩
  rw [← hL] at HS h1 hU ⊢
  have HL := hidD hL
  clear hL
  go_enter Try.func27, Try.ntmps27
  go_wp2
  go_loopw [3, 4] (fun o i wr => ∃ q : Nat, q ≤ L ∧ i = .int .i64 q ∧ wr.ownsRow w.heap.size 3 1 o q (i64s (Sp.srt (U.take q))) ∧ Below w.heap.size w wr) (fun _ i _ => L - (intOf i).toNat)
  case atStart => exact ⟨0, Nat.zero_le _, rfl, (by rw [List.take_zero, show Sp.srt [] = [] from by simp [Sp.srt]]; exact World.ownsRow_nil _ _ _ _), Below.refl _ _⟩
  case round =>
    obtain ⟨q, hq, rfl, hrow, hbl⟩ := hrel
    obtain ⟨wq, rfl⟩ : ∃ wq, wq = wr := ⟨_, rfl⟩
    by_cases hlq : q < L
    · have ql : q < U.length := by have := HL.out; omega
      obtain ⟨lg, lo, rfl, hlg, Q0⟩ := HS.out.atD q ql
      obtain ⟨y, hy⟩ : ∃ y, y = U.getD q 0 := ⟨_, rfl⟩
      rw [← hy] at Q0
      obtain ⟨XS, hXS⟩ : ∃ XS, XS = Sp.srt (U.take q) := ⟨_, rfl⟩
      have hXM : XS.length = q := by rw [hXS, Sp.srt_length, List.length_take]; omega
      have HFIN : Hid (∀ s, s ≤ q → (∀ j, s ≤ j → j < q → y < XS.getD j 0) → (s = 0 ∨ XS.getD (s - 1) 0 ≤ y) → Sp.srt (U.take (q + 1)) = XS.take s ++ y :: XS.drop s) := hidD (fun s h1 h2 h3 => by
        rw [List.take_succ_eq_append_getElem ql, ← dgetD_at ql, ← hy]
        rw [hXS] at h2 h3 hXM ⊢
        exact Sp.srt_put (by omega) (fun j g1 g2 => h2 j g1 (by omega)) h3)
      rw [← hXS] at hrow
      have Qq := (hbl.cell (p := ⟨lg, lo + q, none⟩) hlg).trans Q0
      have hbq := hbl.size
      have i1 : (q : Int) < (L : Int) := by omega
      obtain ⟨oa, ocap, rfl⟩ := row_slice hrow
      have hrow' : wq.ownsRow w.heap.size 3 1 (.slice oa q ocap) XS.length (i64s XS) := by rw [hXM]; exact hrow
      clear hXS hy ql
      go_wp2_with (first | (at_builtin; refine wpList_append_ints _ rfl _ _ rfl w.heap.size (.slice oa q ocap) (.slice (some ⟨wq.heap.size, 0, none⟩) 1 1) XS [y] rfl (hrow'.alloc _) rfl (seg_one wq y) (by simp; omega) (by simp; omega) ?_; intro v2 w6 hown' hB6 hgrow))
      have hown2' := hown'
      rw [show (XS ++ [y]).length = q + 1 from by simp [hXM]] at hown2'
      obtain ⟨g2, cap2, rfl⟩ := row_block hown2' (by omega)
      have BW6 : Below w.heap.size w w6 := (hbl.alloc hbq _).trans hB6
      have hg2 := (hown2'.lt g2 rfl).1
      obtain ⟨BB, hBB⟩ : ∃ BB, BB = XS ++ [y] := ⟨_, rfl⟩
      have hBBl : BB.length = q + 1 := by rw [hBB]; simp [hXM]
      rw [← hBB] at hown2'
      have hBX : Hid (∀ j, j < q → BB.getD j 0 = XS.getD j 0) := hidD (fun j hj => by
        rw [hBB]
        simp [List.getD, List.getElem?_append_left (by omega : j < XS.length)])
      have HBB := hidD hBB
      have HBW6 := hidD BW6
      have HOWN := hidD hown2'
      clear hown' hown2' hgrow hB6 BW6 hBB hrow hrow' hbl Qq
      go_loopw [5] (fun i wr => ∃ s : Nat, s ≤ q ∧ i = .int .i64 s ∧ (∃ ZL : List Int, ZL.length = q + 1 ∧ Hid (∀ j, j ≤ q → ZL.getD j 0 = if j ≤ s then BB.getD j 0 else BB.getD (j - 1) 0) ∧ wr.ownsRow w.heap.size 3 1 (.slice (some ⟨g2, 0, none⟩) (q + 1) cap2) (q + 1) (i64s ZL)) ∧ Hid (∀ j, s ≤ j → j < q → y < XS.getD j 0) ∧ Below w.heap.size w wr) (fun i _ => (intOf i).toNat)
      case atStart => exact ⟨q, Nat.le_refl _, rfl, ⟨BB, hBBl, hidD (fun j hj => by rw [if_pos hj]), HOWN.out⟩, hidD (fun j h1 h2 => by omega), HBW6.out⟩
      case round =>
        clear HOWN
        obtain ⟨s, hs, rfl, ⟨ZL, hZl, hZL, hrw⟩, hA, hbw⟩ := hrel
        have Ql := (hbw.cell (p := ⟨lg, lo + q, none⟩) hlg).trans Q0
        by_cases hgo : 0 < s ∧ y < XS.getD (s - 1) 0
        · obtain ⟨hs0, hlt2⟩ := hgo
          obtain ⟨J, hJ⟩ : ∃ J, J = s - 1 := ⟨_, rfl⟩
          have hZJ : ZL.getD J 0 = XS.getD J 0 := by rw [hZL.out J (by omega), if_pos (by omega), hBX.out J (by omega)]
          have C1 : wr.cell? ⟨g2, J, none⟩ = some (.int .i64 (XS.getD J 0)) := by
            rw [hrw.cellAt J (by omega), ← hZJ]
            exact i64s_get ZL J (by omega)
          have C3 : wr.cell? ⟨g2, s, none⟩ = some (.int .i64 (ZL.getD s 0)) := by
            rw [hrw.cellAt s (by omega)]
            exact i64s_get ZL s (by omega)
          have F3 := hrw.frozenAt s
          have st1 := hrw.stored s (.int .i64 (XS.getD J 0))
          have hr2 := st1.1
          rw [← i64s_set ZL s (XS.getD J 0)] at hr2
          have HR2 := hidD hr2
          have hZ2 : Hid (∀ j, j ≤ q → (ZL.set s (XS.getD J 0)).getD j 0 = if j ≤ J then BB.getD j 0 else BB.getD (j - 1) 0) := hidD (fun j hj => by
            by_cases hjs : j = s
            · subst hjs
              rw [igetD_set_same _ _ _ (by omega), if_neg (by omega), ← hJ, hBX.out J (by omega)]
            · rw [igetD_set_other _ _ _ _ (Ne.symm hjs), hZL.out j hj]
              by_cases h1 : j ≤ J
              · rw [if_pos h1, if_pos (by omega)]
              · rw [if_neg h1, if_neg (by omega)])
          have HLL : Hid ((ZL.set s (XS.getD J 0)).length = q + 1) := hidD (by rw [List.length_set]; exact hZl)
          have hA2 : Hid (∀ j, J ≤ j → j < q → y < XS.getD j 0) := hidD (fun j h1 h2 => by
            by_cases hj : j = J
            · rw [hj, hJ]
              exact hlt2
            · exact hA.out j (by omega) h2)
          have HB2 := hidD (hbw.grown st1.2 hbw.size (fun k e => by cases e; exact hg2))
          rw [← hJ] at hlt2
          have i5 : (0 : Int) < (s : Int) := by omega
          have i6 : (J : Int) < ((q + 1 : Nat) : Int) := by omega
          have i7 : (s : Int) < ((q + 1 : Nat) : Int) := by omega
          have i4 : IntKind.i64.wrap ((s : Int) - 1) = (J : Int) := by rw [IntKind.wrap_i64]; omega
          have HJ := hidD hJ
          clear hJ st1 hr2 hZL hA hrw hZJ hbw
          generalize ZL.getD s 0 = z at *
          generalize ZL.set s (XS.getD J 0) = ZL2 at *
          generalize XS.getD J 0 = x at *
          go_wp2_with fail
          go_quiet (fail)
          go_wp2
          have hJ := HJ.out
          exact ⟨⟨J, by omega, by go_num, ⟨ZL2, HLL.out, hZ2, HR2.out⟩, hA2, drewD HB2.out _⟩, by simp [intOf]; omega⟩
        · have C3 : wr.cell? ⟨g2, s, none⟩ = some (.int .i64 (ZL.getD s 0)) := by
            rw [hrw.cellAt s (by omega)]
            exact i64s_get ZL s (by omega)
          have F3 := hrw.frozenAt s
          have st1 := hrw.stored s (.int .i64 y)
          have hr2 := st1.1
          rw [← i64s_set ZL s y, Sp.shift_put HBB.out hXM hs hZl hZL.out, ← HFIN.out s hs hA.out (by
            by_cases h0 : s = 0
            · exact .inl h0
            · exact .inr (Int.not_lt.1 (fun e => hgo ⟨by omega, e⟩)))] at hr2
          have HR2 := hidD hr2
          have HB2 := hidD (hbw.grown st1.2 hbw.size (fun k e => by cases e; exact hg2))
          have i7 : (s : Int) < ((q + 1 : Nat) : Int) := by omega
          have hst : ∀ n : Nat, ((wr.drewN n).setCell ⟨g2, s, none⟩ (.int .i64 y)).ownsRow w.heap.size 3 1 (.slice (some ⟨g2, 0, none⟩) (q + 1) cap2) (q + 1) (i64s (Sp.srt (U.take (q + 1)))) ∧ Below w.heap.size w ((wr.drewN n).setCell ⟨g2, s, none⟩ (.int .i64 y)) := fun n => ⟨HR2.out, ⟨HB2.out.os, HB2.out.tape, HB2.out.output, HB2.out.size, HB2.out.block⟩⟩
          have HST := hidD hst
          go_upto_region 7 with fail
          go_cut [34] (fun b wx => b = .bool false ∧ ∃ n, wx = wr.drewN n)
          case first =>
            by_cases hs0 : 0 < s
            · obtain ⟨J, hJ⟩ : ∃ J, J = s - 1 := ⟨_, rfl⟩
              have hZJ : ZL.getD J 0 = XS.getD J 0 := by rw [hZL.out J (by omega), if_pos (by omega), hBX.out J (by omega)]
              have C1 : wr.cell? ⟨g2, J, none⟩ = some (.int .i64 (XS.getD J 0)) := by
                rw [hrw.cellAt J (by omega), ← hZJ]
                exact i64s_get ZL J (by omega)
              have hng : ¬ y < XS.getD J 0 := fun e => hgo ⟨hs0, by rw [← hJ]; exact e⟩
              have hd : decide (y < XS.getD J 0) = false := decide_eq_false hng
              have i5 : (0 : Int) < (s : Int) := by omega
              have i6 : (J : Int) < ((q + 1 : Nat) : Int) := by omega
              have i4 : IntKind.i64.wrap ((s : Int) - 1) = (J : Int) := by rw [IntKind.wrap_i64]; omega
              have HJ := hidD hJ
              clear hJ st1 hr2 hZL hA hrw hZJ hbw hgo hst
              generalize XS.getD J 0 = x at *
              go_wp2_with fail
              go_quiet (fail)
              go_wp2
              go_meet
              exact ⟨by first | rfl | (congr 1), _, rfl⟩
            · obtain rfl : s = 0 := by omega
              have hd : decide ((0 : Int) < ((0 : Nat) : Int)) = false := rfl
              clear st1 hr2 hZL hA hrw hbw hgo hst
              go_wp2_with fail
              go_quiet (fail)
              go_wp2
              go_meet
              exact ⟨by first | rfl | (congr 1), _, rfl⟩
          case rest =>
            obtain ⟨rfl, n, rfl⟩ := hcut
            have hfin := HST.out n
            clear st1 hr2 hZL hA hrw hbw hgo hst HST HR2 HB2
            generalize ZL.getD s 0 = z at *
            go_wp2
            exact ⟨⟨q + 1, by omega, by go_num, hfin.1, hfin.2⟩, by simp [intOf]; omega⟩
    · obtain rfl : q = L := by omega
      have hke : U.take q = U := List.take_of_length_le (by have := HL.out; omega)
      rw [hke] at hrow
      have HR := hidD hrow
      clear hke hrow
      go_wp2
      go_ret
      exact ⟨_, rfl, HR.out, hbl⟩
end Go.Proofs.Ytdgdhhbapgfjgaa
