/- ring: the reference's Shares. -/
import Derived.Test.YtekmcooghkchpaaRT2
namespace Go.Proofs.Ytekmcooghkchpaa
open Go.RowKit Go.Sort Go.Shelf

def Rp.z (y : Int) : Rp.Pt := (0, y)
def Rp.sortI (l : List Int) : List Int := (Rp.all (l.map Rp.z)).map (·.2)
theorem Rp.all_z (l : List Int) : ∀ p ∈ Rp.all (l.map Rp.z), p.1 = 0 := by
  intro p hp
  have := (Rp.all_ok (l.map Rp.z)).2.mem_iff.1 hp
  obtain ⟨y, _, rfl⟩ := List.mem_map.1 this
  rfl
theorem Rp.sortI_is (l : List Int) : Rp.sortI l = l.mergeSort fun x y => decide (x ≤ y) := by
  have hperm : (Rp.sortI l).Perm (l.mergeSort fun x y => decide (x ≤ y)) := by
    refine List.Perm.trans ?_ (List.mergeSort_perm _ _).symm
    have := ((Rp.all_ok (l.map Rp.z)).2).map (·.2)
    rw [List.map_map] at this
    simpa [Rp.sortI, Function.comp_def, Rp.z] using this
  have hs1 : (Rp.sortI l).Pairwise (fun x y => decide (x ≤ y) = true) := by
    unfold Rp.sortI
    rw [List.pairwise_map]
    refine List.Pairwise.imp_of_mem ?_ (Rp.all_ok (l.map Rp.z)).1
    intro a b ha hb hab
    rw [Rp.le_iff, Rp.all_z l a ha, Rp.all_z l b hb] at hab
    simp only [decide_eq_true_iff]
    omega
  have hs2 : (l.mergeSort fun x y => decide (x ≤ y)).Pairwise (fun x y => decide (x ≤ y) = true) := by
    refine List.pairwise_mergeSort (fun a b c h1 h2 => ?_) (fun a b => ?_) _
    · simp only [decide_eq_true_iff] at *; omega
    · simp only [Bool.or_eq_true, decide_eq_true_iff]; omega
  exact hperm.eq_of_pairwise (fun x y _ _ h1 h2 => by simp only [decide_eq_true_iff] at *; omega) hs1 hs2
theorem Rp.lt_z (y : Int) (p : Rp.Pt) (h : p.1 = 0) : Rp.lt (Rp.z y) p = decide (y < p.2) := by
  rw [Bool.eq_iff_iff, Rp.lt_iff, decide_eq_true_iff]
  unfold Rp.z
  rw [h]
  simp
abbrev rowI (xs : List Rp.Pt) : List Value := i64s (xs.map (·.2))
theorem rowI_get (xs : List Rp.Pt) (i : Nat) (h : i < xs.length) : (rowI xs)[i]? = some (.int .i64 (xs.getD i (0, 0)).2) := by
  simp [rowI, i64s, List.getD, h]
theorem rowI_set (xs : List Rp.Pt) (m : Nat) (y : Rp.Pt) : rowI (xs.set m y) = (rowI xs).set m (.int .i64 y.2) := by
  simp [rowI, i64s, List.map_set]

set_option maxRecDepth 100000 in
set_option maxHeartbeats 8000000 in
theorem rshares_good (v : Value) (r : List Rp.Pt) (K : Nat) (U : List Int) (w : World) (hv : PSeg .u64 w v r) (hK : K ≤ 4096) (hU : U.length ≤ 1024) (hr0 : 0 < r.length) (hr1 : r.length ≤ 1024)
    (CW : Calls Try.prog 15 #[v, .int .u64 0] w fun e w' => ∃ v', e = .returned (.tuple #[v', .int .i64 0]) ∧ w'.ownsRow w.heap.size 3 1 v' U.length (i64s U) ∧ Below w.heap.size w w') :
    Calls Try.prog 17 #[v, .int .i64 (K : Int)] w fun e w' => ∃ v', e = .returned (.tuple #[v', .int .i64 0]) ∧ Seg .i64 w' v' ((Rp.sortI U).map fun y => (Rp.cnt r K y : Int)) ∧ Below w.heap.size w w' := by
  have HV := hidD hv
  obtain ⟨ra, rcap, hveq, -⟩ := id hv
  obtain ⟨N, hN⟩ : ∃ N, N = r.length := ⟨_, rfl⟩
  have HN := hidD hN
  rw [← hN] at hveq hr0 hr1
  subst hveq
  clear hN hv
  obtain ⟨L, hL⟩ : ∃ L, L = U.length := ⟨_, rfl⟩
  have HL := hidD hL
  rw [← hL] at CW hU
  clear hL
  go_enter Try.func17, Try.ntmps17
  go_wp2_with fail
  with_reducible refine CW.mono ?_
  rintro e w1 ⟨v1, rfl, o1, b1⟩
  clear CW
  obtain ⟨la, lcap, rfl⟩ : ∃ la lcap, v1 = .slice la L lcap := by
    rcases o1.2 with ⟨rfl, h0⟩ | ⟨gg, cc, cur, rfl, _⟩
    · exact ⟨none, 0, by rw [h0]⟩
    · exact ⟨_, _, rfl⟩
  have HO1 := hidD o1
  have HB1 := hidD b1
  have hlb := fun k e => (o1.lt k e).2
  have hb1s := b1.size
  clear o1 b1
  obtain ⟨i0, hi, hz0, hz1, hz2⟩ := info_parts Try.infoI
  go_wp2_with fail
  go_loopw [8, 9] (fun o i wr => ∃ q : Nat, q ≤ L ∧ i = .int .i64 q ∧ wr.ownsRow w1.heap.size 3 1 o q (rowI (Rp.all ((U.take q).map Rp.z))) ∧ Below w1.heap.size w1 wr) (fun _ i _ => L - (intOf i).toNat)
  case atStart => exact ⟨0, Nat.zero_le _, rfl, World.ownsRow_nil _ _ _ _, Below.refl _ _⟩
  case round =>
    obtain ⟨q, hq, rfl, hrow, hbl⟩ := hrel
    obtain ⟨wq, rfl⟩ : ∃ wq, wq = wr := ⟨_, rfl⟩
    by_cases hlq : q < L
    · obtain ⟨lg, rfl⟩ : ∃ lg, la = some ⟨lg, 0, none⟩ := by
        rcases HO1.out.2 with ⟨e, h0⟩ | ⟨gg, cc, cur, e, _⟩
        · omega
        · cases e; exact ⟨gg, rfl⟩
      have hlg := hlb lg rfl
      obtain ⟨y, hy⟩ : ∃ y, y = U.getD q 0 := ⟨_, rfl⟩
      have Q0 : w1.cell? ⟨lg, q, none⟩ = some (.int .i64 y) := by
        rw [HO1.out.cellAt q (by omega), hy]
        have : q < U.length := by have := HL.out; omega
        simp [List.getD, this]
      obtain ⟨XS, hXS⟩ : ∃ XS, XS = Rp.all ((U.take q).map Rp.z) := ⟨_, rfl⟩
      have hXM : XS.length = q := by rw [hXS, Rp.all_length, List.length_map, List.length_take]; have := HL.out; omega
      have hXz : ∀ j, j < q → (XS.getD j (0, 0)).1 = 0 := fun j hj => by
        rw [pgetD_at (by omega)]
        exact Rp.all_z (U.take q) _ (by rw [← hXS]; exact List.getElem_mem _)
      have HFIN : Hid (Rp.all ((U.take (q + 1)).map Rp.z) = Rp.ins XS (Rp.z y)) := hidD (by
        have hqU : q < U.length := by have := HL.out; omega
        rw [List.take_succ_eq_append_getElem hqU, List.map_append, List.map_cons, List.map_nil, Rp.all_snoc, ← hXS, hy]
        simp [List.getD, hqU])
      rw [← hXS] at hrow
      have HXZ := hidD hXz
      have Qq := (hbl.cell (p := ⟨lg, q, none⟩) hlg).trans Q0
      have hbq := hbl.size
      have i1 : (q : Int) < (L : Int) := by omega
      obtain ⟨oa, ocap, rfl⟩ : ∃ oa ocap, u8 = .slice oa q ocap := by
        rcases hrow.2 with ⟨rfl, h0⟩ | ⟨gg, cc, cur, rfl, _⟩
        · exact ⟨none, 0, by rw [h0]⟩
        · exact ⟨_, _, rfl⟩
      clear hXS hy hXz
      go_wp2_with (first | (at_builtin; refine wpList_append_own _ rfl _ _ 35 rfl w1.heap.size 3 i0 _ 1 8 Try.underlying35 hi hz0 hz1 hz2 rfl (by decide) _ _ _ rfl (hrow.alloc _) ⟨wq.heap.size, 0, none⟩ 1 1 [.int .i64 y] rfl rfl (cells_one _ _ _) (by simp [Value.oneCell']) (by unfold maxLen; omega) (by omega) (by simp; omega) ?_; intro v2 w6 hown' hgrow _; obtain ⟨g2, cap2, rfl⟩ := ownsRow_succ hown'))
      have hgrow2 : (wq.alloc (.cells #[.int .i64 y] 3)).grownBy w6 (Value.slice oa q ocap).ownBlock := hgrow
      have BW6 : Below w1.heap.size w1 w6 := (hbl.alloc hbq _).grown hgrow2 (by simp; omega) (fun k e => (hrow.lt k e).1)
      have hg2 := (hown'.lt g2 rfl).1
      obtain ⟨BB, hBB⟩ : ∃ BB, BB = XS ++ [Rp.z y] := ⟨_, rfl⟩
      have hBBl : BB.length = q + 1 := by rw [hBB]; simp [hXM]
      have hown2 : w6.ownsRow w1.heap.size 3 1 (.slice (some ⟨g2, 0, none⟩) (q + 1) cap2) (q + 1) (rowI BB) := by
        rw [hBB, show rowI (XS ++ [Rp.z y]) = rowI XS ++ [.int .i64 y] from by simp [rowI, i64s, Rp.z]]
        exact hown'
      have hBX : Hid (∀ j, j < q → BB.getD j (0, 0) = XS.getD j (0, 0)) := hidD (fun j hj => by
        rw [hBB]
        simp [List.getD, List.getElem?_append_left (by omega : j < XS.length)])
      have HBB := hidD hBB
      have HBW6 := hidD BW6
      clear hown' hgrow hgrow2 BW6 hBB hrow hbl Qq
      go_loopw [10] (fun i wr => ∃ s : Nat, s ≤ q ∧ i = .int .i64 s ∧ (∃ ZL : List Rp.Pt, ZL.length = q + 1 ∧ Hid (∀ j, j ≤ q → ZL.getD j (0, 0) = if j ≤ s then BB.getD j (0, 0) else BB.getD (j - 1) (0, 0)) ∧ wr.ownsRow w1.heap.size 3 1 (.slice (some ⟨g2, 0, none⟩) (q + 1) cap2) (q + 1) (rowI ZL)) ∧ Hid (∀ j, s ≤ j → j < q → Rp.lt (Rp.z y) (XS.getD j (0, 0)) = true) ∧ Below w1.heap.size w1 wr) (fun i _ => (intOf i).toNat)
      case atStart => exact ⟨q, Nat.le_refl _, rfl, ⟨BB, hBBl, hidD (fun j hj => by rw [if_pos hj]), hown2⟩, hidD (fun j h1 h2 => by omega), HBW6.out⟩
      case round =>
        clear hown2
        obtain ⟨s, hs, rfl, ⟨ZL, hZl, hZL, hrw⟩, hA, hbw⟩ := hrel
        have Ql := (hbw.cell (p := ⟨lg, q, none⟩) hlg).trans Q0
        by_cases hgo : 0 < s ∧ y < (XS.getD (s - 1) (0, 0)).2
        · obtain ⟨hs0, hlt2⟩ := hgo
          obtain ⟨J, hJ⟩ : ∃ J, J = s - 1 := ⟨_, rfl⟩
          have hZJ : ZL.getD J (0, 0) = XS.getD J (0, 0) := by rw [hZL.out J (by omega), if_pos (by omega), hBX.out J (by omega)]
          have C1 : wr.cell? ⟨g2, J, none⟩ = some (.int .i64 (XS.getD J (0, 0)).2) := by
            rw [hrw.cellAt J (by omega), ← hZJ]
            exact rowI_get ZL J (by omega)
          have C3 : wr.cell? ⟨g2, s, none⟩ = some (.int .i64 (ZL.getD s (0, 0)).2) := by
            rw [hrw.cellAt s (by omega)]
            exact rowI_get ZL s (by omega)
          have F3 := hrw.frozenAt s
          have st1 := hrw.stored s (.int .i64 (XS.getD J (0, 0)).2)
          have hr2 := st1.1
          rw [← rowI_set ZL s (XS.getD J (0, 0))] at hr2
          have HR2 := hidD hr2
          have hZ2 : Hid (∀ j, j ≤ q → (ZL.set s (XS.getD J (0, 0))).getD j (0, 0) = if j ≤ J then BB.getD j (0, 0) else BB.getD (j - 1) (0, 0)) := hidD (fun j hj => by
            by_cases hjs : j = s
            · subst hjs
              rw [getD_set_same _ _ _ (by omega), if_neg (by omega), ← hJ, hBX.out J (by omega)]
            · rw [getD_set_other _ _ _ _ (Ne.symm hjs), hZL.out j hj]
              by_cases h1 : j ≤ J
              · rw [if_pos h1, if_pos (by omega)]
              · rw [if_neg h1, if_neg (by omega)])
          have HLL : Hid ((ZL.set s (XS.getD J (0, 0))).length = q + 1) := hidD (by rw [List.length_set]; exact hZl)
          have hA2 : Hid (∀ j, J ≤ j → j < q → Rp.lt (Rp.z y) (XS.getD j (0, 0)) = true) := hidD (fun j h1 h2 => by
            by_cases hj : j = J
            · subst hj
              rw [Rp.lt_z y _ (HXZ.out _ h2), decide_eq_true_iff, hJ]
              exact hlt2
            · exact hA.out j (by omega) h2)
          have HB2 := hidD (hbw.grown st1.2 hbw.size (fun k e => by cases e; exact hg2))
          rw [← hJ] at hlt2
          have i5 : (0 : Int) < (s : Int) := by omega
          have i6 : (J : Int) < ((q + 1 : Nat) : Int) := by omega
          have i7 : (s : Int) < ((q + 1 : Nat) : Int) := by omega
          have i4 : IntKind.i64.wrap ((s : Int) - 1) = (J : Int) := by rw [IntKind.wrap_i64]; omega
          have HJ := hidD hJ
          clear hJ st1 hr2 hZL hA hrw hZJ hbw
          generalize ZL.getD s (0, 0) = z at *
          generalize ZL.set s (XS.getD J (0, 0)) = ZL2 at *
          generalize XS.getD J (0, 0) = x at *
          go_wp2_with fail
          go_quiet (fail)
          go_wp2
          have hJ := HJ.out
          exact ⟨⟨J, by omega, by go_num, ⟨ZL2, HLL.out, hZ2, HR2.out⟩, hA2, belowD_drewN HB2.out _⟩, by simp [intOf]; omega⟩
        · have hat : Hid (Rp.at' XS (Rp.z y) = s) := hidD (Rp.at_is XS _ s (by omega) (fun j h1 h2 => hA.out j h1 (by omega)) (by
            by_cases h0 : s = 0
            · exact .inl h0
            · refine .inr ?_
              rw [Rp.lt_z y _ (HXZ.out _ (by omega)), decide_eq_false_iff_not]
              exact fun e => hgo ⟨by omega, e⟩))
          have C3 : wr.cell? ⟨g2, s, none⟩ = some (.int .i64 (ZL.getD s (0, 0)).2) := by
            rw [hrw.cellAt s (by omega)]
            exact rowI_get ZL s (by omega)
          have F3 := hrw.frozenAt s
          have st1 := hrw.stored s (.int .i64 y)
          have hr2 := st1.1
          rw [show (Value.int .i64 y) = .int .i64 (Rp.z y).2 from rfl, ← rowI_set ZL s (Rp.z y), shift_ins HBB.out hXM hat.out hZl hZL.out, ← HFIN.out] at hr2
          have HR2 := hidD hr2
          have HB2 := hidD (hbw.grown st1.2 hbw.size (fun k e => by cases e; exact hg2))
          have i7 : (s : Int) < ((q + 1 : Nat) : Int) := by omega
          have hst : ∀ n : Nat, ((wr.drewN n).setCell ⟨g2, s, none⟩ (.int .i64 y)).ownsRow w1.heap.size 3 1 (.slice (some ⟨g2, 0, none⟩) (q + 1) cap2) (q + 1) (rowI (Rp.all ((U.take (q + 1)).map Rp.z))) ∧ Below w1.heap.size w1 ((wr.drewN n).setCell ⟨g2, s, none⟩ (.int .i64 y)) := fun n => ⟨HR2.out, ⟨HB2.out.os, HB2.out.tape, HB2.out.output, HB2.out.size, HB2.out.block⟩⟩
          have HST := hidD hst
          go_upto_region 12 with fail
          go_cut [60] (fun b wx => b = .bool false ∧ ∃ n, wx = wr.drewN n)
          case first =>
            by_cases hs0 : 0 < s
            · obtain ⟨J, hJ⟩ : ∃ J, J = s - 1 := ⟨_, rfl⟩
              have hZJ : ZL.getD J (0, 0) = XS.getD J (0, 0) := by rw [hZL.out J (by omega), if_pos (by omega), hBX.out J (by omega)]
              have C1 : wr.cell? ⟨g2, J, none⟩ = some (.int .i64 (XS.getD J (0, 0)).2) := by
                rw [hrw.cellAt J (by omega), ← hZJ]
                exact rowI_get ZL J (by omega)
              have hng : ¬ y < (XS.getD J (0, 0)).2 := fun e => hgo ⟨hs0, by rw [← hJ]; exact e⟩
              have hd : decide (y < (XS.getD J (0, 0)).2) = false := decide_eq_false hng
              have i5 : (0 : Int) < (s : Int) := by omega
              have i6 : (J : Int) < ((q + 1 : Nat) : Int) := by omega
              have i4 : IntKind.i64.wrap ((s : Int) - 1) = (J : Int) := by rw [IntKind.wrap_i64]; omega
              have HJ := hidD hJ
              clear hJ st1 hr2 hZL hA hrw hZJ hbw hgo hst
              generalize XS.getD J (0, 0) = x at *
              go_wp2_with fail
              go_quiet (fail)
              go_wp2
              go_meet
              exact ⟨by first | rfl | (congr 1), _, rfl⟩
            · obtain rfl : s = 0 := by omega
              have hd : decide ((0 : Int) < ((0 : Nat) : Int)) = false := rfl
              clear st1 hr2 hZL hA hrw hbw hgo hst
              go_wp2_with fail
              go_quiet (fail)
              go_wp2
              go_meet
              exact ⟨by first | rfl | (congr 1), _, rfl⟩
          case rest =>
            obtain ⟨rfl, n, rfl⟩ := hcut
            have hfin := HST.out n
            clear st1 hr2 hZL hA hrw hbw hgo hst HST HR2 HB2
            generalize ZL.getD s (0, 0) = z at *
            go_wp2
            exact ⟨⟨q + 1, by omega, by go_num, hfin.1, hfin.2⟩, by simp [intOf]; omega⟩
    · obtain rfl : q = L := by omega
      have hke : U.take q = U := List.take_of_length_le (by have := HL.out; omega)
      rw [hke] at hrow
      obtain ⟨XS, hXS⟩ : ∃ XS, XS = Rp.all (U.map Rp.z) := ⟨_, rfl⟩
      rw [← hXS] at hrow
      have hXM : XS.length = q := by rw [hXS, Rp.all_length, List.length_map]; exact HL.out.symm
      have HSI : Hid (Rp.sortI U = XS.map (·.2)) := hidD (by rw [hXS]; rfl)
      obtain ⟨oa, ocap, rfl⟩ : ∃ oa ocap, u8 = .slice oa q ocap := by
        rcases hrow.2 with ⟨rfl, h0⟩ | ⟨gg, cc, cur, rfl, _⟩
        · exact ⟨none, 0, by rw [h0]⟩
        · exact ⟨_, _, rfl⟩
      obtain ⟨w4, hmk, hown4, hg4⟩ := run_make_full (P := Try.prog) wq wq.heap.size 35 3 i0 (.int .i64 0) 1 Try.underlying35 hi hz0 hz1 .i64 .i64 q (by rw [hz2]; omega) (by unfold maxLen; omega) (Nat.le_refl _)
      have hb4 : Below wq.heap.size wq w4 := (Below.refl _ _).grown hg4 (Nat.le_refl _) (fun k hk => by cases hk)
      have hzero : Hid (∀ j, j < q → (madeCells (Value.int .i64 0).cells (q * 1)).toList[j]? = some (.int .i64 0)) := hidD (fun j hj => by simp [madeCells, Value.cells, hj, Nat.mod_one])
      have BQ := hidD (Below.step HB1.out hbl)
      have HROW := hidD hrow
      have HHB4 := hidD hb4
      clear hke hXS hi hz0 hz1 hz2 hg4 hrow hb4 hbl
      go_wp2_with fail
      obtain ⟨G, hG⟩ : ∃ G, G = wq.heap.size := ⟨_, rfl⟩
      rw [← hG] at hown4 ⊢
      have HG2 := hidD hG
      clear hG hmk
      go_loopw [12] (fun i wr => ∃ k : Nat, k ≤ K ∧ i = .int .i64 k ∧ (∃ ys : List Value, wr.ownsRow G 3 1 (.slice (some ⟨G, 0, none⟩) q q) q ys ∧ Hid (∀ j, j < q → ys[j]? = some (.int .i64 (Rp.cnt r k (XS.getD j (0, 0)).2 : Nat)))) ∧ Below wq.heap.size wq wr) (fun i _ => K - (intOf i).toNat)
      case atStart => exact ⟨0, Nat.zero_le _, rfl, ⟨_, hown4, hidD (fun j hj => by rw [hzero.out j hj]; rfl)⟩, HHB4.out⟩
      case round =>
        clear hown4
        obtain ⟨k, hk, rfl, ⟨ys, hys, HY⟩, hbl⟩ := hrel
        obtain ⟨wo, rfl⟩ : ∃ wo, wo = wr := ⟨_, rfl⟩
        by_cases hlt : k < K
        · have cI := rints1 2 (k : Int) wo (by decide)
          obtain ⟨o, ho⟩ : ∃ o, o = Rp.owner r (Rp.key k) := ⟨_, rfl⟩
          have hkey : Rp.key k = ((Hp.ints 2 [(k : Int)] : Nat) : Int) := rfl
          have HO := hidD ho
          rw [hkey] at HO
          have HC1 : Hid (∀ y, Rp.cnt r (k + 1) y = Rp.cnt r k y + if o = y then 1 else 0) := hidD (fun y => by rw [ho]; exact Rp.cnt_succ r k y)
          have HCle := hidD (fun y => Rp.cnt_le r k y)
          have HBL := hidD hbl
          have HYS := hidD hys
          clear hkey ho hys hbl
          generalize Hp.ints 2 [(k : Int)] = hh at *
          have HFI := hidD (Rp.from_is r (hh : Int))
          go_wp2_with fail
          refine cI.mono ?_
          rintro e w5 ⟨rfl, b5⟩
          have hys5 := own_below HYS.out b5
          have hb5 : Below wq.heap.size wq w5 := Below.step HBL.out b5
          obtain ⟨ra', rcap', e1, _, _, h3, h4⟩ := id HV.out
          rw [← HN.out] at e1
          cases e1
          obtain ⟨g, off, rfl, hg0, hcell0⟩ := pseg_at (l := r) (by have := HN.out; omega) h3 h4
          have hbz5 := Below.step BQ.out hb5
          have hgw : g < wq.heap.size := Nat.lt_of_lt_of_le hg0 BQ.out.size
          have hcell : ∀ i, i < r.length → w5.cell? ⟨g, off + i * 2, none⟩ = some (.int .u64 (r.getD i (0, 0)).1) ∧ w5.cell? ⟨g, off + i * 2 + 1, none⟩ = some (.int .i64 (r.getD i (0, 0)).2) := fun i hi => ⟨(hbz5.cell (p := ⟨g, off + i * 2, none⟩) hg0).trans (hcell0 i hi).1, (hbz5.cell (p := ⟨g, off + i * 2 + 1, none⟩) hg0).trans (hcell0 i hi).2⟩
          clear hcell0 hbz5
          have HC := hidD hcell
          have HYS5 := hidD hys5
          have HB5 := hidD hb5
          clear cI b5 h3 h4 hcell hys5 hb5
          go_wp2_with fail
          go_loopw [14] (fun i wr => ∃ m : Nat, m ≤ N ∧ i = .int .i64 m ∧ Hid (∀ j, j < m → (r.getD j (0, 0)).1 < (hh : Int)) ∧ w5 = wr) (fun i _ => N - (intOf i).toNat)
          case atStart => exact ⟨0, Nat.zero_le _, rfl, hidD (fun j hj => by omega), rfl⟩
          case round =>
            obtain ⟨m, hm, rfl, hA, rfl⟩ := hrel
            by_cases hgo : m < N ∧ (r.getD m (0, 0)).1 < (hh : Int)
            · obtain ⟨hltm, hlh⟩ := hgo
              have Q1 := (HC.out m (by have := HN.out; omega)).1
              have hA2 : Hid (∀ j, j < m + 1 → (r.getD j (0, 0)).1 < (hh : Int)) := hidD (fun j hj => by
                by_cases hjk : j = m
                · subst hjk; exact hlh
                · exact hA.out j (by omega))
              have i1 : (m : Int) < (N : Int) := by omega
              clear hA
              generalize (r.getD m (0, 0)).1 = y at *
              go_wp2
              exact ⟨⟨m + 1, by omega, by go_num, hA2, (by first | rfl | trivial)⟩, by simp [intOf]; omega⟩
            · have hfrom : Hid (Rp.from' r (hh : Int) = m) := hidD (HFI.out m (by have := HN.out; omega) (fun j hj => hA.out j hj) (by
                by_cases hkN : m = N
                · exact .inl (by rw [← HN.out]; exact hkN)
                · exact .inr (Int.not_lt.1 (fun e => hgo ⟨by omega, e⟩))))
              go_upto_region 22 with fail
              go_cut [101] (fun b wx => b = .bool false ∧ w5 = wx)
              case first =>
                by_cases hkn : m < N
                · have hnl : ¬ (r.getD m (0, 0)).1 < (hh : Int) := fun e => hgo ⟨hkn, e⟩
                  have Q1 := (HC.out m (by have := HN.out; omega)).1
                  have i1 : (m : Int) < (N : Int) := by omega
                  have hd : decide ((r.getD m (0, 0)).1 < (hh : Int)) = false := decide_eq_false hnl
                  clear hA hgo
                  generalize (r.getD m (0, 0)).1 = y at *
                  go_wp2
                  go_meet
                  exact ⟨by first | rfl | (congr 1) | simp [hd], rfl⟩
                · go_wp2
                  go_meet
                  exact ⟨by first | rfl | (congr 1; exact decide_eq_false (by omega)), rfl⟩
              case rest =>
                obtain ⟨rfl, hwc⟩ := hcut
                subst hwc
                clear hgo hA
                obtain ⟨P, hP⟩ : ∃ P, P = m % N := ⟨_, rfl⟩
                have hPN : P < N := by rw [hP]; exact Nat.mod_lt _ hr0
                have hoP : Hid (o = (r.getD P (0, 0)).2) := hidD (by
                  rw [HO.out, hP]
                  unfold Rp.owner Rp.place
                  rw [hfrom.out, ← HN.out])
                have hrem : Int.tmod (m : Int) (N : Int) = (P : Int) := by rw [Int.tmod_eq_emod_of_nonneg (by omega), hP]; rfl
                have QP := (HC.out P (by have := HN.out; omega)).2
                rw [← hoP.out] at QP
                have hne : (N : Int) ≠ 0 := by omega
                have iP : (P : Int) < (N : Int) := by omega
                clear hP
                go_wp2_with fail
                go_loopw [15] (fun i wr => ∃ t : Nat, t ≤ q ∧ i = .int .i64 t ∧ (∃ ys2 : List Value, wr.ownsRow G 3 1 (.slice (some ⟨G, 0, none⟩) q q) q ys2 ∧ Hid (∀ j, j < q → ys2[j]? = some (.int .i64 (Rp.cnt r (if j < t then k + 1 else k) (XS.getD j (0, 0)).2 : Nat)))) ∧ Below wq.heap.size wq wr ∧ (∀ v, w5.cell? ⟨g, off + P * 2 + 1, none⟩ = some v → wr.cell? ⟨g, off + P * 2 + 1, none⟩ = some v)) (fun i _ => q - (intOf i).toNat)
                case atStart => exact ⟨0, Nat.zero_le _, rfl, ⟨ys, HYS5.out, hidD (fun j hj => by rw [if_neg (by omega)]; exact HY.out j hj)⟩, HB5.out, fun v h => h⟩
                case round =>
                  obtain ⟨t, ht, rfl, ⟨ys2, hy2, HY2⟩, hb7, hcP⟩ := hrel
                  by_cases hltt : t < q
                  · have rowz := own_below HROW.out hb7
                    obtain ⟨og, rfl⟩ : ∃ og, oa = some ⟨og, 0, none⟩ := by
                      rcases rowz.2 with ⟨e, h0⟩ | ⟨gg, cc, cur, e, _⟩
                      · omega
                      · cases e; exact ⟨gg, rfl⟩
                    have hogG : og < G := by rw [HG2.out]; exact (HROW.out.lt og rfl).2
                    have Q1 : wr.cell? ⟨og, t, none⟩ = some (.int .i64 (XS.getD t (0, 0)).2) := by
                      rw [rowz.cellAt t (by omega)]
                      exact rowI_get XS t (by omega)
                    have QP2 := hcP _ QP
                    have hyl : ys2.length = q := by have := hy2.1; omega
                    obtain ⟨C, hC⟩ : ∃ C, C = Rp.cnt r k (XS.getD t (0, 0)).2 := ⟨_, rfl⟩
                    have Q2 : wr.cell? ⟨G, t, none⟩ = some (.int .i64 (C : Int)) := by
                      rw [hy2.cellAt t (by omega), HY2.out t hltt, if_neg (by omega), hC]
                    have hf := hy2.frozenAt t
                    have hCk : C ≤ k := by rw [hC]; exact HCle.out _
                    have hw1 : IntKind.i64.wrap ((C : Int) + 1) = ((C + 1 : Nat) : Int) := by rw [IntKind.wrap_i64]; omega
                    have i1 : (t : Int) < (q : Int) := by omega
                    have HB7 := hidD hb7
                    have HCP := hidD hcP
                    by_cases hox : (XS.getD t (0, 0)).2 = o
                    · have hst := hy2.stored t (.int .i64 ((C + 1 : Nat) : Int))
                      have HO2 := hidD hst.1
                      have hb8 := hidD (hb7.grown hst.2 hb7.size (fun j e => by cases e; rw [← HG2.out]; exact Nat.le_refl _))
                      have HGP : Hid (g ≠ G) := hidD (by have h9 := hgw; have := HG2.out; omega)
                      have HCP2 : Hid (∀ v, w5.cell? ⟨g, off + P * 2 + 1, none⟩ = some v → (wr.setCell ⟨G, t, none⟩ (.int .i64 ((C + 1 : Nat) : Int))).cell? ⟨g, off + P * 2 + 1, none⟩ = some v) := hidD (fun v h => by
                        rw [World.cell?_of_block (hst.2.block g (World.block_lt_of_cell? wr _ (HCP.out v h)) (fun e => HGP.out (by cases e; rfl)))]
                        exact HCP.out v h)
                      have HY3 : Hid (∀ j, j < q → (ys2.set t (.int .i64 ((C + 1 : Nat) : Int)))[j]? = some (.int .i64 (Rp.cnt r (if j < t + 1 then k + 1 else k) (XS.getD j (0, 0)).2 : Nat))) := hidD (fun j hj => by
                        by_cases hjq : j = t
                        · subst hjq
                          rw [List.getElem?_set_self (by omega), if_pos (by omega), HC1.out, if_pos hox.symm, hC]
                        · rw [List.getElem?_set_ne (by omega), HY2.out j hj]
                          by_cases h9 : j < t
                          · rw [if_pos h9, if_pos (by omega)]
                          · rw [if_neg h9, if_neg (by omega)])
                      have hb' : ((XS.getD t (0, 0)).2 == o) = true := by simpa using hox
                      clear hst hy2 HY2 hC hyl hb7 hox hcP rowz
                      generalize (XS.getD t (0, 0)).2 = y at *
                      go_wp2_with fail
                      go_quiet (fail)
                      go_wp2
                      exact ⟨⟨t + 1, by omega, by go_num, ⟨_, HO2.out, HY3⟩, belowD_drewN hb8.out _, HCP2.out⟩, by simp [intOf]; omega⟩
                    · have HY3 : Hid (∀ j, j < q → ys2[j]? = some (.int .i64 (Rp.cnt r (if j < t + 1 then k + 1 else k) (XS.getD j (0, 0)).2 : Nat))) := hidD (fun j hj => by
                        rw [HY2.out j hj]
                        by_cases hjq : j = t
                        · subst hjq
                          rw [if_neg (by omega), if_pos (by omega), HC1.out, if_neg (fun e => hox e.symm)]
                          rfl
                        · by_cases h9 : j < t
                          · rw [if_pos h9, if_pos (by omega)]
                          · rw [if_neg h9, if_neg (by omega)])
                      have hb' : ((XS.getD t (0, 0)).2 == o) = false := by simpa using hox
                      have HO2 := hidD hy2
                      clear hy2 HY2 hC hyl hb7 hox hcP rowz
                      generalize (XS.getD t (0, 0)).2 = y at *
                      go_wp2_with fail
                      go_quiet (fail)
                      go_wp2
                      exact ⟨⟨t + 1, by omega, by go_num, ⟨_, HO2.out, HY3⟩, belowD_drewN HB7.out _, HCP.out⟩, by simp [intOf]; omega⟩
                  · have HY3 : Hid (∀ j, j < q → ys2[j]? = some (.int .i64 (Rp.cnt r (k + 1) (XS.getD j (0, 0)).2 : Nat))) := hidD (fun j hj => by
                      rw [HY2.out j hj, if_pos (by omega)])
                    have HO2 := hidD hy2
                    clear hy2 HY2 hcP
                    go_wp2
                    exact ⟨⟨k + 1, by omega, by go_num, ⟨_, HO2.out, HY3⟩, hb7⟩, by simp [intOf]; omega⟩
        · obtain rfl : k = K := by omega
          have hyl : ys.length = q := by have := hys.1; omega
          have hye : ys = i64s ((Rp.sortI U).map fun y => (Rp.cnt r k y : Int)) := by
            rw [HSI.out, List.map_map]
            apply List.ext_getElem?
            intro j
            by_cases hj : j < q
            · rw [HY.out j hj]
              have hjl : j < XS.length := by omega
              simp [hjl]
            · rw [List.getElem?_eq_none (by omega), List.getElem?_eq_none (by simp; omega)]
          have hfl : ((Rp.sortI U).map fun y => (Rp.cnt r k y : Int)).length = q := by rw [HSI.out]; simp [hXM]
          have hseg : Seg .i64 wo (.slice (some ⟨G, 0, none⟩) q q) ((Rp.sortI U).map fun y => (Rp.cnt r k y : Int)) := by
            refine Seg.own (e := 3) (B := G) ?_
            rw [hfl]
            rw [hye] at hys
            exact hys
          have HSEG := hidD hseg
          have HBZ := hidD (Below.step BQ.out hbl)
          clear hye hfl hseg hys HY hyl hbl
          go_wp2
          refine bodyPost_ret (results_tmp2 rfl _ _ _) rfl ?_
          exact ⟨_, rfl, HSEG.out, HBZ.out⟩
end Go.Proofs.Ytekmcooghkchpaa
