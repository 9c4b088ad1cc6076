/- subset: Counts. -/
import Derived.Test.YtdgdhhbapgfjgaaSB
namespace Go.Proofs.Ytdgdhhbapgfjgaa
open Go.RowKit
set_option linter.unusedVariables false

set_option maxRecDepth 20000 in
set_option maxHeartbeats 4000000 in
theorem counts_v (v : Value) (ids : List Int) (m : Nat) (k : Int) (s : Nat) (w : World) (P : Nat → List Int) (EE : Nat → Int) (X : List Int) (hs : Seg .i64 w v ids) (hn : ids.length ≤ 32) (hm : m ≤ 256) (hP : ∀ c, (P c).length ≤ 32) (hPm : ∀ c, ∀ z ∈ P c, 0 ≤ z ∧ z < ids.length)
    (C1 : Calls Try.prog 10 #[v, .int .i64 0, .int .i64 k, .int .u64 s] w fun e w' => ∃ v', e = .returned (.tuple #[v', .int .i64 0]) ∧ Seg .i64 w' v' X ∧ Below w.heap.size w w')
    (C2 : ∀ (c : Nat) (w : World), Calls Try.prog 23 #[.int .i64 (ids.length : Nat), .int .i64 c, .int .i64 k, .int .u64 s] w fun e w' => ∃ v', e = .returned (.tuple #[v', .int .i64 (EE c)]) ∧ Seg .i64 w' v' (P c) ∧ Below w.heap.size w w' ∧ FreshS w.heap.size v') :
    Calls Try.prog 14 #[v, .int .i64 m, .int .i64 k, .int .u64 s] w fun e w' => ∃ v', e = .returned (.tuple #[v', .int .i64 0]) ∧ Seg .i64 w' v' ((List.range ids.length).map fun i => (Sp.cn P m i : Int)) ∧ Below w.heap.size w w' := by
  obtain ⟨a, cap, rfl, h1, h2, _, _⟩ := hs
  unfold maxLen at h2
  obtain ⟨N, hN⟩ : ∃ N, N = ids.length := ⟨_, rfl⟩
  rw [← hN] at h1 hn C1 C2 hPm ⊢
  have HP := hidD hP
  have HPM := hidD hPm
  have HCL := hidD (fun q j => Sp.cn_le hP q j)
  clear hN hPm hP
  obtain ⟨i0, hi, hz0, hz1, hz2⟩ := info_parts Try.info3
  have cm : ¬ (m : Int) < 0 := by omega
  have cm2 : ¬ (256 : Int) < (m : Int) := by omega
  go_enter Try.func14, Try.ntmps14
  go_wp2_with fail
  with_reducible refine C1.mono ?_
  rintro e w2 ⟨v2, rfl, _, b2⟩
  clear C1
  obtain ⟨w3, hmk, hown3, hg3⟩ := run_make_full (P := Try.prog) w2 w2.heap.size 22 3 i0 (.int .i64 0) 1 Try.underlying22 hi hz0 hz1 .i64 .i64 N (by rw [hz2]; omega) (by unfold maxLen; omega) (Nat.le_refl _)
  have b3 : Below w2.heap.size w2 w3 := (Below.refl _ _).grown hg3 (Nat.le_refl _) (fun k hk => by cases hk)
  have hzero : Hid (∀ j, j < N → (madeCells (Value.int .i64 0).cells (N * 1)).toList[j]? = some (.int .i64 0)) := hidD (fun j hj => by simp [madeCells, Value.cells, hj, Nat.mod_one])
  have hsz2 := b2.size
  clear hg3 hz0 hz1 hz2 hi
  obtain ⟨G, hG⟩ : ∃ G, G = w2.heap.size := ⟨_, rfl⟩
  have HG := hidD hG
  rw [← hG] at hown3 b3 hsz2 hmk
  go_wp2
  rw [← HG.out]
  clear hG
  go_loopw [38] (fun i wr => ∃ (q : Nat) (ys : List Value), q ≤ m ∧ i = .int .i64 q ∧ wr.ownsRow G 3 1 (.slice (some ⟨G, 0, none⟩) N N) N ys ∧ Hid (∀ j, j < N → ys[j]? = some (.int .i64 (Sp.cn P q j : Nat))) ∧ Below G w2 wr) (fun i _ => m - (intOf i).toNat)
  case atStart => exact ⟨0, _, Nat.zero_le _, rfl, hown3, hidD (fun j hj => by rw [hzero.out j hj]; rfl), b3⟩
  case round =>
    clear hown3 b3 hmk hzero
    obtain ⟨q, ys, hq, rfl, hr, HY, hbel⟩ := hrel
    obtain ⟨wo, rfl⟩ : ∃ wo, wo = wr := ⟨_, rfl⟩
    by_cases hlt : q < m
    · have i1 : (q : Int) < (m : Int) := by omega
      have HR := hidD hr
      have HBL := hidD hbel
      have c2 := C2 q wo
      clear hr hbel
      go_wp2_with fail
      with_reducible refine c2.mono ?_
      rintro e w5 ⟨v5, rfl, hs5, b5, f5⟩
      have hr5 := own_below HR.out b5
      have hG5 : G ≤ wo.heap.size := by have := HBL.out.size; have := HG.out; omega
      have hB5 : Below G w2 w5 := HBL.out.trans (b5.mono hG5)
      have HS5 := hidD hs5
      obtain ⟨a5, cap5, rfl, h51, h52, _, _⟩ := hs5
      unfold maxLen at h52
      obtain ⟨M, hM⟩ : ∃ M, M = (P q).length := ⟨_, rfl⟩
      rw [← hM] at h51 HS5 ⊢
      have HM := hidD hM
      have hM32 : M ≤ 32 := by rw [hM]; exact HP.out q
      have hGw : G < wo.heap.size := (HR.out.lt G rfl).2
      have HW5 : Hid (Below wo.heap.size wo w5) := hidD b5
      have HF5 : Hid (∀ x, a5 = some x → wo.heap.size ≤ x.block) := hidD (fun x h => f5 x _ _ (by rw [h]))
      clear c2 hM b5 f5
      have HR5 := hidD hr5
      have HB5 := hidD hB5
      clear hr5 hB5
      go_wp2_with fail
      go_loopw [52] (fun i wr => ∃ (t : Nat) (ys2 : List Value), t ≤ M ∧ i = .int .i64 t ∧ wr.ownsRow G 3 1 (.slice (some ⟨G, 0, none⟩) N N) N ys2 ∧ Hid (∀ j, j < N → ys2[j]? = some (.int .i64 (Sp.cn P q j + ((P q).take t).count (j : Int) : Nat))) ∧ Below G w2 wr ∧ Hid (w5.grownBy wr (some G))) (fun i _ => M - (intOf i).toNat)
      case atStart => exact ⟨0, ys, Nat.zero_le _, rfl, HR5.out, hidD (fun j hj => by rw [HY.out j hj]; simp), HB5.out, hidD ⟨rfl, rfl, rfl, Nat.le_refl _, fun _ _ _ => rfl⟩⟩
      case round =>
        obtain ⟨t, ys2, ht, rfl, hy2, HY2, hb7, HG7⟩ := hrel
        by_cases hltt : t < M
        · have tl : t < (P q).length := by have := HM.out; omega
          have hmem := HPM.out q ((P q).getD t 0) (by rw [dgetD_at tl]; exact List.getElem_mem _)
          obtain ⟨p, hp⟩ := Int.eq_ofNat_of_zero_le hmem.1
          have hpN : p < N := by omega
          obtain ⟨b9, o9, rfl, hb9, Q9⟩ := HS5.out.atD t tl
          have hb9G : b9 ≠ G := by have := HF5.out _ rfl; simp at this; omega
          have Q9' : wr.cell? ⟨b9, o9 + t, none⟩ = some (.int .i64 (p : Nat)) := by
            rw [World.cell?_of_block (HG7.out.block b9 hb9 (fun e => hb9G (by cases e; rfl))), Q9, hp]
          have hyl : ys2.length = N := by have := hy2.1; omega
          obtain ⟨C, hC⟩ : ∃ C, C = Sp.cn P q p + ((P q).take t).count (p : Int) := ⟨_, rfl⟩
          have hC8 : C ≤ 9000 := by
            have e1 := HCL.out q p
            have e2 := Sp.count_take_le (P q) t (p : Int)
            have e3 := HP.out q
            omega
          have Q2 : wr.cell? ⟨G, p, none⟩ = some (.int .i64 (C : Nat)) := by
            rw [hy2.cellAt p (by omega), HY2.out p hpN, hC]
          have hf := hy2.frozenAt p
          have hw1 : IntKind.i64.wrap ((C : Int) + 1) = ((C + 1 : Nat) : Int) := by rw [IntKind.wrap_i64]; omega
          have hst := hy2.stored p (.int .i64 ((C + 1 : Nat) : Int))
          have HO2 := hidD hst.1
          have HB8 := hidD (hb7.grown hst.2 (by have := hb7.size; have := HG.out; omega) (fun j e => by cases e; exact Nat.le_refl _))
          have HG8 : Hid (w5.grownBy (wr.setCell ⟨G, p, none⟩ (.int .i64 ((C + 1 : Nat) : Int))) (some G)) := hidD (grown_trans HG7.out hst.2)
          have HY3 : Hid (∀ j, j < N → (ys2.set p (.int .i64 ((C + 1 : Nat) : Int)))[j]? = some (.int .i64 (Sp.cn P q j + ((P q).take (t + 1)).count (j : Int) : Nat))) := hidD (fun j hj => by
            rw [Sp.count_next tl, hp]
            by_cases hjp : j = p
            · subst hjp
              rw [List.getElem?_set_self (by omega), if_pos rfl, hC, Nat.add_assoc]
            · rw [List.getElem?_set_ne (by omega), HY2.out j hj, if_neg (by intro e; exact hjp (Int.ofNat.inj e).symm), Nat.add_zero])
          have i2 : (t : Int) < (M : Int) := by omega
          have i3 : (p : Int) < (N : Int) := by omega
          clear hst hy2 HY2 hC hyl hb7 tl hmem hp Q9 HG7
          go_wp2
          exact ⟨⟨t + 1, _, by omega, by go_num, HO2.out, HY3, HB8.out, HG8⟩, by simp [intOf]; omega⟩
        · have HY3 : Hid (∀ j, j < N → ys2[j]? = some (.int .i64 (Sp.cn P (q + 1) j : Nat))) := hidD (fun j hj => by
            rw [HY2.out j hj, List.take_of_length_le (by have := HM.out; omega), Sp.cn_succ])
          have HO2 := hidD hy2
          have HB7 := hidD hb7
          clear hy2 HY2 hb7
          go_wp2
          exact ⟨⟨q + 1, _, by omega, by go_num, HO2.out, HY3, HB7.out⟩, by simp [intOf]; omega⟩
    · obtain rfl : q = m := by omega
      have hyl : ys.length = N := by have := hr.1; omega
      have hye : ys = i64s ((List.range N).map fun i => (Sp.cn P q i : Int)) := by
        apply List.ext_getElem?
        intro j
        by_cases hj : j < N
        · rw [HY.out j hj]; simp [hj]
        · rw [List.getElem?_eq_none (by omega), List.getElem?_eq_none (by simp; omega)]
      have hfl : ((List.range N).map fun i => (Sp.cn P q i : Int)).length = N := by simp
      have hseg : Seg .i64 wo (.slice (some ⟨G, 0, none⟩) N N) ((List.range N).map fun i => (Sp.cn P q i : Int)) := by
        refine Seg.own (e := 3) (B := G) ?_
        rw [hfl]
        rw [hye] at hr
        exact hr
      have HSEG := hidD hseg
      have HBZ := hidD (Below.step b2 (show Below w2.heap.size w2 wo by rw [← HG.out]; exact hbel))
      clear hye hfl hseg hr HY hyl hbel
      go_wp2
      go_ret2
      exact ⟨_, rfl, HSEG.out, HBZ.out⟩

/-- What Counts answers. -/
theorem counts_any (v : Value) (ids : List Int) (m k : Int) (s : Nat) (w : World) (hs : Seg .i64 w v ids) (hx : s < 18446744073709551616) :
    Calls Try.prog 14 #[v, .int .i64 m, .int .i64 k, .int .u64 s] w fun e w' => ∃ v', e = .returned (.tuple #[v', .int .i64 (Sp.cntE ids m k)]) ∧ Seg .i64 w' v' (Sp.cntL ids m k s) ∧ Below w.heap.size w w' := by
  have c1 := of_any v ids 0 k s w hs hx
  by_cases hE : Sp.ofE ids 0 k = 0
  · by_cases hm : m < 0 ∨ 256 < m
    · have hC : Sp.cntE ids m k = 4 := by unfold Sp.cntE; rw [if_neg (by simp [hE]), if_pos hm]
      have hL : Sp.cntL ids m k s = [] := by unfold Sp.cntL; rw [hC]; rfl
      rw [hC, hL]
      rw [hE] at c1
      generalize Sp.ofL ids 0 k s = X at *
      clear hC hL hE hs
      by_cases h1 : m < 0
      · go_enter Try.func14, Try.ntmps14
        go_wp2_with fail
        with_reducible refine c1.mono ?_
        rintro e w2 ⟨v2, rfl, _, b2⟩
        go_wp2
        go_ret2
        exact ⟨_, rfl, Seg.nil _ _, b2⟩
      · have h2 : 256 < m := by omega
        clear hm
        go_enter Try.func14, Try.ntmps14
        go_wp2_with fail
        with_reducible refine c1.mono ?_
        rintro e w2 ⟨v2, rfl, _, b2⟩
        go_wp2
        go_ret2
        exact ⟨_, rfl, Seg.nil _ _, b2⟩
    · have hC : Sp.cntE ids m k = 0 := by unfold Sp.cntE; rw [if_neg (by simp [hE]), if_neg hm]
      obtain ⟨M, rfl⟩ := Int.eq_ofNat_of_zero_le (show 0 ≤ m by omega)
      have hL : Sp.cntL ids M k s = (List.range ids.length).map fun i => (Sp.cn (fun c => Sp.plc ids.length c k s) M i : Int) := by
        unfold Sp.cntL; rw [if_pos hC]; rfl
      obtain ⟨h1, h2⟩ := Sp.of_zero hE
      obtain ⟨u1, u2, u3⟩ := Sp.ch_up h1
      rw [hC, hL]
      rw [hE] at c1
      refine counts_v v ids M k s w (fun c => Sp.plc ids.length c k s) (fun c => Sp.rE ids.length c k) _ hs u1 (by omega) (fun c => ?_) (fun c z hz => Sp.plc_mem hz) c1 (fun c w => places_new _ _ _ _ _ hx)
      by_cases hr : Sp.rE ids.length c k = 0
      · rw [Sp.plc_length s hr]; omega
      · unfold Sp.plc; rw [if_neg hr]; simp
  · have hC : Sp.cntE ids m k = Sp.ofE ids 0 k := by unfold Sp.cntE; rw [if_pos hE]
    have hL : Sp.cntL ids m k s = [] := by unfold Sp.cntL; rw [hC, if_neg hE]
    rw [hC, hL]
    generalize Sp.ofE ids 0 k = E at *
    generalize Sp.ofL ids 0 k s = X at *
    clear hC hL hs
    go_enter Try.func14, Try.ntmps14
    go_wp2_with fail
    with_reducible refine c1.mono ?_
    rintro e w2 ⟨v2, rfl, _, b2⟩
    go_wp2
    go_ret2
    exact ⟨_, rfl, Seg.nil _ _, b2⟩
end Go.Proofs.Ytdgdhhbapgfjgaa
