/- subset: the reference's Counts. -/
import Derived.Test.YtdgdhhbapgfjgaaSR4
import Derived.Test.YtdgdhhbapgfjgaaSEp
namespace Go.Proofs.Ytdgdhhbapgfjgaa
open Go.RowKit
set_option linter.unusedVariables false

set_option maxRecDepth 20000 in
set_option maxHeartbeats 4000000 in
theorem rcounts_v (v : Value) (ids : List Int) (m : Nat) (k : Int) (s : Nat) (w : World) (P Q : Nat → List Int) (EE : Nat → Int) (hs : Seg .i64 w v ids) (hn : ids.length ≤ 32) (hm : m ≤ 256) (hP : ∀ c, (P c).length ≤ 32) (hPQ : ∀ c i : Nat, c < m → i < ids.length → (P c).count (i : Int) = if ids.getD i 0 ∈ Q c then 1 else 0) (hE0 : EE 0 = 0)
    (C2 : ∀ (c : Nat) (w : World), Seg .i64 w v ids → Calls Try.prog 11 #[v, .int .i64 c, .int .i64 k, .int .u64 s] w fun e w' => ∃ v', e = .returned (.tuple #[v', .int .i64 (EE c)]) ∧ Seg .i64 w' v' (Q c) ∧ Below w.heap.size w w' ∧ FreshS w.heap.size v') :
    Calls Try.prog 15 #[v, .int .i64 m, .int .i64 k, .int .u64 s] w fun e w' => ∃ v', e = .returned (.tuple #[v', .int .i64 0]) ∧ Seg .i64 w' v' ((List.range ids.length).map fun i => (Sp.cn P m i : Int)) ∧ Below w.heap.size w w' := by
  have C1 := C2 0 w hs
  rw [hE0] at C1
  have HS := hidD hs
  obtain ⟨a, cap, rfl, h1, h2, _, _⟩ := hs
  unfold maxLen at h2
  obtain ⟨N, hN⟩ : ∃ N, N = ids.length := ⟨_, rfl⟩
  rw [← hN] at h1 hn C1 C2 hPQ HS ⊢
  have HNL := hidD hN
  have HP := hidD hP
  have HPQ := hidD hPQ
  have HC2 := hidD C2
  have HCL := hidD (fun q j => Sp.cn_le hP q j)
  clear hN hPQ hP hE0 C2
  obtain ⟨i0, hi, hz0, hz1, hz2⟩ := info_parts Try.info3
  have cm : ¬ (m : Int) < 0 := by omega
  have cm2 : ¬ (256 : Int) < (m : Int) := by omega
  go_enter Try.func15, Try.ntmps15
  go_wp2_with fail
  refine C1.mono ?_
  rintro e w2 ⟨v2, rfl, _, b2, _⟩
  clear C1
  obtain ⟨w3, hmk, hown3, hg3⟩ := run_make_full (P := Try.prog) w2 w2.heap.size 22 3 i0 (.int .i64 0) 1 Try.underlying22 hi hz0 hz1 .i64 .i64 N (by rw [hz2]; omega) (by unfold maxLen; omega) (Nat.le_refl _)
  have b3 : Below w2.heap.size w2 w3 := (Below.refl _ _).grown hg3 (Nat.le_refl _) (fun k hk => by cases hk)
  have hzero : Hid (∀ j, j < N → (madeCells (Value.int .i64 0).cells (N * 1)).toList[j]? = some (.int .i64 0)) := hidD (fun j hj => by simp [madeCells, Value.cells, hj, Nat.mod_one])
  have hsz2 := b2.size
  have HS2 := hidD (HS.out.below b2)
  have HB2 := hidD b2
  clear hg3 hz0 hz1 hz2 hi b2
  obtain ⟨G, hG⟩ : ∃ G, G = w2.heap.size := ⟨_, rfl⟩
  have HG := hidD hG
  rw [← hG] at hown3 b3 hsz2 hmk
  go_wp2
  rw [← HG.out]
  clear hG
  go_loopw [13] (fun i wr => ∃ (q : Nat) (ys : List Value), q ≤ m ∧ i = .int .i64 q ∧ wr.ownsRow G 3 1 (.slice (some ⟨G, 0, none⟩) N N) N ys ∧ Hid (∀ j, j < N → ys[j]? = some (.int .i64 (Sp.cn P q j : Nat))) ∧ Below G w2 wr) (fun i _ => m - (intOf i).toNat)
  case atStart => exact ⟨0, _, Nat.zero_le _, rfl, hown3, hidD (fun j hj => by rw [hzero.out j hj]; rfl), b3⟩
  case round =>
    clear hown3 b3 hmk hzero
    obtain ⟨q, ys, hq, rfl, hr, HY, hbel⟩ := hrel
    obtain ⟨wo, rfl⟩ : ∃ wo, wo = wr := ⟨_, rfl⟩
    have hbel2 : Below w2.heap.size w2 wo := by rw [← HG.out]; exact hbel
    by_cases hlt : q < m
    · have i1 : (q : Int) < (m : Int) := by omega
      have HR := hidD hr
      have HBL := hidD hbel
      have HSo := HS2.out.below hbel2
      have c2 := HC2.out q wo HSo
      clear hr hbel
      go_wp2_with fail
      with_reducible refine c2.mono ?_
      rintro e w5 ⟨v5, rfl, hs5, b5, f5⟩
      have hr5 := own_below HR.out b5
      have hG5 : G ≤ wo.heap.size := by have := HBL.out.size; have := HG.out; omega
      have hB5 : Below G w2 w5 := HBL.out.trans (b5.mono hG5)
      have HS5 := hidD hs5
      obtain ⟨a5, cap5, rfl, h51, h52, _, _⟩ := hs5
      unfold maxLen at h52
      have hGw : G < wo.heap.size := (HR.out.lt G rfl).2
      have HF5 : Hid (∀ x, a5 = some x → x.block ≠ G) := hidD (fun x h => by have := f5 x _ _ (by rw [h]); omega)
      have HR5 := hidD hr5
      have HB5 := hidD hB5
      clear c2 b5 f5 hr5 hB5 HSo hbel2
      generalize (Q q).length = M5 at *
      go_wp2_with fail
      go_loopw [16] (fun i wr => ∃ (t : Nat) (ys2 : List Value), t ≤ N ∧ i = .int .i64 t ∧ wr.ownsRow G 3 1 (.slice (some ⟨G, 0, none⟩) N N) N ys2 ∧ Hid (∀ j, j < N → ys2[j]? = some (.int .i64 (Sp.cn P (if j < t then q + 1 else q) j : Nat))) ∧ Below G w2 wr ∧ Hid (Seg .i64 wr (.slice a5 M5 cap5) (Q q))) (fun i _ => N - (intOf i).toNat)
      case atStart => exact ⟨0, ys, Nat.zero_le _, rfl, HR5.out, hidD (fun j hj => by rw [HY.out j hj, if_neg (by omega)]), HB5.out, HS5⟩
      case round =>
        obtain ⟨t, ys2, ht, rfl, hy2, HY2, hb7, HS7⟩ := hrel
        by_cases hltt : t < N
        · have hb72 : Below w2.heap.size w2 wr := by rw [← HG.out]; exact hb7
          obtain ⟨b9, o9, rfl, hb9, Q9⟩ := (HS2.out.below hb72).atD t (by have := HNL.out; omega)
          have ch := rhas_any _ (Q q) (ids.getD t 0) wr HS7.out
          have hyl : ys2.length = N := by have := hy2.1; omega
          obtain ⟨C, hC⟩ : ∃ C, C = Sp.cn P q t := ⟨_, rfl⟩
          have hC8 : C ≤ 9000 := by have e1 := HCL.out q t; omega
          have hcnt := HPQ.out q t hlt hltt
          have hs1 := Sp.cn_succ P q t
          have i2 : (t : Int) < (N : Int) := by omega
          by_cases hin : ids.getD t 0 ∈ Q q
          · rw [decide_eq_true hin] at ch
            rw [if_pos hin] at hcnt
            have Q2 : wr.cell? ⟨G, t, none⟩ = some (.int .i64 (C : Nat)) := by
              rw [hy2.cellAt t (by omega), HY2.out t hltt, if_neg (by omega), hC]
            have hf := hy2.frozenAt t
            have hw1 : IntKind.i64.wrap ((C : Int) + 1) = ((C + 1 : Nat) : Int) := by rw [IntKind.wrap_i64]; omega
            have hst := hy2.stored t (.int .i64 ((C + 1 : Nat) : Int))
            have HO2 := hidD hst.1
            have HB8 := hidD (hb7.grown hst.2 (by have := hb7.size; have := HG.out; omega) (fun j e => by cases e; exact Nat.le_refl _))
            have HS8 := hidD (Seg.apart HS7.out hst.2 HF5.out)
            have HY3 : Hid (∀ j, j < N → (ys2.set t (.int .i64 ((C + 1 : Nat) : Int)))[j]? = some (.int .i64 (Sp.cn P (if j < t + 1 then q + 1 else q) j : Nat))) := hidD (fun j hj => by
              by_cases hjp : j = t
              · subst hjp
                rw [List.getElem?_set_self (by omega), if_pos (by omega), hs1, hcnt, hC]
              · rw [List.getElem?_set_ne (by omega), HY2.out j hj]
                by_cases h9 : j < t
                · rw [if_pos h9, if_pos (by omega)]
                · rw [if_neg h9, if_neg (by omega)])
            clear hst hy2 HY2 hC hyl hb7 hb72 hcnt hs1 hin HS7
            generalize ids.getD t 0 = y at *
            go_wp2_with (go_at_call 28; refine ch.mono ?_; rintro e w8 ⟨rfl, rfl⟩)
            exact ⟨⟨t + 1, _, by omega, by go_num, HO2.out, HY3, HB8.out, HS8⟩, by simp [intOf]; omega⟩
          · rw [decide_eq_false hin] at ch
            rw [if_neg hin] at hcnt
            have HY3 : Hid (∀ j, j < N → ys2[j]? = some (.int .i64 (Sp.cn P (if j < t + 1 then q + 1 else q) j : Nat))) := hidD (fun j hj => by
              rw [HY2.out j hj]
              by_cases hjp : j = t
              · subst hjp
                rw [if_neg (by omega), if_pos (by omega), hs1, hcnt]
                rfl
              · by_cases h9 : j < t
                · rw [if_pos h9, if_pos (by omega)]
                · rw [if_neg h9, if_neg (by omega)])
            have HO2 := hidD hy2
            have HB8 := hidD hb7
            clear hy2 HY2 hC hyl hb7 hb72 hcnt hs1 hin
            generalize ids.getD t 0 = y at *
            go_wp2_with (go_at_call 28; refine ch.mono ?_; rintro e w8 ⟨rfl, rfl⟩)
            exact ⟨⟨t + 1, _, by omega, by go_num, HO2.out, HY3, HB8.out, HS7⟩, by simp [intOf]; omega⟩
        · have HY3 : Hid (∀ j, j < N → ys2[j]? = some (.int .i64 (Sp.cn P (q + 1) j : Nat))) := hidD (fun j hj => by
            rw [HY2.out j hj, if_pos (by omega)])
          have HO2 := hidD hy2
          have HB7 := hidD hb7
          clear hy2 HY2 hb7
          go_wp2
          exact ⟨⟨q + 1, _, by omega, by go_num, HO2.out, HY3, HB7.out⟩, by simp [intOf]; omega⟩
    · obtain rfl : q = m := by omega
      have hyl : ys.length = N := by have := hr.1; omega
      have hye : ys = i64s ((List.range N).map fun i => (Sp.cn P q i : Int)) := by
        apply List.ext_getElem?
        intro j
        by_cases hj : j < N
        · rw [HY.out j hj]; simp [hj]
        · rw [List.getElem?_eq_none (by omega), List.getElem?_eq_none (by simp; omega)]
      have hfl : ((List.range N).map fun i => (Sp.cn P q i : Int)).length = N := by simp
      have hseg : Seg .i64 wo (.slice (some ⟨G, 0, none⟩) N N) ((List.range N).map fun i => (Sp.cn P q i : Int)) := by
        refine Seg.own (e := 3) (B := G) ?_
        rw [hfl]
        rw [hye] at hr
        exact hr
      have HSEG := hidD hseg
      have HBZ := hidD (Below.step HB2.out hbel2)
      clear hye hfl hseg hr HY hyl hbel hbel2
      go_wp2
      go_ret2
      exact ⟨_, rfl, HSEG.out, HBZ.out⟩

theorem Sp.ofE_small {ids : List Int} {k : Int} {c : Nat} (h : Sp.ofE ids 0 k = 0) (hc : c ≤ 256) : Sp.ofE ids c k = 0 := by
  obtain ⟨h1, h2⟩ := Sp.of_zero h
  unfold Sp.ofE
  rw [if_neg (by simp [h1])]
  unfold Sp.rE at h2 ⊢
  split at h2
  · cases h2
  · rename_i hb
    unfold Sp.bad at hb
    rw [if_neg (by unfold Sp.bad; omega)]
theorem Sp.mem_plc {ids : List Int} {k : Int} {c i : Nat} (s : Nat) (h : Sp.ofE ids c k = 0) (hi : i < ids.length) : (Sp.plc ids.length c k s).count (i : Int) = if ids.getD i 0 ∈ Sp.ofL ids c k s then 1 else 0 := by
  obtain ⟨h1, h2⟩ := Sp.of_zero h
  obtain ⟨u1, u2, u3⟩ := Sp.ch_up h1
  have hle := Sp.up_count (Sp.plc_up ids.length c k s) (i : Int)
  by_cases hm : (i : Int) ∈ Sp.plc ids.length c k s
  · rw [if_pos (by unfold Sp.ofL; rw [if_pos h]; exact List.mem_map.2 ⟨_, hm, by rw [Int.toNat_natCast]⟩)]
    have := List.count_pos_iff.2 hm
    omega
  · rw [List.count_eq_zero.2 hm, if_neg]
    intro hz
    unfold Sp.ofL at hz
    rw [if_pos h] at hz
    obtain ⟨p, hp, ep⟩ := List.mem_map.1 hz
    have p1 := Sp.plc_mem hp
    have := up_inj u3 (by omega) hi ep
    exact hm (by rw [← this]; rwa [show ((p.toNat : Nat) : Int) = p from by omega])

/-- What the reference's Counts answers. -/
theorem rcounts_any (v : Value) (ids : List Int) (m k : Int) (s : Nat) (w : World) (hs : Seg .i64 w v ids) (hx : s < 18446744073709551616) :
    Calls Try.prog 15 #[v, .int .i64 m, .int .i64 k, .int .u64 s] w fun e w' => ∃ v', e = .returned (.tuple #[v', .int .i64 (Sp.cntE ids m k)]) ∧ Seg .i64 w' v' (Sp.cntL ids m k s) ∧ Below w.heap.size w w' := by
  have c1 := rof_any v ids 0 k s w hs hx
  by_cases hE : Sp.ofE ids 0 k = 0
  · by_cases hm : m < 0 ∨ 256 < m
    · have hC : Sp.cntE ids m k = 4 := by unfold Sp.cntE; rw [if_neg (by simp [hE]), if_pos hm]
      have hL : Sp.cntL ids m k s = [] := by unfold Sp.cntL; rw [hC]; rfl
      rw [hC, hL]
      rw [hE] at c1
      generalize Sp.ofL ids 0 k s = X at *
      clear hC hL hE hs
      by_cases h1 : m < 0
      · go_enter Try.func15, Try.ntmps15
        go_wp2_with fail
        with_reducible refine c1.mono ?_
        rintro e w2 ⟨v2, rfl, _, b2⟩
        go_wp2
        go_ret2
        exact ⟨_, rfl, Seg.nil _ _, b2⟩
      · have h2 : 256 < m := by omega
        clear hm
        go_enter Try.func15, Try.ntmps15
        go_wp2_with fail
        with_reducible refine c1.mono ?_
        rintro e w2 ⟨v2, rfl, _, b2⟩
        go_wp2
        go_ret2
        exact ⟨_, rfl, Seg.nil _ _, b2⟩
    · have hC : Sp.cntE ids m k = 0 := by unfold Sp.cntE; rw [if_neg (by simp [hE]), if_neg hm]
      obtain ⟨M, rfl⟩ := Int.eq_ofNat_of_zero_le (show 0 ≤ m by omega)
      have hL : Sp.cntL ids M k s = (List.range ids.length).map fun i => (Sp.cn (fun c => Sp.plc ids.length c k s) M i : Int) := by
        unfold Sp.cntL; rw [if_pos hC]; rfl
      obtain ⟨h1, h2⟩ := Sp.of_zero hE
      obtain ⟨u1, u2, u3⟩ := Sp.ch_up h1
      rw [hC, hL]
      refine rcounts_v v ids M k s w (fun c => Sp.plc ids.length c k s) (fun c => Sp.ofL ids c k s) (fun c => Sp.ofE ids c k) hs u1 (by omega) (fun c => ?_) (fun c i hc hi => Sp.mem_plc s (Sp.ofE_small hE (by omega)) hi) hE (fun c w h => rof_new _ _ _ _ _ _ h hx)
      by_cases hr : Sp.rE ids.length c k = 0
      · rw [Sp.plc_length s hr]; omega
      · unfold Sp.plc; rw [if_neg hr]; simp
  · have hC : Sp.cntE ids m k = Sp.ofE ids 0 k := by unfold Sp.cntE; rw [if_pos hE]
    have hL : Sp.cntL ids m k s = [] := by unfold Sp.cntL; rw [hC, if_neg hE]
    rw [hC, hL]
    generalize Sp.ofE ids 0 k = E at *
    generalize Sp.ofL ids 0 k s = X at *
    clear hC hL hs
    go_enter Try.func15, Try.ntmps15
    go_wp2_with fail
    with_reducible refine c1.mono ?_
    rintro e w2 ⟨v2, rfl, _, b2⟩
    go_wp2
    go_ret2
    exact ⟨_, rfl, Seg.nil _ _, b2⟩
end Go.Proofs.Ytdgdhhbapgfjgaa
