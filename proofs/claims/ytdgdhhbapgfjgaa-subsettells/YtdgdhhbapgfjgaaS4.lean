/- subset: Of. -/
import Derived.Test.YtdgdhhbapgfjgaaS2
import Derived.Test.YtdgdhhbapgfjgaaS3
namespace Go.Proofs.Ytdgdhhbapgfjgaa
open Go.RowKit
set_option linter.unusedVariables false

theorem ownsRow_lower {w : World} {B C : Nat} {e : TypeId} {size : Nat} {v : Value} {n : Nat} {xs : List Value} (h : w.ownsRow B e size v n xs) (hc : C ≤ B) : w.ownsRow C e size v n xs := by
  refine ⟨h.1, ?_⟩
  rcases h.2 with h | ⟨g, cap, cur, hv, hb, r⟩
  · exact .inl h
  · exact .inr ⟨g, cap, cur, hv, Nat.le_trans hc hb, r⟩

theorem i64s_ext {ys : List Value} {l : List Int} (hy : ys.length = l.length) (h : ∀ j, j < l.length → ys[j]? = some (.int .i64 (l.getD j 0))) : ys = i64s l := by
  apply List.ext_getElem?
  intro j
  by_cases hj : j < l.length
  · rw [h j hj]; simp [List.getD, hj]
  · rw [List.getElem?_eq_none (by omega), List.getElem?_eq_none (by simp; omega)]

set_option maxRecDepth 20000 in
set_option maxHeartbeats 4000000 in
theorem of_v (v : Value) (ids : List Int) (c k : Int) (s : Nat) (w : World) (L : List Int) (hs : Seg .i64 w v ids) (hn : ids.length ≤ 32) (hl : L.length ≤ 32) (hL : ∀ z ∈ L, 0 ≤ z ∧ z < ids.length)
    (C1 : Calls Try.prog 22 #[v] w fun e w' => e = .returned (.int .i64 0) ∧ w = w')
    (C2 : Calls Try.prog 23 #[.int .i64 (ids.length : Nat), .int .i64 c, .int .i64 k, .int .u64 s] w fun e w' => ∃ v', e = .returned (.tuple #[v', .int .i64 0]) ∧ Seg .i64 w' v' L ∧ Below w.heap.size w w') :
    Calls Try.prog 10 #[v, .int .i64 c, .int .i64 k, .int .u64 s] w fun e w' => ∃ v', e = .returned (.tuple #[v', .int .i64 0]) ∧ w'.ownsRow w.heap.size 3 1 v' L.length (i64s (L.map fun p => ids.getD p.toNat 0)) ∧ Below w.heap.size w w' := by
  have HS := hidD hs
  obtain ⟨a, cap, rfl, h1, h2, _, _⟩ := hs
  unfold maxLen at h2
  have HL := hidD hL
  obtain ⟨N, hN⟩ : ∃ N, N = ids.length := ⟨_, rfl⟩
  rw [← hN] at h1 hn C1 C2 ⊢
  have HN := hidD hN
  clear hN hL
  go_enter Try.func10, Try.ntmps10
  go_wp2_with fail
  with_reducible refine C1.mono ?_
  rintro e w1 ⟨rfl, rfl⟩
  go_wp2_with fail
  with_reducible refine C2.mono ?_
  rintro e w2 ⟨v2, rfl, hs2, b2⟩
  have HS2 := hidD hs2
  have HSa := hidD (HS.out.below b2)
  obtain ⟨a2, cap2, rfl, h21, h22, _, _⟩ := hs2
  unfold maxLen at h22
  obtain ⟨M, hM⟩ : ∃ M, M = L.length := ⟨_, rfl⟩
  rw [← hM] at h21 hl ⊢
  have HM := hidD hM
  clear hM HS C1 C2
  obtain ⟨i0, hi, hz0, hz1, hz2⟩ := info_parts Try.info3
  obtain ⟨w3, hmk, hown3, hg3⟩ := run_make_full (P := Try.prog) w2 w2.heap.size 22 3 i0 (.int .i64 0) 1 Try.underlying22 hi hz0 hz1 .i64 .i64 M (by rw [hz2]; omega) (by unfold maxLen; omega) (Nat.le_refl _)
  have b3 : Below w2.heap.size w2 w3 := (Below.refl _ _).grown hg3 (Nat.le_refl _) (fun k hk => by cases hk)
  have hsz2 := b2.size
  clear hg3 hz0 hz1 hz2 hi
  obtain ⟨G, hG⟩ : ∃ G, G = w2.heap.size := ⟨_, rfl⟩
  have HG := hidD hG
  rw [← hG] at hown3 b3 hsz2 hmk
  go_wp2
  rw [← HG.out]
  clear hG
  go_loopw [38] (fun i wr => ∃ (q : Nat) (ys : List Value), q ≤ M ∧ i = .int .i64 q ∧ wr.ownsRow G 3 1 (.slice (some ⟨G, 0, none⟩) M M) M ys ∧ Hid (∀ j, j < q → ys[j]? = some (.int .i64 (ids.getD (L.getD j 0).toNat 0))) ∧ Below G w2 wr) (fun i _ => M - (intOf i).toNat)
  case atStart => exact ⟨0, _, Nat.zero_le _, rfl, hown3, fun j hj => absurd hj (Nat.not_lt_zero _), b3⟩
  case round =>
    clear hown3 b3 hmk
    obtain ⟨q, ys, hq, rfl, hr, HY, hbel⟩ := hrel
    have hbl : Below w2.heap.size w2 wr := by rw [← HG.out]; exact hbel
    by_cases hlt : q < M
    · have hys : ys.length = M := by have := hr.1; omega
      have ql : q < L.length := by have := HM.out; omega
      obtain ⟨b5, o5, rfl, hb5, Q5⟩ := (HS2.out.below hbl).atD q ql
      have hz := HL.out (L.getD q 0) (by rw [dgetD_at ql]; exact List.getElem_mem _)
      have HY2 : Hid (∀ j, j < q + 1 → (ys.set q (.int .i64 (ids.getD (L.getD q 0).toNat 0)))[j]? = some (.int .i64 (ids.getD (L.getD j 0).toNat 0))) := by
        intro j hj
        by_cases hjk : j = q
        · subst hjk
          rw [List.getElem?_set_self (by omega)]
        · rw [List.getElem?_set_ne (by omega)]
          exact HY.out j (by omega)
      obtain ⟨p, hp⟩ := Int.eq_ofNat_of_zero_le hz.1
      have hpn : p < N := by have := HN.out; omega
      rw [hp, Int.toNat_natCast] at HY2
      rw [hp] at Q5
      obtain ⟨b6, o6, rfl, hb6, Q6⟩ := (HSa.out.below hbl).atD p (by have := HN.out; omega)
      obtain ⟨z, hc⟩ : ∃ z, wr.cell? ⟨G, q, none⟩ = some z := ⟨ys[q]'(by omega), by rw [hr.cellAt q (by omega), List.getElem?_eq_getElem (by omega)]⟩
      have hf := hr.frozenAt q
      have hst := hr.stored q (.int .i64 (ids.getD p 0))
      have HO2 := hidD hst.1
      have hgr := hidD (hbel.grown hst.2 (by have := hbel.size; have := HG.out; omega) (fun j hj => by cases hj; exact Nat.le_refl _))
      clear hst hr HY hz hp hbl ql hys
      generalize ids.getD p 0 = y at *
      go_wp2
      exact ⟨⟨q + 1, _, by omega, by go_num, HO2.out, HY2, hgr.out⟩, by simp [intOf]; omega⟩
    · have hye : ys = i64s (L.map fun p => ids.getD p.toNat 0) := by
        refine i64s_ext (by rw [List.length_map]; have := hr.1; have := HM.out; omega) (fun j hj => ?_)
        rw [List.length_map] at hj
        rw [HY.out j (by have := HM.out; omega)]
        simp [List.getD, hj]
      rw [hye] at hr
      have HR := hidD (ownsRow_lower hr hsz2)
      have HB := hidD (Below.step b2 hbl)
      clear hye HY hr hbl hbel
      go_wp2
      go_ret2
      exact ⟨.slice (some ⟨G, 0, none⟩) M M, rfl, (by rw [← HM.out]; exact HR.out), HB.out⟩

theorem row_fresh {w : World} {B : Nat} {e : TypeId} {v : Value} {n : Nat} {xs : List Value} (h : w.ownsRow B e 1 v n xs) : FreshS B v := by
  rcases h.2 with ⟨rfl, h0⟩ | ⟨g, cc, cur, rfl, hb, _⟩
  · exact FreshS.none _ _ _
  · exact FreshS.at _ _ _ hb

set_option maxHeartbeats 1000000 in
theorem of_new (v : Value) (ids : List Int) (c k : Int) (s : Nat) (w : World) (hs : Seg .i64 w v ids) (hx : s < 18446744073709551616) :
    Calls Try.prog 10 #[v, .int .i64 c, .int .i64 k, .int .u64 s] w fun e w' => ∃ v', e = .returned (.tuple #[v', .int .i64 (Sp.ofE ids c k)]) ∧ Seg .i64 w' v' (Sp.ofL ids c k s) ∧ Below w.heap.size w w' ∧ FreshS w.heap.size v' := by
  have c1 := check_any v ids w hs
  by_cases hC : Sp.chE ids = 0
  · have hn : ids.length ≤ 32 := by
      unfold Sp.chE at hC
      split at hC
      · cases hC
      · omega
    have c2 := places_any ids.length c k s w hx
    have hE : Sp.ofE ids c k = Sp.rE ids.length c k := by unfold Sp.ofE; rw [if_neg (by simp [hC])]
    rw [hC] at c1
    by_cases hR : Sp.rE ids.length c k = 0
    · rw [hR] at c2
      unfold Sp.ofL
      rw [hE, if_pos hR, hR]
      have hl := Sp.plc_length s hR
      refine (of_v v ids c k s w _ hs hn (by omega) (fun z hz => Sp.plc_mem hz) c1 c2).mono ?_
      rintro e w' ⟨v', rfl, row, b⟩
      refine ⟨v', rfl, Seg.own (e := 3) (B := w.heap.size) ?_, b, row_fresh row⟩
      rw [List.length_map]
      exact row
    · unfold Sp.ofL
      rw [hE, if_neg hR]
      obtain ⟨a, cap, rfl, h1, h2, _, _⟩ := hs
      unfold maxLen at h2
      generalize Sp.rE ids.length c k = E at *
      generalize Sp.plc ids.length c k s = L at *
      generalize ids.length = N at *
      clear hC hE
      go_enter Try.func10, Try.ntmps10
      go_wp2_with fail
      with_reducible refine c1.mono ?_
      rintro e w1 ⟨rfl, rfl⟩
      go_wp2_with fail
      with_reducible refine c2.mono ?_
      rintro e w2 ⟨v2, rfl, hs2, b2⟩
      go_wp2
      go_ret2
      exact ⟨_, rfl, Seg.nil _ _, b2, FreshS.none _ _ _⟩
  · unfold Sp.ofL
    have hE : Sp.ofE ids c k = Sp.chE ids := by unfold Sp.ofE; rw [if_pos hC]
    rw [hE, if_neg hC]
    generalize Sp.chE ids = E at *
    clear hE hs
    go_enter Try.func10, Try.ntmps10
    go_wp2_with fail
    with_reducible refine c1.mono ?_
    rintro e w1 ⟨rfl, rfl⟩
    go_wp2
    go_ret2
    exact ⟨_, rfl, Seg.nil _ _, Below.refl _ _, FreshS.none _ _ _⟩

theorem of_any (v : Value) (ids : List Int) (c k : Int) (s : Nat) (w : World) (hs : Seg .i64 w v ids) (hx : s < 18446744073709551616) :
    Calls Try.prog 10 #[v, .int .i64 c, .int .i64 k, .int .u64 s] w fun e w' => ∃ v', e = .returned (.tuple #[v', .int .i64 (Sp.ofE ids c k)]) ∧ Seg .i64 w' v' (Sp.ofL ids c k s) ∧ Below w.heap.size w w' :=
  (of_new v ids c k s w hs hx).mono fun _ _ ⟨v', h1, h2, h3, _⟩ => ⟨v', h1, h2, h3⟩

theorem seg_three (w : World) : Seg .i64 (w.alloc (.cells #[.int .i64 1, .int .i64 2, .int .i64 3] 3)) (.slice (some ⟨w.heap.size, 0, none⟩) 3 3) [1, 2, 3] := seg_new w [1, 2, 3] 3 (by simp)

theorem plc_all (n : Nat) (k : Int) (c : Int) (s : Nat) (h : Sp.rE n c k = 0) (hk : n ≤ k) : Sp.plc n c k s = (List.range n).map Int.ofNat := by
  obtain ⟨a1, a2, a3, a4, a5, a6, a7, a8, a9, a10, a11, a12⟩ := Sp.place_fits h
  refine Sp.up_ext (Sp.plc_up n c k s) ?_ ?_
  · refine List.Pairwise.map Int.ofNat ?_ List.pairwise_lt_range
    intro a b h
    exact Int.ofNat_lt.2 h
  · intro z
    unfold Sp.plc
    rw [if_pos h, Sp.srt_mem]
    unfold Sp.cut
    rw [a9 hk, Int.zero_mul, Int.toNat_zero, List.drop_zero, List.take_of_length_le (by rw [Sp.ord_length]; omega)]
    exact ((Hp.order_perm _ n).map Int.ofNat).mem_iff

theorem three : Sp.ofE [1, 2, 3] 0 3 = 0 ∧ ∀ s, Sp.ofL [1, 2, 3] 0 3 s = [1, 2, 3] := by
  have h1 : Sp.ofE [1, 2, 3] 0 3 = 0 := by decide
  have h2 : Sp.rE 3 0 3 = 0 := by decide
  refine ⟨h1, fun s => ?_⟩
  unfold Sp.ofL
  rw [if_pos h1, plc_all [1, 2, 3].length 3 0 s h2 (by decide)]
  rfl

set_option maxHeartbeats 1000000 in
theorem alive_any (w : World) :
    Calls Try.prog 20 #[] w fun e w' => e = .returned (.bool true) ∧ Below w.heap.size w w' := by
  have c1 := of_any _ [1, 2, 3] 0 3 0 _ (seg_three w) (by omega)
  rw [three.1, three.2 0] at c1
  have hA : Below w.heap.size w (w.alloc (.cells #[.int .i64 1, .int .i64 2, .int .i64 3] 3)) := (Below.refl _ _).alloc (Nat.le_refl _) _
  go_enter Try.func20, Try.ntmps20
  go_wp2_with fail
  refine c1.mono ?_
  rintro e w2 ⟨v2, rfl, hs2, b2⟩
  have c3 := sameInts_any v2 _ [1, 2, 3] [1, 2, 3] _ (hs2.below ((Below.refl _ _).alloc (Nat.le_refl _) _)) (seg_three w2)
  rw [decide_eq_true rfl] at c3
  have hB2 := Below.step hA b2
  have hA2 : Below w2.heap.size w2 (w2.alloc (.cells #[.int .i64 1, .int .i64 2, .int .i64 3] 3)) := (Below.refl _ _).alloc (Nat.le_refl _) _
  clear c1 hs2 b2
  go_wp2_with (first | (go_at_call 19; refine (num_any _ _).mono ?_; rintro e w4 ⟨rfl, rfl⟩) | (go_at_call 18; refine c3.mono ?_; rintro e w3 ⟨rfl, b3⟩))
  go_ret
  exact ⟨rfl, Below.step (Below.step hB2 hA2) b3⟩
end Go.Proofs.Ytdgdhhbapgfjgaa
