/- subset: the reference's Of. -/
import Derived.Test.YtdgdhhbapgfjgaaSR1
import Derived.Test.YtdgdhhbapgfjgaaSR2
namespace Go.Proofs.Ytdgdhhbapgfjgaa
open Go.RowKit
set_option linter.unusedVariables false

theorem FreshS.lower {B C : Nat} {v : Value} (h : FreshS B v) (hc : C ≤ B) : FreshS C v := fun x n c e => Nat.le_trans hc (h x n c e)
theorem rints1 (s : Nat) (a : Int) (w : World) (hx : s < 18446744073709551616) :
    Calls Try.prog 26 #[.int .u64 s, .slice (some ⟨w.heap.size, 0, none⟩) 1 1] (w.alloc (.cells #[.int .i64 a] 3)) fun e w' => e = .returned (.int .u64 (Hp.ints s [a] : Nat)) ∧ Below w.heap.size w w' := by
  refine (rints_any s _ [a] _ hx (seg_new w [a] _ (by simp))).mono ?_
  rintro e w' ⟨rfl, rfl⟩
  exact ⟨rfl, (Below.refl _ _).alloc (Nat.le_refl _) _⟩

abbrev Sp.at' (ids : List Int) (p : Int) : Int := ids.getD p.toNat 0

set_option maxRecDepth 20000 in
set_option maxHeartbeats 8000000 in
theorem rof_v (v : Value) (ids : List Int) (c : Int) (s : Nat) (w : World) (K f : Nat) (R P : Int) (s2 X : Nat) (O : List Int) (hs : Seg .i64 w v ids) (hn : ids.length ≤ 32) (hk1 : 1 ≤ K) (hkn : K < ids.length) (hPk : P * (K : Int) = f) (hP0 : 0 ≤ P) (hP : P ≤ 32) (hfn : f + K ≤ ids.length) (hO : O.length = ids.length) (hOm : ∀ z ∈ O, 0 ≤ z ∧ z < ids.length)
    (C0 : Calls Try.prog 24 #[v] w fun e w' => e = .returned (.bool true) ∧ Below w.heap.size w w')
    (C1 : ∀ w : World, Calls Try.prog 13 #[.int .i64 (ids.length : Nat), .int .i64 c, .int .i64 K] w fun e w' => e = .returned (.tuple #[.int .i64 R, .int .i64 P, .int .i64 0]) ∧ Below w.heap.size w w')
    (C2 : ∀ w : World, Calls Try.prog 26 #[.int .u64 s, .slice (some ⟨w.heap.size, 0, none⟩) 1 1] (w.alloc (.cells #[.int .i64 R] 3)) fun e w' => e = .returned (.int .u64 (s2 : Nat)) ∧ Below w.heap.size w w')
    (C3 : ∀ w : World, Calls Try.prog 25 #[.int .u64 s2, .int .i64 (ids.length : Nat)] w fun e w' => ∃ v', e = .returned (.tuple #[.int .u64 (X : Nat), v', .int .i64 0]) ∧ Seg .i64 w' v' O ∧ Below w.heap.size w w') :
    Calls Try.prog 11 #[v, .int .i64 c, .int .i64 K, .int .u64 s] w fun e w' => ∃ v', e = .returned (.tuple #[v', .int .i64 0]) ∧ Seg .i64 w' v' (Sp.srt (((O.drop f).take K).map (Sp.at' ids))) ∧ Below w.heap.size w w' ∧ FreshS w.heap.size v' := by
  have HS := hidD hs
  obtain ⟨a, cap, rfl, h1, h2, _, _⟩ := hs
  unfold maxLen at h2
  obtain ⟨N, hN⟩ : ∃ N, N = ids.length := ⟨_, rfl⟩
  rw [← hN] at h1 hn hkn hfn hO hOm C0 C1 C3 HS ⊢
  have HN := hidD hN
  have HOm := hidD hOm
  have HO := hidD hO
  clear hN hOm hO
  obtain ⟨CT, hCT⟩ : ∃ CT, CT = ((O.drop f).take K).map (Sp.at' ids) := ⟨_, rfl⟩
  rw [← hCT]
  have hCl : CT.length = K := by rw [hCT, List.length_map, List.length_take, List.length_drop, HO.out]; omega
  have HCg : Hid (∀ q, q < K → CT.getD q 0 = ids.getD (O.getD (f + q) 0).toNat 0) := hidD (fun q hq => by
    have h1 : f + q < O.length := by rw [HO.out]; omega
    rw [hCT]
    simp [List.getD, hq, h1, Sp.at'])
  clear hCT
  have d1 : ¬ (32 : Int) < (N : Int) := by omega
  have d2 : ¬ (N : Int) ≤ (K : Int) := by omega
  go_enter Try.func11, Try.ntmps11
  go_wp2_with fail
  with_reducible refine C0.mono ?_
  rintro e w1 ⟨rfl, b1⟩
  go_wp2_with fail
  with_reducible refine (C1 w1).mono ?_
  rintro e w2 ⟨rfl, b2⟩
  go_wp2_with fail
  with_reducible refine (C2 w2).mono ?_
  rintro e w3 ⟨rfl, b3⟩
  go_wp2_with fail
  with_reducible refine (C3 w3).mono ?_
  rintro e w4 ⟨v4, rfl, so, b4⟩
  have B4 := Below.step (Below.step (Below.step b1 b2) b3) b4
  have HS4 := hidD (HS.out.below B4)
  have HSO := hidD so
  obtain ⟨a4, cap4, rfl, h41, h42, _, _⟩ := so
  unfold maxLen at h42
  rw [HO.out] at h41 HSO ⊢
  clear C0 C1 C2 C3 b1 b2 b3 b4
  go_wp2_with fail
  go_loopw [17, 18] (fun o i wr => ∃ q : Nat, q ≤ K ∧ i = .int .i64 q ∧ wr.ownsRow w4.heap.size 3 1 o q (i64s (CT.take q)) ∧ Below w4.heap.size w4 wr) (fun _ i _ => K - (intOf i).toNat)
  case atStart => exact ⟨0, Nat.zero_le _, rfl, World.ownsRow_nil _ _ _ _, Below.refl _ _⟩
  case round =>
    obtain ⟨q, hq, rfl, hrow, hbl⟩ := hrel
    obtain ⟨wq, rfl⟩ : ∃ wq, wq = wr := ⟨_, rfl⟩
    by_cases hlq : q < K
    · have ol : f + q < O.length := by rw [HO.out]; omega
      obtain ⟨g1, o1, rfl, hg1, Q1⟩ := (HSO.out.below hbl).atD (f + q) ol
      have hz := HOm.out (O.getD (f + q) 0) (by rw [dgetD_at ol]; exact List.getElem_mem _)
      obtain ⟨p, hp⟩ := Int.eq_ofNat_of_zero_le hz.1
      have hpN : p < N := by omega
      rw [hp] at Q1
      obtain ⟨g5, o5, rfl, hg5, Q5⟩ := (HS4.out.below hbl).atD p (by have := HN.out; omega)
      obtain ⟨y, hy⟩ : ∃ y, y = ids.getD p 0 := ⟨_, rfl⟩
      rw [← hy] at Q5
      have hyC : CT.getD q 0 = y := by rw [HCg.out q hlq, hp, Int.toNat_natCast, hy]
      have hsn : Hid (CT.take (q + 1) = CT.take q ++ [y]) := hidD (by
        rw [List.take_succ_eq_append_getElem (by omega), ← dgetD_at (by omega), hyC])
      have htl : (CT.take q).length = q := by rw [List.length_take]; omega
      obtain ⟨oa, ocap, rfl⟩ := row_slice hrow
      have hrow' : wq.ownsRow w4.heap.size 3 1 (.slice oa q ocap) (CT.take q).length (i64s (CT.take q)) := by rw [htl]; exact hrow
      have HROW := hidD hrow'
      have HBL := hidD hbl
      have hbq := hbl.size
      have i1 : (q : Int) < (K : Int) := by omega
      have i2 : ((f : Int) + (q : Int)) < (N : Int) := by omega
      have i3 : (p : Int) < (N : Int) := by omega
      have i4 : f + q < N := by omega
      clear hy hyC hp hz ol hrow hrow' hbl
      go_wp2_with (first | (at_builtin; refine wpList_append_ints _ rfl _ _ rfl w4.heap.size (.slice oa q ocap) (.slice (some ⟨wq.heap.size, 0, none⟩) 1 1) (CT.take q) [y] rfl (HROW.out.alloc _) rfl (seg_one wq y) (by rw [htl]; simp; omega) (by simp; omega) ?_; intro v2 w6 hown' hB6 hgrow))
      have hown2 : w6.ownsRow w4.heap.size 3 1 v2 (q + 1) (i64s (CT.take (q + 1))) := by
        rw [hsn.out]
        rw [show (CT.take q ++ [y]).length = q + 1 from by simp [htl]] at hown'
        exact hown'
      exact ⟨⟨q + 1, by omega, by go_num, hown2, (HBL.out.alloc hbq _).trans hB6⟩, by simp [intOf]; omega⟩
    · obtain rfl : q = K := by omega
      have hke : CT.take q = CT := List.take_of_length_le (by omega)
      rw [hke] at hrow
      have hseg : Seg .i64 wq u17 CT := by
        refine Seg.own (e := 3) (B := w4.heap.size) ?_
        rw [hCl]
        exact hrow
      have cs := rsorted_any u17 CT wq hseg (by omega)
      have HB := hidD (Below.step B4 hbl)
      clear hke hrow hseg hbl
      go_wp2_with fail
      with_reducible refine cs.mono ?_
      rintro e w7 ⟨v7, rfl, row7, b7⟩
      have hseg7 : Seg .i64 w7 v7 (Sp.srt CT) := by
        refine Seg.own (e := 3) (B := wq.heap.size) ?_
        rw [Sp.srt_length]
        exact row7
      have HS7 := hidD hseg7
      have HF7 := hidD ((row_fresh row7).lower HB.out.size)
      clear row7 hseg7
      go_wp2
      go_ret2
      exact ⟨_, rfl, HS7.out, Below.step HB.out b7, HF7.out⟩
end Go.Proofs.Ytdgdhhbapgfjgaa
