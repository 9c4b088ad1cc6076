/- subset: without, Change. -/
import Derived.Test.YtdgdhhbapgfjgaaSH1
namespace Go.Proofs.Ytdgdhhbapgfjgaa
open Go.RowKit Go.Sort Go.Shelf
set_option linter.unusedVariables false

set_option maxHeartbeats 1000000 in
theorem bsearch_nil (p : Option Addr) (cap : Nat) (x : Int) (w : World) :
    Calls Try.prog 39 #[.slice p 0 cap, .int .i64 x] w fun e w' => e = .returned (.tuple #[.int .i64 0, .bool false]) ∧ ∃ q, w' = w.drewN q := by
  go_enter Try.func39, Try.ntmps39
  go_wp2
  go_loopw [7, 8] (fun a b wr => a = .int .i64 0 ∧ b = .int .i64 0 ∧ wr = w) (fun _ _ _ => 0)
  case atStart => exact ⟨rfl, rfl, rfl⟩
  case round =>
    obtain ⟨rfl, rfl, rfl⟩ := hrel
    go_wp2
    go_ret2
    exact ⟨rfl, 0, rfl⟩

theorem bsearch_any (u : Value) (m : List Int) (x : Int) (w : World) (hs : Seg .i64 w u m) (hm : m.Pairwise (· ≤ ·)) (hl : m.length ≤ 17592186044415) :
    Calls Try.prog 39 #[u, .int .i64 x] w fun e w' => ∃ y : Int, e = .returned (.tuple #[.int .i64 y, .bool (decide (x ∈ m))]) ∧ ∃ q, w' = w.drewN q := by
  obtain ⟨a, cap, rfl, h1, h2, h3, h4⟩ := hs
  by_cases h0 : 0 < m.length
  · obtain ⟨b, off, rfl, hb, hc⟩ := seg_at h0 h3 h4
    have c := AnyG.slices_BinarySearch_int Try.bsearchI b off m.length cap m x w (Nat.le_refl _) (by omega) hc (by rw [List.take_of_length_le (Nat.le_refl _)]; exact hm)
    change Calls Try.prog 39 _ _ _ at c
    refine c.mono ?_
    rintro e w' ⟨rfl, q, rfl⟩
    rw [List.take_of_length_le (Nat.le_refl _)]
    exact ⟨_, by rw [List.contains_eq_mem], q, rfl⟩
  · have hl0 : m = [] := List.length_eq_zero_iff.1 (by omega)
    subst hl0
    refine (bsearch_nil a cap x w).mono ?_
    rintro e w' ⟨rfl, q, rfl⟩
    exact ⟨0, rfl, q, rfl⟩

set_option maxHeartbeats 1000000 in
theorem known_any (n : Nat) (u : Value) (m : List Int) (x : Int) (w : World) (hb : w.cell? ⟨n, 0, none⟩ = some u) (hs : Seg .i64 w u m) (hm : m.Pairwise (· ≤ ·)) (hl : m.length ≤ 17592186044415) :
    Calls Try.prog 38 #[.int .i64 x, .pointer (some ⟨n, 0, none⟩)] w fun e w' => e = .returned (.bool (decide (x ∈ m))) ∧ Below w.heap.size w w' := by
  have c1 := bsearch_any u m x w hs hm hl
  obtain ⟨a, cap, rfl, h1, h2, h3, h4⟩ := hs
  clear h3 h4 hm
  generalize decide (x ∈ m) = D at *
  go_enter Try.func38, Try.ntmps38
  go_wp2_with fail
  with_reducible refine c1.mono ?_
  rintro e w1 ⟨y, rfl, q, rfl⟩
  go_wp2
  go_ret
  exact ⟨rfl, drewD (Below.refl _ _) _⟩

def Sp.wo (l m : List Int) : List Int := l.filter fun x => !decide (x ∈ m)
theorem Sp.wo_mem {l m : List Int} {z : Int} : z ∈ Sp.wo l m ↔ z ∈ l ∧ ¬ z ∈ m := by
  unfold Sp.wo
  rw [List.mem_filter]
  simp
theorem Sp.wo_up {l m : List Int} (h : Sp.Up l) : Sp.Up (Sp.wo l m) := h.sublist List.filter_sublist
theorem Sp.wo_next {l m : List Int} {q : Nat} (hq : q < l.length) : Sp.wo (l.take (q + 1)) m = Sp.wo (l.take q) m ++ (if l.getD q 0 ∈ m then [] else [l.getD q 0]) := by
  unfold Sp.wo
  rw [List.take_succ_eq_append_getElem hq, List.filter_append, dgetD_at hq]
  by_cases h : l[q] ∈ m <;> simp [h]
theorem Sp.wo_length (l m : List Int) : (Sp.wo l m).length ≤ l.length := List.length_filter_le _ _

set_option maxRecDepth 20000 in
set_option maxHeartbeats 4000000 in
theorem without_any (v u : Value) (l m : List Int) (w : World) (hs : Seg .i64 w v l) (ho : Seg .i64 w u m) (hm : m.Pairwise (· ≤ ·)) (hl : l.length ≤ 17592186044415) (hl2 : m.length ≤ 17592186044415) :
    Calls Try.prog 30 #[v, u] w fun e w' => ∃ v', e = .returned v' ∧ w'.ownsRow w.heap.size 3 1 v' (Sp.wo l m).length (i64s (Sp.wo l m)) ∧ Below w.heap.size w w' := by
  obtain ⟨n, hn⟩ : ∃ n, n = w.heap.size := ⟨_, rfl⟩
  have HN := hidD hn
  have hA : Below w.heap.size w (w.alloc (.cells #[u] 22)) := (Below.refl _ _).alloc (Nat.le_refl _) _
  have HS0 := hidD (hs.below hA)
  have HO0 := hidD (ho.below hA)
  have HM := hidD hm
  have hbox : (w.alloc (.cells #[u] 22)).cell? ⟨n, 0, none⟩ = some u := by
    rw [hn, World.cell?_alloc_at _ _ _ _ rfl]; rfl
  obtain ⟨a, cap, rfl, h1, h2, _, _⟩ := hs
  unfold maxLen at h2
  obtain ⟨a2, cap2, rfl, h3, h4, _, _⟩ := ho
  unfold maxLen at h4
  obtain ⟨N, hN⟩ : ∃ N, N = l.length := ⟨_, rfl⟩
  rw [← hN] at h1 hl HS0 ⊢
  have HLN := hidD hN
  have HBOX := hidD hbox
  have HA := hidD hA
  clear hN hm hbox hA
  go_enter Try.func30, Try.ntmps30
  go_wp2
  obtain ⟨W0, hW0⟩ : ∃ W0, W0 = w.alloc (.cells #[.slice a2 m.length cap2] 22) := ⟨_, rfl⟩
  have hW0s : W0.heap.size = n + 1 := by rw [hW0, hn]; simp
  rw [← hW0] at HS0 HO0 HBOX HA ⊢
  rw [← hn]
  have HWS := hidD hW0s
  clear hW0 hn hW0s
  go_loopw [6, 12] (fun o i wr => ∃ q : Nat, q ≤ N ∧ i = .int .i64 q ∧ wr.ownsRow (n + 1) 3 1 o (Sp.wo (l.take q) m).length (i64s (Sp.wo (l.take q) m)) ∧ Below W0.heap.size W0 wr) (fun _ i _ => N - (intOf i).toNat)
  case atStart => exact ⟨0, Nat.zero_le _, rfl, World.ownsRow_nil _ _ _ _, Below.refl _ _⟩
  case round =>
    obtain ⟨q, hq, rfl, hrow, hbl⟩ := hrel
    obtain ⟨wq, rfl⟩ : ∃ wq, wq = wr := ⟨_, rfl⟩
    by_cases hlq : q < N
    · have ql : q < l.length := by have := HLN.out; omega
      obtain ⟨g1, o1, rfl, hg1, Q1⟩ := (HS0.out.below hbl).atD q ql
      have hbq := hbl.size
      have hbx : wq.cell? ⟨n, 0, none⟩ = some (.slice a2 m.length cap2) := (hbl.cell (p := ⟨n, 0, none⟩) (by show n < W0.heap.size; have := HWS.out; omega)).trans HBOX.out
      have ck := known_any n _ m (l.getD q 0) wq hbx (HO0.out.below hbl) HM.out hl2
      have HNX := hidD (Sp.wo_next (m := m) ql)
      have hwl : (Sp.wo (l.take q) m).length ≤ q := by have := Sp.wo_length (l.take q) m; rw [List.length_take] at this; omega
      have i1 : (q : Int) < (N : Int) := by omega
      have HROW := hidD hrow
      have HBL := hidD hbl
      clear hrow hbl hbx ql
      by_cases hin : l.getD q 0 ∈ m
      · rw [decide_eq_true hin] at ck
        have HN2 : Hid (Sp.wo (l.take (q + 1)) m = Sp.wo (l.take q) m) := hidD (by rw [HNX.out, if_pos hin, List.append_nil])
        clear hin HNX
        generalize l.getD q 0 = y at *
        go_wp2_with fail
        with_reducible refine ck.mono ?_
        rintro e w5 ⟨rfl, b5⟩
        have row5 := own_below HROW.out b5
        rw [← HN2.out] at row5
        have HR5 := hidD row5
        have HB5 := hidD (HBL.out.trans (b5.mono hbq))
        clear row5 b5 ck
        go_wp2
        exact ⟨⟨q + 1, by omega, by go_num, HR5.out, HB5.out⟩, by simp [intOf]; omega⟩
      · rw [decide_eq_false hin] at ck
        have HN2 : Hid (Sp.wo (l.take (q + 1)) m = Sp.wo (l.take q) m ++ [l.getD q 0]) := hidD (by rw [HNX.out, if_neg hin])
        clear hin HNX
        generalize l.getD q 0 = y at *
        obtain ⟨X, hX⟩ : ∃ X, X = Sp.wo (l.take q) m := ⟨_, rfl⟩
        rw [← hX] at HN2 HROW hwl
        clear hX
        go_wp2_with fail
        with_reducible refine ck.mono ?_
        rintro e w5 ⟨rfl, b5⟩
        have row5 := own_below HROW.out b5
        have hb5 := b5.size
        have hn5 : n + 1 ≤ w5.heap.size := by have := HWS.out; omega
        have HB5 := hidD (HBL.out.trans (b5.mono hbq))
        have HR5 := hidD row5
        clear row5 b5 ck HROW HBL
        go_wp2_with (first | (at_builtin; refine wpList_append_ints _ rfl _ _ rfl (n + 1) _ (.slice (some ⟨w5.heap.size, 0, none⟩) 1 1) X [y] rfl (HR5.out.alloc _) rfl (seg_one w5 y) (by simp; omega) (by simp; omega) ?_; intro v2 w6 hown' hB6 hgrow))
        rw [← HN2.out] at hown'
        have hB7 : Below W0.heap.size W0 w6 := (HB5.out.alloc (Nat.le_trans hbq hb5) _).trans (by rw [HWS.out]; exact hB6)
        exact ⟨⟨q + 1, by omega, by go_num, hown', hB7⟩, by simp [intOf]; omega⟩
    · obtain rfl : q = N := by omega
      rw [List.take_of_length_le (by have := HLN.out; omega)] at hrow
      have hrow2 := ownsRow_lower hrow (show n ≤ n + 1 by omega)
      have HR := hidD hrow2
      have HB := hidD (HA.out.trans (hbl.mono (by have := HWS.out; have := HN.out; omega)))
      clear hrow hrow2 hbl
      go_wp2
      go_ret
      exact ⟨_, rfl, (by rw [← HN.out]; exact HR.out), HB.out⟩

set_option maxHeartbeats 1000000 in
theorem change_any (v u : Value) (old ids : List Int) (w : World) (hs : Seg .i64 w v old) (ho : Seg .i64 w u ids) (hl : old.length ≤ 17592186044415) (hl2 : ids.length ≤ 17592186044415) :
    Calls Try.prog 16 #[v, u] w fun e w' => ∃ v1 v2, e = .returned (.tuple #[v1, v2]) ∧ Seg .i64 w' v1 (Sp.wo (Sp.onc ids) (Sp.onc old)) ∧ Seg .i64 w' v2 (Sp.wo (Sp.onc old) (Sp.onc ids)) ∧ Below w.heap.size w w' := by
  have c1 := once_any v old w hs hl
  have HO := hidD ho
  have u1 : (Sp.onc old).Pairwise (· ≤ ·) := (Sp.onc_up old).imp (fun h => Int.le_of_lt h)
  have u2 : (Sp.onc ids).Pairwise (· ≤ ·) := (Sp.onc_up ids).imp (fun h => Int.le_of_lt h)
  have n1 := Sp.onc_length old
  have n2 := Sp.onc_length ids
  generalize Sp.onc old = A at *
  obtain ⟨B, hB⟩ : ∃ B, B = Sp.onc ids := ⟨_, rfl⟩
  rw [← hB] at u2 n2 ⊢
  have HB := hidD hB
  have U1 := hidD u1
  have U2 := hidD u2
  clear hs ho hB u1 u2
  go_enter Try.func16, Try.ntmps16
  go_wp2_with fail
  with_reducible refine c1.mono ?_
  rintro e w1 ⟨v1, rfl, s1, b1⟩
  have c2 := once_any u ids w1 (HO.out.below b1) hl2
  rw [← HB.out] at c2
  clear c1
  go_wp2_with fail
  with_reducible refine c2.mono ?_
  rintro e w2 ⟨v2, rfl, s2, b2⟩
  have s12 := s1.below b2
  have c3 := without_any v2 v1 B A w2 s2 s12 U1.out (by omega) (by omega)
  clear c2
  go_wp2_with fail
  with_reducible refine c3.mono ?_
  rintro e w3 ⟨v3, rfl, r3, b3⟩
  have c4 := without_any v1 v2 A B w3 (s12.below b3) (s2.below b3) U2.out (by omega) (by omega)
  clear c3
  go_wp2_with fail
  with_reducible refine c4.mono ?_
  rintro e w4 ⟨v4, rfl, r4, b4⟩
  have S3 := hidD ((Seg.own r3).below b4)
  have S4 := hidD (Seg.own r4)
  have B4 := Below.step (Below.step (Below.step b1 b2) b3) b4
  clear c4 r3 r4 s1 s2 s12 b1 b2 b3 b4
  go_wp2
  go_ret2
  exact ⟨_, _, rfl, S3.out, S4.out, B4⟩
end Go.Proofs.Ytdgdhhbapgfjgaa
