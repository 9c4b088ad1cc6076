/- ring: SameInts; the reference's Ints of one number; shares of a built ring. -/
import Derived.Test.YtekmcooghkchpaaRQ
import Derived.Test.YtekmcooghkchpaaRVp
import Derived.Test.YtekmcooghkchpaaHG
namespace Go.Proofs.Ytekmcooghkchpaa
open Go.RowKit Go.Sort Go.Shelf

theorem dgetD_at {l : List Int} {i : Nat} (h : i < l.length) : l.getD i 0 = l[i] := by simp [List.getD, h]
theorem sameInts_any (v1 v2 : Value) (l1 l2 : List Int) (w : World) (hs1 : Seg .i64 w v1 l1) (hs2 : Seg .i64 w v2 l2) :
    Calls Try.prog 20 #[v1, v2] w fun e w' => e = .returned (.bool (decide (l1 = l2))) ∧ Below w.heap.size w w' := by
  have HS1 := hidD hs1
  have HS2 := hidD hs2
  obtain ⟨a1, c1, rfl, h11, h12, _, _⟩ := hs1
  obtain ⟨a2, c2, rfl, h21, h22, _, _⟩ := hs2
  unfold maxLen at h12 h22
  by_cases hl : l1.length = l2.length
  · have hN2 : Hid (l1.length = l2.length) := hl
    rw [← hl] at h21 ⊢
    obtain ⟨N, hN⟩ : ∃ N, N = l1.length := ⟨_, rfl⟩
    rw [← hN] at h11 h21 ⊢
    have HN : Hid (N = l1.length) := hN
    obtain ⟨D, hD⟩ : ∃ D, D = decide (l1 = l2) := ⟨_, rfl⟩
    rw [← hD]
    have HD := hidD hD
    clear hl hN hD
    go_enter Try.func20, Try.ntmps20
    go_wp2
    go_loopw [5] (fun i wr => ∃ k : Nat, k ≤ N ∧ i = .int .i64 k ∧ Hid (l1.take k = l2.take k) ∧ Below w.heap.size w wr) (fun i _ => N - (intOf i).toNat)
    case atStart => exact ⟨0, Nat.zero_le _, rfl, by simp [Hid], Below.refl _ _⟩
    case round =>
      obtain ⟨k, hk, rfl, hc, hbel⟩ := hrel
      by_cases hlt : k < N
      · obtain ⟨a1', c1', he1, _, _, h13, h14⟩ := HS1.out.below hbel
        obtain ⟨a2', c2', he2, _, _, h23, h24⟩ := HS2.out.below hbel
        injection he1 with e11 e12 e13
        injection he2 with e21 e22 e23
        subst e11 e13 e21 e23
        clear e12 e22
        obtain ⟨g1, o1, rfl, hg1, hcell1⟩ := seg_at (l := l1) (by have := HN.out; omega) h13 h14
        obtain ⟨g2, o2, rfl, hg2, hcell2⟩ := seg_at (l := l2) (by have := HN.out; have := hN2.out; omega) h23 h24
        have Q1 := hcell1 k (by have := HN.out; omega)
        have Q2 := hcell2 k (by have := HN.out; have := hN2.out; omega)
        have k1 : k < l1.length := by have := HN.out; omega
        have k2 : k < l2.length := by have := HN.out; have := hN2.out; omega
        have HT := hidD (List.take_succ_eq_append_getElem k1)
        have HT2 := hidD (List.take_succ_eq_append_getElem k2)
        have HE1 := hidD (dgetD_at k1)
        have HE2 := hidD (dgetD_at k2)
        have hbd := belowD_drew hbel
        clear hcell1 hcell2 h13 h14 h23 h24
        by_cases hq : l1.getD k 0 = l2.getD k 0
        · have hc2 : Hid (l1.take (k + 1) = l2.take (k + 1)) := by
            show _ = _
            rw [HT.out, HT2.out, hc.out, ← HE1.out, ← HE2.out, hq]
          rw [hq] at Q1
          clear HT HT2 HE1 HE2 hq k1 k2
          generalize l2.getD k 0 = x at *
          go_wp2
          go_region
          all_goals
            go_wp2
            exact ⟨⟨k + 1, by omega, by go_num, hc2, hbd⟩, by simp [intOf]; omega⟩
        · have hne : l1 ≠ l2 := fun h => hq (by rw [h])
          have hdd := HD.out
          rw [decide_eq_false hne] at hdd
          subst hdd
          clear HT HT2 HE1 HE2 k1 k2 hne
          generalize l2.getD k 0 = x at *
          generalize l1.getD k 0 = y at *
          go_wp2
          go_region
          all_goals
            go_wp2
            go_ret
            exact ⟨rfl, hbd⟩
      · have hke1 : l1.take k = l1 := List.take_of_length_le (by have := HN.out; omega)
        have hke2 : l2.take k = l2 := List.take_of_length_le (by have := HN.out; have := hN2.out; omega)
        have hcc := hc.out
        rw [hke1, hke2] at hcc
        have hdd := HD.out
        rw [decide_eq_true hcc] at hdd
        subst hdd
        clear hke1 hke2 hcc hc
        go_wp2
        go_ret
        exact ⟨rfl, hbel⟩
  · have hne : l1 ≠ l2 := fun h => hl (by rw [h])
    rw [decide_eq_false hne]
    have hl' : (l1.length : Int) ≠ (l2.length : Int) := by omega
    clear hne hl HS1 HS2
    generalize l1.length = n1 at *
    generalize l2.length = n2 at *
    go_enter Try.func20, Try.ntmps20
    go_wp2
    go_ret
    exact ⟨rfl, Below.refl _ _⟩

theorem rints1 (s : Nat) (a : Int) (w : World) (hx : s < 18446744073709551616) :
    Calls Try.prog 26 #[.int .u64 s, .slice (some ⟨w.heap.size, 0, none⟩) 1 1] (w.alloc (.cells #[.int .i64 a] 3)) fun e w' => e = .returned (.int .u64 (Hp.ints s [a] : Nat)) ∧ Below w.heap.size w w' := by
  refine (rints_any s _ [a] _ hx (seg_new w [a] _ (by simp))).mono ?_
  rintro e w' ⟨rfl, rfl⟩
  exact ⟨rfl, (Below.refl _ _).alloc (Nat.le_refl _) _⟩

theorem Rp.ids_ring {n : Int} {l : List Rp.Pt} (h : Rp.buildE n l = 0) (h0 : 0 < l.length) : Rp.ids (Rp.ring n l) = l.map (·.1) := by
  have hp := Rp.ring_peopled h h0
  have k3 := (Rp.check_ok (Rp.build_ok h).1).2.2
  unfold Rp.ids
  have hperm : ((Rp.walkL (Rp.ring n l) 0).mergeSort fun x y => decide (x ≤ y)).Perm (l.map (·.1)) := by
    refine (List.mergeSort_perm _ _).trans ?_
    rw [List.perm_ext_iff_of_nodup (Rp.walk_nodup _ _) (Rp.ids_nodup k3)]
    intro y
    rw [Rp.walk_mem 0 hp, Rp.pts_ids h]
  have hs1 : ((Rp.walkL (Rp.ring n l) 0).mergeSort fun x y => decide (x ≤ y)).Pairwise (fun x y => decide (x ≤ y) = true) := by
    refine List.pairwise_mergeSort (fun a b c h1 h2 => ?_) (fun a b => ?_) _
    · simp only [decide_eq_true_iff] at *; omega
    · simp only [Bool.or_eq_true, decide_eq_true_iff]; omega
  have hs2 : (l.map (·.1)).Pairwise (fun x y => decide (x ≤ y) = true) := by
    rw [List.pairwise_map]
    exact (Rp.rises_pair k3).imp fun {x y} hlt => by simp only [decide_eq_true_iff]; omega
  exact hperm.eq_of_pairwise (fun x y _ _ h1 h2 => by simp only [decide_eq_true_iff] at *; omega) hs1 hs2
end Go.Proofs.Ytekmcooghkchpaa
