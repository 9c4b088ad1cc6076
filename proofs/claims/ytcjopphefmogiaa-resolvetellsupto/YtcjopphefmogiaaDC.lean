/- draw: slices.IndexFunc and ContainsFunc of numbers; Below, of both; SameInts. -/
import Derived.Test.YtcjopphefmogiaaDB
import Derived.OwnWalk
import Derived.RegionTactic
namespace Go.Proofs.Ytcjopphefmogiaa
open Go.RowKit
set_option maxRecDepth 20000

theorem Try.info3 : (Try.prog.info? 3).map (fun i => (i.zero, i.size, i.bytes)) = some (some (.int .i64 0), 1, 8) := by kernel_rfl
abbrev i64s (l : List Int) : List Value := l.map (Value.int .i64)

theorem belowD_drew {B : Nat} {w w' : World} (h : Below B w w') : Below B w w'.drew := ⟨h.os, h.tape, h.output, h.size, h.block⟩
theorem hidD {p : Prop} (h : p) : Hid p := h
theorem dgetD_at {l : List Int} {i : Nat} (h : i < l.length) : l.getD i 0 = l[i] := by simp [List.getD, h]
theorem dany_take (f : Int → Bool) (l : List Int) (k : Nat) (h : k < l.length) : (l.take (k + 1)).any f = ((l.take k).any f || f (l.getD k 0)) := by
  rw [List.take_succ_eq_append_getElem h]
  simp only [List.any_append, List.any_cons, List.any_nil, Bool.or_false, dgetD_at h]
theorem dany_at (f : Int → Bool) (l : List Int) (k : Nat) (h : k < l.length) (hf : f (l.getD k 0) = true) : l.any f = true := by
  rw [List.any_eq_true]
  exact ⟨l.getD k 0, by rw [dgetD_at h]; exact List.getElem_mem _, hf⟩

/-- A number that may not be. -/
def badB (n : Int) : Bool := decide (n < 1) || decide (1048576 < n)
set_option maxHeartbeats 1000000 in
theorem sameInts_any (v1 v2 : Value) (l1 l2 : List Int) (w : World) (hs1 : Seg .i64 w v1 l1) (hs2 : Seg .i64 w v2 l2) :
    Calls Try.prog 22 #[v1, v2] w fun e w' => e = .returned (.bool (decide (l1 = l2))) ∧ Below w.heap.size w w' := by
  have HS1 := hidD hs1
  have HS2 := hidD hs2
  obtain ⟨a1, c1, rfl, h11, h12, _, _⟩ := hs1
  obtain ⟨a2, c2, rfl, h21, h22, _, _⟩ := hs2
  unfold maxLen at h12 h22
  by_cases hl : l1.length = l2.length
  · have hN2 : Hid (l1.length = l2.length) := hl
    rw [← hl] at h21 ⊢
    obtain ⟨N, hN⟩ : ∃ N, N = l1.length := ⟨_, rfl⟩
    rw [← hN] at h11 h21 ⊢
    have HN : Hid (N = l1.length) := hN
    obtain ⟨D, hD⟩ : ∃ D, D = decide (l1 = l2) := ⟨_, rfl⟩
    rw [← hD]
    have HD := hidD hD
    clear hl hN hD
    go_enter Try.func22, Try.ntmps22
    go_wp2
    go_loopw [5] (fun i wr => ∃ k : Nat, k ≤ N ∧ i = .int .i64 k ∧ Hid (l1.take k = l2.take k) ∧ Below w.heap.size w wr) (fun i _ => N - (intOf i).toNat)
    case atStart => exact ⟨0, Nat.zero_le _, rfl, by simp [Hid], Below.refl _ _⟩
    case round =>
      obtain ⟨k, hk, rfl, hc, hbel⟩ := hrel
      by_cases hlt : k < N
      · obtain ⟨a1', c1', he1, _, _, h13, h14⟩ := HS1.out.below hbel
        obtain ⟨a2', c2', he2, _, _, h23, h24⟩ := HS2.out.below hbel
        injection he1 with e11 e12 e13
        injection he2 with e21 e22 e23
        subst e11 e13 e21 e23
        clear e12 e22
        obtain ⟨g1, o1, rfl, hg1, hcell1⟩ := seg_at (l := l1) (by have := HN.out; omega) h13 h14
        obtain ⟨g2, o2, rfl, hg2, hcell2⟩ := seg_at (l := l2) (by have := HN.out; have := hN2.out; omega) h23 h24
        have Q1 := hcell1 k (by have := HN.out; omega)
        have Q2 := hcell2 k (by have := HN.out; have := hN2.out; omega)
        have k1 : k < l1.length := by have := HN.out; omega
        have k2 : k < l2.length := by have := HN.out; have := hN2.out; omega
        have HT := hidD (List.take_succ_eq_append_getElem k1)
        have HT2 := hidD (List.take_succ_eq_append_getElem k2)
        have HE1 := hidD (dgetD_at k1)
        have HE2 := hidD (dgetD_at k2)
        have hbd := belowD_drew hbel
        clear hcell1 hcell2 h13 h14 h23 h24
        by_cases hq : l1.getD k 0 = l2.getD k 0
        · have hc2 : Hid (l1.take (k + 1) = l2.take (k + 1)) := by
            show _ = _
            rw [HT.out, HT2.out, hc.out, ← HE1.out, ← HE2.out, hq]
          rw [hq] at Q1
          clear HT HT2 HE1 HE2 hq k1 k2
          generalize l2.getD k 0 = x at *
          go_wp2
          go_region
          all_goals
            go_wp2
            exact ⟨⟨k + 1, by omega, by go_num, hc2, hbd⟩, by simp [intOf]; omega⟩
        · have hne : l1 ≠ l2 := fun h => hq (by rw [h])
          have hdd := HD.out
          rw [decide_eq_false hne] at hdd
          subst hdd
          clear HT HT2 HE1 HE2 k1 k2 hne
          generalize l2.getD k 0 = x at *
          generalize l1.getD k 0 = y at *
          go_wp2
          go_region
          all_goals
            go_wp2
            go_ret
            exact ⟨rfl, hbd⟩
      · have hke1 : l1.take k = l1 := List.take_of_length_le (by have := HN.out; omega)
        have hke2 : l2.take k = l2 := List.take_of_length_le (by have := HN.out; have := hN2.out; omega)
        have hcc := hc.out
        rw [hke1, hke2] at hcc
        have hdd := HD.out
        rw [decide_eq_true hcc] at hdd
        subst hdd
        clear hke1 hke2 hcc hc
        go_wp2
        go_ret
        exact ⟨rfl, hbel⟩
  · have hne : l1 ≠ l2 := fun h => hl (by rw [h])
    rw [decide_eq_false hne]
    have hl' : (l1.length : Int) ≠ (l2.length : Int) := by omega
    clear hne hl HS1 HS2
    generalize l1.length = n1 at *
    generalize l2.length = n2 at *
    go_enter Try.func22, Try.ntmps22
    go_wp2
    go_ret
    exact ⟨rfl, Below.refl _ _⟩
end Go.Proofs.Ytcjopphefmogiaa
