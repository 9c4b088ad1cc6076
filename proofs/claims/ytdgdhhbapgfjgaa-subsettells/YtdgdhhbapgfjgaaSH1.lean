/- subset: once, each number once, rising. -/
import Derived.Test.YtdgdhhbapgfjgaaSB
import Derived.Shelf.SlicesG.CompactI
import Derived.Shelf.SlicesG.SearchI
import Derived.Shelf.SlicesG.Clone
import Derived.Ground.SlgnProg
namespace Go.Proofs
open Go.Shelf
shelf_lay_g SlLaysN.n41 Slgn 41 at Try 36 as Try.cloneI
shelf_lay_g SlLaysN.n43 Slgn 43 at Try 37 as Try.compactI
shelf_lay_g SlLaysN.n49 Slgn 49 at Try 39 as Try.bsearchI
end Go.Proofs
namespace Go.Proofs.Ytdgdhhbapgfjgaa
open Go.RowKit Go.Sort Go.Shelf
set_option linter.unusedVariables false

def Sp.onc (l : List Int) : List Int := Lib.compact (Sp.srt l)
theorem Sp.cmp_at {l : List Int} {j : Nat} (hj : j < l.length) : l.toArray[j]! = l.getD j 0 := by
  simp [List.getD, hj]
theorem Sp.cmp_up {l : List Int} (h : l.Pairwise (· ≤ ·)) (m : Nat) (hm : m ≤ l.length) : Sp.Up (Lib.compactUpTo l.toArray m) ∧ ∀ z, z ∈ Lib.compactUpTo l.toArray m ↔ z ∈ l.take m := by
  have hle : ∀ i j, i ≤ j → j < l.length → l.getD i 0 ≤ l.getD j 0 := by
    intro i j hij hj
    by_cases he : i = j
    · subst he; exact Int.le_refl _
    · rw [dgetD_at hj, dgetD_at (by omega : i < l.length)]
      exact List.pairwise_iff_getElem.1 h i j (by omega) hj (by omega)
  induction m with
  | zero => simp [Lib.compactUpTo]
  | succ m ih =>
    obtain ⟨i1, i2⟩ := ih (by omega)
    rw [Lib.compactUpTo_succ]
    have htake : ∀ z, z ∈ l.take (m + 1) ↔ z ∈ l.take m ∨ z = l.getD m 0 := fun z => mem_take_succ (by omega)
    by_cases hk : Lib.keeps l.toArray m = true
    · rw [if_pos hk, Sp.cmp_at (by omega)]
      have hlast : ∀ z ∈ Lib.compactUpTo l.toArray m, z < l.getD m 0 := by
        intro z hz
        have hz2 := (i2 z).1 hz
        obtain ⟨i, hi, rfl⟩ := List.mem_iff_getElem.1 hz2
        rw [List.length_take] at hi
        rw [List.getElem_take, ← dgetD_at]
        have h0 : m ≠ 0 := by omega
        unfold Lib.keeps at hk
        rw [decide_eq_true_iff, Sp.cmp_at (by omega), Sp.cmp_at (by omega)] at hk
        rcases hk with hk | hk
        · exact absurd hk h0
        · have e1 := hle i (m - 1) (by omega) (by omega)
          have e2 := hle (m - 1) m (by omega) (by omega)
          omega
      constructor
      · refine List.pairwise_append.2 ⟨i1, List.pairwise_singleton _ _, fun a ha b hb => ?_⟩
        rw [List.mem_singleton] at hb
        subst hb
        exact hlast a ha
      · intro z
        rw [List.mem_append, List.mem_singleton, i2 z, htake z]
    · rw [if_neg hk, List.append_nil]
      refine ⟨i1, fun z => ?_⟩
      rw [i2 z, htake z]
      constructor
      · exact .inl
      · rintro (h | rfl)
        · exact h
        · have h0 : m ≠ 0 := by
            intro e
            subst e
            exact hk (Lib.keeps_lt_one _ 0 (by omega))
          have he : l.getD m 0 = l.getD (m - 1) 0 := by
            unfold Lib.keeps at hk
            rw [decide_eq_true_iff, Sp.cmp_at (by omega), Sp.cmp_at (by omega)] at hk
            by_cases e : l.getD m 0 = l.getD (m - 1) 0
            · exact e
            · exact absurd (.inr e) hk
          rw [he, dgetD_at (by omega : m - 1 < l.length)]
          exact List.mem_iff_getElem.2 ⟨m - 1, by rw [List.length_take]; omega, by rw [List.getElem_take]⟩
theorem Sp.onc_up (l : List Int) : Sp.Up (Sp.onc l) := (Sp.cmp_up (Sp.srt_le l) _ (Nat.le_refl _)).1
theorem Sp.onc_mem {l : List Int} {z : Int} : z ∈ Sp.onc l ↔ z ∈ l := by
  unfold Sp.onc Lib.compact
  rw [(Sp.cmp_up (Sp.srt_le l) _ (Nat.le_refl _)).2, List.take_of_length_le (Nat.le_refl _), Sp.srt_mem]
theorem Sp.onc_length (l : List Int) : (Sp.onc l).length ≤ l.length := by
  unfold Sp.onc Lib.compact Lib.compactUpTo
  rw [List.length_map]
  refine Nat.le_trans (List.length_filter_le _ _) ?_
  rw [List.length_range, Sp.srt_length]
  exact Nat.le_refl _

theorem clone_any (v : Value) (l : List Int) (w : World) (hs : Seg .i64 w v l) (hl : l.length ≤ 17592186044415) :
    Calls Try.prog 36 #[v] w fun e w' => ∃ v', e = .returned v' ∧ w'.ownsRow w.heap.size 3 1 v' l.length (i64s l) ∧ Below w.heap.size w w' := by
  obtain ⟨a, cap, rfl, h1, h2, h3, h4⟩ := hs
  by_cases h0 : 0 < l.length
  · obtain ⟨b, off, rfl, hb, hc⟩ := seg_at h0 h3 h4
    have c := AnyG.slices_Clone_int Try.cloneI b off l.length cap l w (Nat.le_refl _) (by omega) hc
    change Calls Try.prog 36 _ _ _ at c
    refine c.mono ?_
    rintro e w' ⟨v', rfl, row, _, b'⟩
    rw [List.take_of_length_le (Nat.le_refl _)] at row
    exact ⟨v', rfl, row, b'⟩
  · have hl0 : l = [] := List.length_eq_zero_iff.1 (by omega)
    subst hl0
    rcases a with _ | x
    · have c := AnyG.slices_Clone_int_nil Try.cloneI ([] : List Int).length cap w
      change Calls Try.prog 36 _ _ _ at c
      refine c.mono ?_
      rintro e w' ⟨rfl, rfl⟩
      exact ⟨_, rfl, World.ownsRow_nil _ _ _ _, Below.refl _ _⟩
    · have c := AnyG.slices_Clone_int_zero Try.cloneI x cap w
      change Calls Try.prog 36 _ _ _ at c
      refine c.mono ?_
      rintro e w' ⟨v', rfl, row, _, b'⟩
      exact ⟨v', rfl, row, b'⟩

theorem compact_at (W : World) (g cap : Nat) (d : List Int) (hd : d.length ≤ 1000000000000000000) (hc : d.length ≤ cap) (hg : g < W.heap.size) (hH : Holds encI64 W g 0 d.toArray) :
    Calls Try.prog 37 #[.slice (some ⟨g, 0, none⟩) d.length cap] W fun e w' => e = .returned (.slice (some ⟨g, 0, none⟩) (Lib.compact d).length cap) ∧ Holds encI64 w' g 0 (Lib.compact d).toArray ∧ W.grownBy w' (some g) := by
  have c := AnyG.slices_Compact_int Try.compactI g 0 cap d W hH (by omega) hc
  change Calls Try.prog 37 _ _ _ at c
  refine c.mono ?_
  rintro e w' ⟨rfl, n, rfl⟩
  have hle : (Lib.compact d).length ≤ d.length := by
    unfold Lib.compact Lib.compactUpTo
    rw [List.length_map]
    refine Nat.le_trans (List.length_filter_le _ _) ?_
    rw [List.length_range]
    exact Nat.le_refl _
  refine ⟨rfl, ?_, ⟨rfl, rfl, rfl, ?_, fun k hk hne => ?_⟩⟩
  · have hh := holds_putRow encI64 (Sort.ahead W n) g 0 d.toArray (Lib.compact d ++ List.replicate (d.length - (Lib.compact d).length) 0).toArray (holds_ahead _ _ _ _ _ _ hH) (by simp; omega)
    have h2 := holds_part (f := 0) (k := (Lib.compact d).length) hh
    rw [List.drop_zero, List.take_append_of_le_length (Nat.le_refl _), List.take_of_length_le (Nat.le_refl _)] at h2
    exact h2
  · simp [putRow, mapBlock, Sort.ahead]
  · have hne' : g ≠ k := fun e => hne (by rw [e])
    simp only [putRow, mapBlock, Sort.ahead]
    rw [Array.getElem?_modify, if_neg hne']
theorem compact_nil (W : World) (p : Option Addr) (cap : Nat) :
    Calls Try.prog 37 #[.slice p 0 cap] W fun e w' => e = .returned (.slice p 0 cap) ∧ w' = W := by
  have c := AnyG.slices_Compact_int_empty Try.compactI p cap W
  exact c

set_option maxHeartbeats 1000000 in
theorem once_any (v : Value) (l : List Int) (w : World) (hs : Seg .i64 w v l) (hl : l.length ≤ 17592186044415) :
    Calls Try.prog 29 #[v] w fun e w' => ∃ v', e = .returned v' ∧ Seg .i64 w' v' (Sp.onc l) ∧ Below w.heap.size w w' := by
  have c1 := clone_any v l w hs hl
  clear hs
  go_enter Try.func29, Try.ntmps29
  go_wp2_with fail
  with_reducible refine c1.mono ?_
  rintro e w1 ⟨v1, rfl, row, b1⟩
  clear c1
  by_cases h0 : 0 < l.length
  · obtain ⟨g, cap, rfl⟩ := row_block row h0
    have hcap : l.length ≤ cap ∧ cap ≤ maxLen := by
      obtain ⟨_, _, e', g1, g2, _, _⟩ := Seg.own row
      cases e'
      exact ⟨g1, g2⟩
    have hlt := row.lt g rfl
    have c2 := sort_at w1 g 0 cap l (by omega) hlt.2 (holds_row row)
    clear row
    go_wp2_with fail
    with_reducible refine c2.mono ?_
    rintro e w2 ⟨rfl, hH, hg⟩
    have hsz := hg.size
    have c3 := compact_at w2 g cap (Sp.srt l) (by rw [Sp.srt_length]; omega) (by rw [Sp.srt_length]; exact hcap.1) (by omega) hH
    rw [Sp.srt_length] at c3
    have B2 := b1.grown hg b1.size (fun j e => by cases e; exact hlt.1)
    have HON : Hid (Lib.compact (Sp.srt l) = Sp.onc l) := hidD rfl
    have hol := Sp.onc_length l
    rw [HON.out] at c3
    clear c2 hH
    go_wp2_with fail
    with_reducible refine c3.mono ?_
    rintro e w3 ⟨rfl, hH3, hg3⟩
    have hseg := holds_seg (cap := cap) hH3 (by omega) hcap.2
    have B3 := B2.grown hg3 B2.size (fun j e => by cases e; exact hlt.1)
    have HSEG := hidD hseg
    clear c3 hH3 hseg
    go_wp2
    go_ret
    exact ⟨_, rfl, HSEG.out, B3⟩
  · have hl0 : l = [] := List.length_eq_zero_iff.1 (by omega)
    subst hl0
    obtain ⟨p, cap, rfl⟩ := row_slice row
    have hon : Hid (Sp.onc [] = []) := hidD (by simp [Sp.onc, Sp.srt, Lib.compact, Lib.compactUpTo])
    have hseg : Seg .i64 w1 (.slice p 0 cap) [] := Seg.own row
    have HSEG := hidD hseg
    have c2 := sort_nil w1 p cap
    have c3 := compact_nil w1 p cap
    clear row hseg
    go_wp2_with fail
    refine c2.mono ?_
    rintro e w2 ⟨rfl, rfl⟩
    go_wp2_with fail
    refine c3.mono ?_
    rintro e w3 ⟨rfl, rfl⟩
    go_wp2
    go_ret
    exact ⟨_, rfl, (by rw [hon.out]; exact HSEG.out), b1⟩
end Go.Proofs.Ytdgdhhbapgfjgaa
