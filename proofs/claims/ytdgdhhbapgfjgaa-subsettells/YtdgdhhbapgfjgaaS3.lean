/- subset: sorting a part of a row, places. -/
import Derived.Test.YtdgdhhbapgfjgaaS1
import Derived.Shelf.SortM.Plain
import Derived.Shelf.SortM.SortNone
import Derived.Shelf.SlGeneric
import Derived.Ground.SlgmProg
import Derived.Carry
namespace Go.Proofs
open Go.Shelf
shelf_lay_g SlLaysM.n5 Slgm 5 at Try 33 as Try.sortI
end Go.Proofs
namespace Go.Proofs.Ytdgdhhbapgfjgaa
open Go.RowKit Go.Sort Go.Shelf
set_option linter.unusedVariables false

abbrev encI64 : Int → Value := Value.int .i64
theorem holds_cells {w : World} {g off : Nat} {d : List Int} (h : Holds encI64 w g off d.toArray) (j : Nat) (hj : j < d.length) : w.cell? ⟨g, off + j, none⟩ = some (.int .i64 (d.getD j 0)) := by
  rw [(h j (by simpa using hj)).1]
  simp [List.getD, hj]
theorem holds_seg {w : World} {g off cap : Nat} {d : List Int} (h : Holds encI64 w g off d.toArray) (hc : d.length ≤ cap) (hm : cap ≤ maxLen) : Seg .i64 w (.slice (some ⟨g, off, none⟩) d.length cap) d := by
  refine ⟨some ⟨g, off, none⟩, cap, rfl, hc, hm, fun h => (by cases h), fun x hx i hi => ?_⟩
  cases hx
  rw [add_plain]
  exact holds_cells h i hi
theorem holds_row {w : World} {B g cap : Nat} {d : List Int} (h : w.ownsRow B 3 1 (.slice (some ⟨g, 0, none⟩) d.length cap) d.length (i64s d)) : Holds encI64 w g 0 d.toArray := by
  intro j hj
  have hj' : j < d.length := by simpa using hj
  rw [Nat.zero_add]
  refine ⟨?_, h.frozenAt j⟩
  rw [h.cellAt j (by omega)]
  simp [hj']
theorem holds_part {w : World} {g f k : Nat} {d : List Int} (h : Holds encI64 w g 0 d.toArray) : Holds encI64 w g f ((d.drop f).take k).toArray := by
  intro j hj
  have hj' : j < ((d.drop f).take k).length := by simpa using hj
  have hl : f + j < d.length := by rw [List.length_take, List.length_drop] at hj'; omega
  have := h (f + j) (by simpa using hl)
  rw [Nat.zero_add] at this
  refine ⟨?_, this.2⟩
  rw [this.1]
  congr 1
  have hk : j < k := by rw [List.length_take] at hj'; omega
  have hl2 : j < (d.drop f).length := by rw [List.length_drop]; omega
  simp [hl, hk]

theorem sort_at (W : World) (g off cap : Nat) (d : List Int) (hd : d.length ≤ 1000000000000000000) (hg : g < W.heap.size) (hH : Holds encI64 W g off d.toArray) :
    Calls Try.prog 33 #[.slice (some ⟨g, off, none⟩) d.length cap] W fun e w' => e = .returned (.tuple #[]) ∧ Holds encI64 w' g off (Sp.srt d).toArray ∧ W.grownBy w' (some g) := by
  have c := AnyM.slices_Sort_int Try.sortI g off cap d W hH hg (by omega)
  change Calls Try.prog 33 _ _ _ at c
  refine c.mono ?_
  rintro e w' ⟨rfl, n, os, rfl⟩
  refine ⟨rfl, ?_, ⟨rfl, rfl, rfl, ?_, fun k hk hne => ?_⟩⟩
  · refine holds_grow _ _ _ _ _ _ (by simpa [putRow, mapBlock, Sort.ahead] using hg) ?_
    exact holds_putRow _ _ _ _ d.toArray _ (holds_ahead _ _ _ _ _ _ hH) (by simp)
  · simp [grow, putRow, mapBlock, Sort.ahead]
  · have hne' : g ≠ k := fun e => hne (by rw [e])
    simp only [grow, putRow, mapBlock, Sort.ahead]
    rw [Array.getElem?_append_left (by simpa using hk), Array.getElem?_modify, if_neg hne']
theorem sort_nil (W : World) (p : Option Addr) (cap : Nat) :
    Calls Try.prog 33 #[.slice p 0 cap] W fun e w' => e = .returned (.tuple #[]) ∧ W = w' := by
  have c := AnyM.slices_Sort_int_none Try.sortI p cap W
  change Calls Try.prog 33 _ _ _ at c
  refine c.mono ?_
  rintro e w' ⟨rfl, rfl⟩
  exact ⟨rfl, rfl⟩

/-- A slice whose row lies at or above a block. -/
def FreshS (B : Nat) (v : Value) : Prop := ∀ x n c, v = .slice (some x) n c → B ≤ x.block
theorem FreshS.none (B n c : Nat) : FreshS B (.slice none n c) := fun x n c h => by cases h
theorem FreshS.at {B g : Nat} (o n c : Nat) (h : B ≤ g) : FreshS B (.slice (some ⟨g, o, .none⟩) n c) := fun x n c e => by cases e; exact h

set_option maxRecDepth 20000 in
set_option maxHeartbeats 4000000 in
theorem places_v (n f t : Nat) (c k R P : Int) (s s2 : Nat) (w : World) (O : List Int) (X : Nat) (hO : O.length = n) (hn : n ≤ 32) (hk : 1 ≤ k) (hk2 : k ≤ 32) (hPk : P * k = f) (hP0 : 0 ≤ P) (hP : P ≤ 32) (hf : f ≤ n) (ht : (t : Int) = min ((f : Int) + k) n) (hft : f ≤ t) (htn : t ≤ n)
    (C1 : ∀ w : World, Calls Try.prog 12 #[.int .i64 n, .int .i64 c, .int .i64 k] w fun e w' => e = .returned (.tuple #[.int .i64 R, .int .i64 P, .int .i64 0]) ∧ Below w.heap.size w w')
    (C2 : ∀ w : World, Calls Try.prog 32 #[.int .u64 s, .slice (some ⟨w.heap.size, 0, none⟩) 1 1] (w.alloc (.cells #[.int .i64 R] 3)) fun e w' => e = .returned (.int .u64 (s2 : Nat)) ∧ Below w.heap.size w w')
    (C3 : ∀ w : World, Calls Try.prog 31 #[.int .u64 s2, .int .i64 n] w fun e w' => ∃ v', e = .returned (.tuple #[.int .u64 (X : Nat), v', .int .i64 0]) ∧ w'.ownsRow w.heap.size 3 1 v' O.length (i64s O) ∧ Below w.heap.size w w') :
    Calls Try.prog 23 #[.int .i64 n, .int .i64 c, .int .i64 k, .int .u64 s] w fun e w' => ∃ v', e = .returned (.tuple #[v', .int .i64 0]) ∧ Seg .i64 w' v' (Sp.srt ((O.drop f).take k.toNat)) ∧ Below w.heap.size w w' ∧ FreshS w.heap.size v' := by
  have hwf : (f : Int) + k ≤ 1000 := by omega
  go_enter Try.func23, Try.ntmps23
  go_wp2_with fail
  with_reducible refine (C1 w).mono ?_
  rintro e w1 ⟨rfl, b1⟩
  go_wp2_with fail
  with_reducible refine (C2 w1).mono ?_
  rintro e w2 ⟨rfl, b2⟩
  go_wp2_with fail
  with_reducible refine (C3 w2).mono ?_
  rintro e w3 ⟨v3, rfl, row, b3⟩
  have B3 := Below.step (Below.step b1 b2) b3
  have b12 := (Below.step b1 b2).size
  have LL : (Sp.srt ((O.drop f).take k.toNat)).length = t - f := by
    rw [Sp.srt_length, List.length_take, List.length_drop, hO]; omega
  have LL2 : ((O.drop f).take k.toNat).length = t - f := by
    rw [List.length_take, List.length_drop, hO]; omega
  clear C1 C2 C3 b1 b2 b3
  rcases row.2 with ⟨hv, h0⟩ | ⟨g, cap, cur, hv, hge, hgb, hle, hmx, hsz, htk⟩
  · subst hv
    obtain rfl : n = 0 := by omega
    obtain rfl : f = 0 := by omega
    obtain rfl : t = 0 := by omega
    have c5 := sort_nil w3 none 0
    have hN : Seg .i64 w3 (.slice none 0 0) (Sp.srt ((O.drop 0).take k.toNat)) := by
      rw [List.length_eq_zero_iff.1 (by omega : (Sp.srt ((O.drop 0).take k.toNat)).length = 0)]
      exact Seg.nil _ _
    have HSEG := hidD hN
    have htm : min k 0 = 0 := by omega
    clear LL LL2 hO row hN ht
    go_wp2_with fail
    with_reducible refine c5.mono ?_
    rintro e w4 ⟨rfl, rfl⟩
    go_wp2
    go_ret2
    exact ⟨_, rfl, HSEG.out, B3, FreshS.none _ _ _⟩
  · subst hv
    have hH := holds_part (f := f) (k := k.toNat) (holds_row row)
    have HGE : Hid (w.heap.size ≤ g) := hidD (Nat.le_trans b12 hge)
    have hg : g < w3.heap.size := (Array.getElem?_eq_some_iff.1 hgb).1
    have c5 := sort_at w3 g f (cap - f) _ (by rw [LL2]; omega) hg hH
    rw [LL2] at c5
    rw [hO] at hle
    rw [hO]
    have HLL := hidD LL
    obtain ⟨SR, hSR⟩ : ∃ SR, SR = Sp.srt ((O.drop f).take k.toNat) := ⟨_, rfl⟩
    rw [← hSR] at HLL c5
    have HSR := hidD hSR
    clear LL LL2 hO hH row hgb hsz htk hSR
    have htm : min ((f : Int) + k) n = (t : Int) := ht.symm
    clear ht
    have hcf : t ≤ cap := by omega
    by_cases hcap : cap = f
    · subst hcap
      obtain rfl : t = cap := by omega
      have c6 := sort_nil w3 (some ⟨g, 0, none⟩) 0
      have hS : SR = [] := List.length_eq_zero_iff.1 (by have := HLL.out; omega)
      subst hS
      clear c5 HLL
      go_wp2_with fail
      first
      | with_reducible refine c6.mono ?_
      | (rw [show t - t = 0 from Nat.sub_self t]; with_reducible refine c6.mono ?_)
      rintro e w4 ⟨rfl, rfl⟩
      have HSEG : Hid (Seg .i64 w3 (.slice (some ⟨g, 0, none⟩) 0 0) []) := ⟨some ⟨g, 0, none⟩, 0, rfl, Nat.le_refl _, Nat.zero_le _, fun h => (by cases h), fun x hx i hi => absurd hi (Nat.not_lt_zero _)⟩
      go_wp2
      go_ret2
      exact ⟨.slice (some ⟨g, 0, none⟩) 0 0, rfl, (by rw [← HSR.out]; exact HSEG.out), B3, FreshS.at _ _ _ HGE.out⟩
    have hcf2 : ¬ cap - f = 0 := by omega
    have hcf3 : ¬ cap ≤ f := by omega
    go_wp2_with fail
    with_reducible refine c5.mono ?_
    rintro e w4 ⟨rfl, hH4, hg4⟩
    have hseg : Seg .i64 w4 (.slice (some ⟨g, f, none⟩) (t - f) (cap - f)) SR := by
      have := holds_seg (cap := cap - f) hH4 (by have := HLL.out; omega) (by omega)
      rw [HLL.out] at this
      exact this
    have B4 := B3.grown hg4 B3.size (fun j e => by cases e; omega)
    have HSEG := hidD hseg
    clear hseg hH4
    go_wp2
    go_ret2
    exact ⟨.slice (some ⟨g, f, none⟩) (t - f) (cap - f), rfl, (by rw [← HSR.out]; exact HSEG.out), B4, FreshS.at _ _ _ HGE.out⟩

theorem places_new (n : Nat) (c k : Int) (s : Nat) (w : World) (hs : s < 18446744073709551616) :
    Calls Try.prog 23 #[.int .i64 n, .int .i64 c, .int .i64 k, .int .u64 s] w fun e w' => ∃ v', e = .returned (.tuple #[v', .int .i64 (Sp.rE n c k)]) ∧ Seg .i64 w' v' (Sp.plc n c k s) ∧ Below w.heap.size w w' ∧ FreshS w.heap.size v' := by
  by_cases hE : Sp.rE n c k = 0
  · obtain ⟨a1, a2, a3, a4, a5, a6, a7, a8, a9, a10, a11, a12⟩ := Sp.place_fits hE
    unfold Sp.plc
    rw [if_pos hE, hE]
    obtain ⟨f, hf⟩ := Int.eq_ofNat_of_zero_le a12
    have hP : Sp.rP n c k ≤ 32 := by
      have : Sp.rP n c k * 1 ≤ Sp.rP n c k * k := Int.mul_le_mul_of_nonneg_left a1 a6
      omega
    have hcut : Sp.cut n c k s = (((Sp.ord n c k s).map Int.ofNat).drop f).take k.toNat := by
      unfold Sp.cut
      rw [hf]
      rfl
    rw [hcut]
    obtain ⟨t, ht⟩ : ∃ t : Nat, (t : Int) = min ((f : Int) + k) n := ⟨(min ((f : Int) + k) n).toNat, by omega⟩
    refine places_v n f t c k _ _ s (Hp.ints s [Sp.rR n c k]) w _ (Hp.skip (Hp.ints s [Sp.rR n c k]) (n - 1)) (Sp.ord_length n c k s) a3 a1 a2 hf a6 hP (by omega) ht (by omega) (by omega) (fun w => ?_) (fun w => ints1 s _ w hs) (fun w => ?_)
    · have := round_any n c k w
      rw [hE] at this
      exact this
    · have := shuffle_good (Hp.ints s [Sp.rR n c k]) n w (Hp.ints_lt hs _) (by omega)
      rw [Sp.ord_length]
      rw [nrow_ints] at this
      exact this
  · have c1 := round_any n c k w
    unfold Sp.plc
    rw [if_neg hE]
    generalize Sp.rE n c k = E at *
    generalize Sp.rR n c k = R at *
    generalize Sp.rP n c k = P at *
    go_enter Try.func23, Try.ntmps23
    go_wp2_with fail
    with_reducible refine c1.mono ?_
    rintro e w1 ⟨rfl, b1⟩
    go_wp2
    go_ret2
    exact ⟨_, rfl, Seg.nil _ _, b1, FreshS.none _ _ _⟩
theorem places_any (n : Nat) (c k : Int) (s : Nat) (w : World) (hs : s < 18446744073709551616) :
    Calls Try.prog 23 #[.int .i64 n, .int .i64 c, .int .i64 k, .int .u64 s] w fun e w' => ∃ v', e = .returned (.tuple #[v', .int .i64 (Sp.rE n c k)]) ∧ Seg .i64 w' v' (Sp.plc n c k s) ∧ Below w.heap.size w w' :=
  (places_new n c k s w hs).mono fun _ _ ⟨v', h1, h2, h3, _⟩ => ⟨v', h1, h2, h3⟩
end Go.Proofs.Ytdgdhhbapgfjgaa
