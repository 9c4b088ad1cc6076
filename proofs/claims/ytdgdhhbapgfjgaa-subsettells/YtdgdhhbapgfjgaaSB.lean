/- subset: what rows of numbers want; sorting by putting in, plainly; counts, plainly. -/
import Derived.Test.YtdgdhhbapgfjgaaSSp
namespace Go.Proofs.Ytdgdhhbapgfjgaa
open Go.RowKit
set_option maxRecDepth 20000

theorem own_below {W W' : World} {n₀ : Nat} {e : TypeId} {s : Nat} {v : Value} {k : Nat} {xs : List Value} (h : W.ownsRow n₀ e s v k xs) (hb : Below W.heap.size W W') : W'.ownsRow n₀ e s v k xs :=
  h.kept ⟨hb.os, hb.tape, hb.output, hb.size, fun k hk _ => hb.block k hk⟩ (row := none) (by cases hv : v.ownBlock <;> simp)
theorem own_drewN {W : World} {n₀ : Nat} {e : TypeId} {s : Nat} {v : Value} {k : Nat} {xs : List Value} (h : W.ownsRow n₀ e s v k xs) (n : Nat) : (W.drewN n).ownsRow n₀ e s v k xs := own_below h (drewD (Below.refl _ _) n)
theorem grown_trans {A B C : World} {g : Nat} (h : A.grownBy B (some g)) (k : B.grownBy C (some g)) : A.grownBy C (some g) :=
  ⟨k.os.trans h.os, k.tape.trans h.tape, k.output.trans h.output, Nat.le_trans h.size k.size, fun j hj hn => (k.block j (Nat.lt_of_lt_of_le hj h.size) hn).trans (h.block j hj hn)⟩
theorem i64s_get (l : List Int) (j : Nat) (h : j < l.length) : (i64s l)[j]? = some (.int .i64 (l.getD j 0)) := by simp [List.getD, h]
theorem i64s_set (l : List Int) (j : Nat) (y : Int) : i64s (l.set j y) = (i64s l).set j (.int .i64 y) := by simp [List.map_set]
theorem igetD_set_same (l : List Int) (m : Nat) (y : Int) (h : m < l.length) : (l.set m y).getD m 0 = y := by simp [List.getD, h]
theorem igetD_set_other (l : List Int) (m j : Nat) (y : Int) (h : m ≠ j) : (l.set m y).getD j 0 = l.getD j 0 := by simp [List.getD, List.getElem?_set_ne h]
theorem row_slice {W : World} {B : Nat} {e : TypeId} {v : Value} {n : Nat} {xs : List Value} (h : W.ownsRow B e 1 v n xs) : ∃ a c, v = .slice a n c := by
  rcases h.2 with ⟨rfl, h0⟩ | ⟨g, cc, cur, rfl, _⟩
  · exact ⟨none, 0, by rw [h0]⟩
  · exact ⟨_, _, rfl⟩
theorem row_block {W : World} {B : Nat} {e : TypeId} {v : Value} {n : Nat} {xs : List Value} (h : W.ownsRow B e 1 v n xs) (hn : 0 < n) : ∃ g c, v = .slice (some ⟨g, 0, none⟩) n c := by
  rcases h.2 with ⟨rfl, h0⟩ | ⟨g, cc, cur, rfl, _⟩
  · omega
  · exact ⟨_, _, rfl⟩

/-- A list with a number put in. -/
theorem Sp.put_le {XS : List Int} {y : Int} {s : Nat} (hs : s ≤ XS.length) (h1 : ∀ j, s ≤ j → j < XS.length → y < XS.getD j 0) (h2 : s = 0 ∨ XS.getD (s - 1) 0 ≤ y) (hX : XS.Pairwise (· ≤ ·)) : (XS.take s ++ y :: XS.drop s).Pairwise (· ≤ ·) := by
  have hle : ∀ i j, i ≤ j → j < XS.length → XS.getD i 0 ≤ XS.getD j 0 := by
    intro i j hij hj
    by_cases he : i = j
    · subst he; exact Int.le_refl _
    · rw [dgetD_at hj, dgetD_at (by omega : i < XS.length)]
      exact List.pairwise_iff_getElem.1 hX i j (by omega) hj (by omega)
  have ht : ∀ x ∈ XS.take s, x ≤ y := by
    intro x hx
    obtain ⟨i, hi, rfl⟩ := List.mem_iff_getElem.1 hx
    rw [List.length_take] at hi
    rw [List.getElem_take]
    rcases h2 with rfl | h2
    · omega
    · have := hle i (s - 1) (by omega) (by omega)
      rw [dgetD_at (by omega : i < XS.length)] at this
      omega
  have hd : ∀ x ∈ XS.drop s, y < x := by
    intro x hx
    obtain ⟨i, hi, rfl⟩ := List.mem_iff_getElem.1 hx
    rw [List.length_drop] at hi
    rw [List.getElem_drop, ← dgetD_at]
    exact h1 _ (by omega) (by omega)
  refine List.pairwise_append.2 ⟨hX.sublist (List.take_sublist _ _), List.pairwise_cons.2 ⟨fun x hx => Int.le_of_lt (hd x hx), hX.sublist (List.drop_sublist _ _)⟩, fun a ha b hb => ?_⟩
  have := ht a ha
  rcases List.mem_cons.1 hb with rfl | hb
  · exact this
  · have := hd b hb; omega
theorem Sp.srt_is {l m : List Int} (h : m.Pairwise (· ≤ ·)) (hp : m.Perm l) : Sp.srt l = m :=
  ((Sp.srt_perm l).trans hp.symm).eq_of_pairwise (fun x y _ _ h1 h2 => by omega) (Sp.srt_le l) h
theorem Sp.srt_put {U : List Int} {y : Int} {s : Nat} (hs : s ≤ (Sp.srt U).length) (h1 : ∀ j, s ≤ j → j < (Sp.srt U).length → y < (Sp.srt U).getD j 0) (h2 : s = 0 ∨ (Sp.srt U).getD (s - 1) 0 ≤ y) : Sp.srt (U ++ [y]) = (Sp.srt U).take s ++ y :: (Sp.srt U).drop s := by
  refine Sp.srt_is (Sp.put_le hs h1 h2 (Sp.srt_le U)) ?_
  refine List.perm_middle.trans ?_
  rw [List.take_append_drop]
  exact ((Sp.srt_perm U).cons y).trans (List.perm_append_singleton y U).symm
theorem Sp.shift_put {XS BB ZL : List Int} {y : Int} {M s : Nat} (hB : BB = XS ++ [y]) (hX : XS.length = M) (hs : s ≤ M) (hZ : ZL.length = M + 1) (h : ∀ j, j ≤ M → ZL.getD j 0 = if j ≤ s then BB.getD j 0 else BB.getD (j - 1) 0) : ZL.set s y = XS.take s ++ y :: XS.drop s := by
  have some_at : ∀ (l : List Int) (j : Nat), j < l.length → l[j]? = some (l.getD j 0) := fun l j hj => by simp [List.getD, hj]
  have hBX : ∀ j, j < M → BB.getD j 0 = XS.getD j 0 := by
    intro j hj
    rw [hB]
    simp [List.getD, List.getElem?_append_left (by omega : j < XS.length)]
  apply List.ext_getElem?
  intro j
  by_cases hj : j ≤ M
  · rcases Nat.lt_trichotomy j s with g | g | g
    · rw [List.getElem?_set_ne (by omega), some_at ZL j (by omega), h j hj, if_pos (by omega), hBX j (by omega), List.getElem?_append_left (by rw [List.length_take]; omega), List.getElem?_take, if_pos g, some_at XS j (by omega)]
    · subst g
      rw [List.getElem?_set_self (by omega), List.getElem?_append_right (by rw [List.length_take]; omega), List.length_take, Nat.min_eq_left (by omega), Nat.sub_self]
      rfl
    · rw [List.getElem?_set_ne (by omega), some_at ZL j (by omega), h j hj, if_neg (by omega), hBX (j - 1) (by omega), List.getElem?_append_right (by rw [List.length_take]; omega), List.length_take, Nat.min_eq_left (by omega)]
      obtain ⟨i, rfl⟩ : ∃ i, j = s + 1 + i := ⟨j - s - 1, by omega⟩
      rw [show s + 1 + i - s = i + 1 from by omega, List.getElem?_cons_succ, List.getElem?_drop, some_at XS (s + i) (by omega), show s + 1 + i - 1 = s + i from by omega]
  · rw [List.getElem?_eq_none (by rw [List.length_set]; omega), List.getElem?_eq_none (by simp; omega)]

/-- How many of the first lists have a number. -/
def Sp.cn (P : Nat → List Int) (m i : Nat) : Nat := ((List.range m).map fun c => (P c).count (i : Int)).sum
theorem Sp.cn_succ (P : Nat → List Int) (m i : Nat) : Sp.cn P (m + 1) i = Sp.cn P m i + (P m).count (i : Int) := by
  unfold Sp.cn
  rw [List.range_succ, List.map_append, List.sum_append]
  simp
theorem Sp.cn_le {P : Nat → List Int} (h : ∀ c, (P c).length ≤ 32) (m i : Nat) : Sp.cn P m i ≤ 32 * m := by
  induction m with
  | zero => simp [Sp.cn]
  | succ m ih =>
    rw [Sp.cn_succ]
    have := List.count_le_length (a := (i : Int)) (l := P m)
    have := h m
    omega
theorem Sp.count_next {l : List Int} {t : Nat} (ht : t < l.length) (x : Int) : (l.take (t + 1)).count x = (l.take t).count x + if l.getD t 0 = x then 1 else 0 := by
  rw [List.take_succ_eq_append_getElem ht, List.count_append, List.count_singleton, dgetD_at ht]
  simp
theorem Sp.count_take_le (l : List Int) (t : Nat) (x : Int) : (l.take t).count x ≤ l.length := by
  have := List.count_le_length (a := x) (l := l.take t)
  rw [List.length_take] at this
  omega
end Go.Proofs.Ytdgdhhbapgfjgaa
