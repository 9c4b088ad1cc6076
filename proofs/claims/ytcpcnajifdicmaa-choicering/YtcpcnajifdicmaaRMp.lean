/- ring: the reference puts points in one by one, plainly. -/
import Derived.Test.YtcpcnajifdicmaaRL
namespace Go.Proofs.Ytcpcnajifdicmaa
open Go.RowKit Go.Sort Go.Shelf

theorem dropw_nil {α : Type} (q : α → Bool) : ∀ (l : List α), (∀ x ∈ l, q x = true) → l.dropWhile q = []
  | [], _ => rfl
  | x :: l, h => by
    rw [List.dropWhile_cons, if_pos (h x (by simp))]
    exact dropw_nil q l (fun y hy => h y (by simp [hy]))
theorem takew_mem {α : Type} (q : α → Bool) (x : α) : ∀ (l : List α), x ∈ l.takeWhile q → q x = true
  | [], h => by cases h
  | y :: l, h => by
    rw [List.takeWhile_cons] at h
    split at h
    · rename_i hy
      rcases List.mem_cons.1 h with rfl | h
      · exact hy
      · exact takew_mem q x l h
    · cases h
/-- Where a point is put in: behind the last that does not stand behind it. -/
def Rp.at' (out : List Rp.Pt) (p : Rp.Pt) : Nat := (out.reverse.dropWhile fun x => Rp.lt p x).length
def Rp.ins (out : List Rp.Pt) (p : Rp.Pt) : List Rp.Pt := out.take (Rp.at' out p) ++ p :: out.drop (Rp.at' out p)
theorem Rp.at_le (out : List Rp.Pt) (p : Rp.Pt) : Rp.at' out p ≤ out.length := by
  unfold Rp.at'
  have := (List.dropWhile_sublist (fun x => Rp.lt p x) (l := out.reverse)).length_le
  simpa using this
/-- It is found from the end on. -/
theorem Rp.at_is (out : List Rp.Pt) (p : Rp.Pt) (q : Nat) (hq : q ≤ out.length) (h1 : ∀ j, q ≤ j → j < out.length → Rp.lt p (out.getD j (0, 0)) = true) (h2 : q = 0 ∨ Rp.lt p (out.getD (q - 1) (0, 0)) = false) : Rp.at' out p = q := by
  have e : out = out.take q ++ out.drop q := (List.take_append_drop q out).symm
  unfold Rp.at'
  rw [e, List.reverse_append]
  have hd : (out.drop q).reverse.dropWhile (fun x => Rp.lt p x) = [] := by
    refine dropw_nil _ _ fun x hx => ?_
    rw [List.mem_reverse] at hx
    obtain ⟨j, hj, rfl⟩ := List.mem_iff_getElem.1 hx
    rw [List.length_drop] at hj
    have := h1 (q + j) (by omega) (by omega)
    rw [pgetD_at (by omega)] at this
    rw [List.getElem_drop]
    exact this
  have key : ∀ (a b : List Rp.Pt), a.dropWhile (fun x => Rp.lt p x) = [] → (a ++ b).dropWhile (fun x => Rp.lt p x) = b.dropWhile (fun x => Rp.lt p x) := by
    intro a b ha
    induction a with
    | nil => rfl
    | cons x r ih =>
      rw [List.dropWhile_cons] at ha
      rw [List.cons_append, List.dropWhile_cons]
      split at ha
      · rename_i hx
        rw [if_pos hx]
        exact ih ha
      · cases ha
  rw [key _ _ hd]
  rcases h2 with rfl | h2
  · simp
  · rcases Nat.eq_zero_or_pos q with rfl | h0
    · simp
    · obtain ⟨m, rfl⟩ : ∃ m, q = m + 1 := ⟨q - 1, by omega⟩
      rw [Nat.add_sub_cancel, pgetD_at (by omega)] at h2
      rw [List.take_succ_eq_append_getElem (by omega), List.reverse_append]
      simp only [List.reverse_cons, List.reverse_nil, List.nil_append, List.cons_append]
      rw [List.dropWhile_cons, if_neg (by rw [h2]; simp)]
      simp
      omega
theorem Rp.ins_sorted {out : List Rp.Pt} (p : Rp.Pt) (h : out.Pairwise (fun x y => Rp.le x y = true)) : (Rp.ins out p).Pairwise (fun x y => Rp.le x y = true) := by
  -- the points from there on stand behind p, the one ahead of it does not
  have hq := Rp.at_le out p
  have h1 : ∀ x ∈ out.drop (Rp.at' out p), Rp.lt p x = true := by
    intro x hx
    obtain ⟨j, hj, rfl⟩ := List.mem_iff_getElem.1 hx
    rw [List.length_drop] at hj
    have ht : (out.reverse.takeWhile fun x => Rp.lt p x).length = out.length - Rp.at' out p := by
      have := congrArg List.length (List.takeWhile_append_dropWhile (p := fun x => Rp.lt p x) (l := out.reverse))
      rw [List.length_append, List.length_reverse] at this
      unfold Rp.at'
      omega
    have hmem : (out.drop (Rp.at' out p))[j]'(by rw [List.length_drop]; exact hj) ∈ out.reverse.takeWhile fun x => Rp.lt p x := by
      have hpre := List.takeWhile_prefix (fun x => Rp.lt p x) (l := out.reverse)
      rw [List.prefix_iff_eq_take, ht] at hpre
      rw [hpre, List.take_reverse, List.mem_reverse, show out.length - (out.length - Rp.at' out p) = Rp.at' out p by omega]
      exact List.getElem_mem _
    exact takew_mem (fun x => Rp.lt p x) _ _ hmem
  have h2 : ∀ x ∈ out.take (Rp.at' out p), Rp.le x p = true := by
    intro x hx
    rcases Nat.eq_zero_or_pos (Rp.at' out p) with h0 | h0
    · rw [h0] at hx; simp at hx
    · have hlast : Rp.lt p (out[Rp.at' out p - 1]'(by omega)) = false := by
        have hne : out.reverse.dropWhile (fun x => Rp.lt p x) ≠ [] := fun e => by unfold Rp.at' at h0; rw [e] at h0; simp at h0
        have hh := List.head_dropWhile_not (fun x => Rp.lt p x) hne
        have hsuf := List.dropWhile_suffix (fun x => Rp.lt p x) (l := out.reverse)
        rw [List.suffix_iff_eq_drop, List.length_reverse] at hsuf
        have hd : (out.reverse.drop (out.length - Rp.at' out p)).head? = some (out[Rp.at' out p - 1]'(by omega)) := by
          rw [List.head?_drop, List.getElem?_reverse (by omega), List.getElem?_eq_getElem (by omega)]
          congr 2
          omega
        have he : (out.reverse.dropWhile (fun x => Rp.lt p x)).head? = some (out[Rp.at' out p - 1]'(by omega)) := by
          rw [hsuf]
          exact hd
        rw [List.head?_eq_some_head hne] at he
        injection he with he
        rw [← he]
        simpa using hh
      obtain ⟨j, hj, rfl⟩ := List.mem_iff_getElem.1 hx
      rw [List.length_take] at hj
      rw [List.getElem_take]
      rw [List.pairwise_iff_getElem] at h
      rcases Nat.lt_or_ge j (Rp.at' out p - 1) with hlt | hge
      · exact Rp.le_trans _ _ _ (h j (Rp.at' out p - 1) (by omega) (by omega) hlt) (by unfold Rp.le; rw [hlast]; rfl)
      · have : j = Rp.at' out p - 1 := by omega
        subst this
        unfold Rp.le
        rw [hlast]
        rfl
  have e : out = out.take (Rp.at' out p) ++ out.drop (Rp.at' out p) := (List.take_append_drop _ out).symm
  rw [e, List.pairwise_append] at h
  unfold Rp.ins
  rw [List.pairwise_append, List.pairwise_cons]
  refine ⟨h.1, ⟨fun x hx => ?_, h.2.1⟩, fun x hx y hy => ?_⟩
  · have := h1 x hx
    rw [Rp.lt_iff] at this
    rw [Rp.le_iff]
    omega
  · rcases List.mem_cons.1 hy with rfl | hy
    · exact h2 x hx
    · exact h.2.2 x hx y hy
theorem Rp.ins_perm (out : List Rp.Pt) (p : Rp.Pt) : (Rp.ins out p).Perm (out ++ [p]) := by
  unfold Rp.ins
  refine List.perm_middle.trans ?_
  rw [List.take_append_drop]
  exact (List.perm_append_singleton p out).symm
theorem Rp.ins_length (out : List Rp.Pt) (p : Rp.Pt) : (Rp.ins out p).length = out.length + 1 := by rw [(Rp.ins_perm out p).length_eq]; simp
def Rp.all (l : List Rp.Pt) : List Rp.Pt := l.foldl Rp.ins []
theorem Rp.all_snoc (l : List Rp.Pt) (p : Rp.Pt) : Rp.all (l ++ [p]) = Rp.ins (Rp.all l) p := by simp [Rp.all]
theorem Rp.all_ok (l : List Rp.Pt) : (Rp.all l).Pairwise (fun x y => Rp.le x y = true) ∧ (Rp.all l).Perm l := by
  unfold Rp.all
  have key : ∀ (l acc : List Rp.Pt), acc.Pairwise (fun x y => Rp.le x y = true) → (l.foldl Rp.ins acc).Pairwise (fun x y => Rp.le x y = true) ∧ (l.foldl Rp.ins acc).Perm (acc ++ l) := by
    intro l
    induction l with
    | nil => intro acc h; exact ⟨h, by simp⟩
    | cons x r ih =>
      intro acc h
      rw [List.foldl_cons]
      obtain ⟨a, b⟩ := ih (Rp.ins acc x) (Rp.ins_sorted x h)
      refine ⟨a, b.trans ?_⟩
      refine ((Rp.ins_perm acc x).append_right r).trans ?_
      rw [List.append_assoc]
      exact List.Perm.refl _
  have := key l [] List.Pairwise.nil
  simpa using this
theorem Rp.all_length (l : List Rp.Pt) : (Rp.all l).length = l.length := (Rp.all_ok l).2.length_eq
/-- Put in one by one, they are the ring. -/
theorem Rp.all_ring {n : Int} {l : List Rp.Pt} (h : Rp.buildE n l = 0) : Rp.all (Rp.pts n l) = Rp.ring n l :=
  Rp.sorted_one (Rp.all_ok _).1 (Rp.ring_pair h) ((Rp.all_ok _).2.trans (Rp.ring_perm h).symm)
end Go.Proofs.Ytcpcnajifdicmaa
