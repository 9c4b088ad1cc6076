/- ring: how many points each backend has. -/
import Derived.Test.YtcpcnajifdicmaaRL
namespace Go.Proofs.Ytcpcnajifdicmaa
open Go.RowKit Go.Sort Go.Shelf

theorem Rp.rises_pair {l : List Rp.Pt} (h : Rp.rises l = true) : l.Pairwise (fun x y => x.1 < y.1) := by
  rw [List.pairwise_iff_getElem]
  intro i j hi hj hij
  unfold Rp.rises at h
  rw [List.all_eq_true] at h
  have step : ∀ k (hk : k + 1 < l.length), l[k].1 < l[k + 1].1 := by
    intro k hk
    have := h (k + 1) (List.mem_range.2 hk)
    simp only [Nat.add_one_ne_zero, decide_false, Bool.false_or, Nat.add_sub_cancel, decide_eq_true_iff] at this
    rw [pgetD_at hk, pgetD_at (by omega : k < l.length)] at this
    exact this
  have go : ∀ d (hd : i + d + 1 < l.length), l[i].1 < l[i + d + 1].1 := by
    intro d
    induction d with
    | zero => intro hd; exact step i hd
    | succ d ih => intro hd; exact Int.lt_trans (ih (by omega)) (step (i + d + 1) hd)
  obtain ⟨d, rfl⟩ : ∃ d, j = i + d + 1 := ⟨j - i - 1, by omega⟩
  exact go d hj

theorem Rp.count_of (n : Int) (b : Rp.Pt) (id : Int) : (Rp.ptsOf n b).countP (fun p => decide (p.2 = id)) = if b.1 = id then Rp.each n b else 0 := by
  unfold Rp.ptsOf
  rw [List.countP_map]
  split
  · rename_i h
    rw [show ((fun p : Rp.Pt => decide (p.2 = id)) ∘ fun k => ((Rp.hsh b.1 k : Int), b.1)) = fun _ => true from by funext k; simp [h]]
    simp
  · rename_i h
    rw [show ((fun p : Rp.Pt => decide (p.2 = id)) ∘ fun k => ((Rp.hsh b.1 k : Int), b.1)) = fun _ => false from by funext k; simp [h]]
    simp
theorem Rp.count_none (n : Int) (id : Int) : ∀ (l : List Rp.Pt), (∀ b ∈ l, b.1 ≠ id) → (Rp.pts n l).countP (fun p => decide (p.2 = id)) = 0
  | [], _ => rfl
  | x :: r, h => by
    unfold Rp.pts
    rw [List.flatMap_cons, List.countP_append, Rp.count_of, if_neg (h x (by simp))]
    have := Rp.count_none n id r (fun b hb => h b (by simp [hb]))
    unfold Rp.pts at this
    omega
theorem Rp.count_pts (n : Int) : ∀ (l : List Rp.Pt), l.Pairwise (fun x y => x.1 < y.1) → ∀ b ∈ l, (Rp.pts n l).countP (fun p => decide (p.2 = b.1)) = Rp.each n b
  | [], _, b, hb => by cases hb
  | x :: r, h, b, hb => by
    rw [List.pairwise_cons] at h
    unfold Rp.pts
    rw [List.flatMap_cons, List.countP_append, Rp.count_of]
    rcases List.mem_cons.1 hb with rfl | hb
    · have := Rp.count_none n b.1 r (fun c hc => by have := h.1 c hc; omega)
      unfold Rp.pts at this
      rw [if_pos rfl, this]
      rfl
    · have := Rp.count_pts n r h.2 b hb
      have h1 := h.1 b hb
      unfold Rp.pts at this
      rw [if_neg (by omega), this]
      omega
theorem Rp.count_ring {n : Int} {l : List Rp.Pt} (h : Rp.buildE n l = 0) {b : Rp.Pt} (hb : b ∈ l) : (Rp.ring n l).countP (fun p => decide (p.2 = b.1)) = Rp.each n b := by
  rw [(Rp.ring_perm h).countP_eq]
  exact Rp.count_pts n l (Rp.rises_pair (Rp.check_ok (Rp.build_ok h).1).2.2) b hb
theorem count_take (f : Rp.Pt → Bool) (l : List Rp.Pt) (k : Nat) (h : k < l.length) : (l.take (k + 1)).countP f = (l.take k).countP f + if f (l.getD k (0, 0)) then 1 else 0 := by
  rw [List.take_succ_eq_append_getElem h, List.countP_append, pgetD_at h]
  simp [List.countP_cons]
end Go.Proofs.Ytcpcnajifdicmaa
