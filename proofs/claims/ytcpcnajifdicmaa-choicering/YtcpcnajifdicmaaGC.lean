/- ring: how many points each backend has. ring: what Walk tells, plainly. ring: without a backend only what was its own goes elsewhere, plainly. ring: the backends but one, put together. ring: the reference puts points in one by one, plainly. -/
import Derived.Test.YtcpcnajifdicmaaGB
import Derived.Test.YtcpcnajifdicmaaRW2
import Derived.Test.YtcpcnajifdicmaaGE
namespace Go.Proofs.Ytcpcnajifdicmaa
open Go.RowKit Go.Sort Go.Shelf

theorem Rp.rises_pair {l : List Rp.Pt} (h : Rp.rises l = true) : l.Pairwise (fun x y => x.1 < y.1) := by
  rw [List.pairwise_iff_getElem]
  intro i j hi hj hij
  unfold Rp.rises at h
  rw [List.all_eq_true] at h
  have step : ∀ k (hk : k + 1 < l.length), l[k].1 < l[k + 1].1 := by
    intro k hk
    have := h (k + 1) (List.mem_range.2 hk)
    simp only [Nat.add_one_ne_zero, decide_false, Bool.false_or, Nat.add_sub_cancel, decide_eq_true_iff] at this
    rw [pgetD_at hk, pgetD_at (by omega : k < l.length)] at this
    exact this
  have go : ∀ d (hd : i + d + 1 < l.length), l[i].1 < l[i + d + 1].1 := by
    intro d
    induction d with
    | zero => intro hd; exact step i hd
    | succ d ih => intro hd; exact Int.lt_trans (ih (by omega)) (step (i + d + 1) hd)
  obtain ⟨d, rfl⟩ : ∃ d, j = i + d + 1 := ⟨j - i - 1, by omega⟩
  exact go d hj

theorem Rp.count_of (n : Int) (b : Rp.Pt) (id : Int) : (Rp.ptsOf n b).countP (fun p => decide (p.2 = id)) = if b.1 = id then Rp.each n b else 0 := by
  unfold Rp.ptsOf
  rw [List.countP_map]
  split
  · rename_i h
    rw [show ((fun p : Rp.Pt => decide (p.2 = id)) ∘ fun k => ((Rp.hsh b.1 k : Int), b.1)) = fun _ => true from by funext k; simp [h]]
    simp
  · rename_i h
    rw [show ((fun p : Rp.Pt => decide (p.2 = id)) ∘ fun k => ((Rp.hsh b.1 k : Int), b.1)) = fun _ => false from by funext k; simp [h]]
    simp
theorem Rp.count_none (n : Int) (id : Int) : ∀ (l : List Rp.Pt), (∀ b ∈ l, b.1 ≠ id) → (Rp.pts n l).countP (fun p => decide (p.2 = id)) = 0
  | [], _ => rfl
  | x :: r, h => by
    unfold Rp.pts
    rw [List.flatMap_cons, List.countP_append, Rp.count_of, if_neg (h x (by simp))]
    have := Rp.count_none n id r (fun b hb => h b (by simp [hb]))
    unfold Rp.pts at this
    omega
theorem Rp.count_pts (n : Int) : ∀ (l : List Rp.Pt), l.Pairwise (fun x y => x.1 < y.1) → ∀ b ∈ l, (Rp.pts n l).countP (fun p => decide (p.2 = b.1)) = Rp.each n b
  | [], _, b, hb => by cases hb
  | x :: r, h, b, hb => by
    rw [List.pairwise_cons] at h
    unfold Rp.pts
    rw [List.flatMap_cons, List.countP_append, Rp.count_of]
    rcases List.mem_cons.1 hb with rfl | hb
    · have := Rp.count_none n b.1 r (fun c hc => by have := h.1 c hc; omega)
      unfold Rp.pts at this
      rw [if_pos rfl, this]
      rfl
    · have := Rp.count_pts n r h.2 b hb
      have h1 := h.1 b hb
      unfold Rp.pts at this
      rw [if_neg (by omega), this]
      omega
theorem Rp.count_ring {n : Int} {l : List Rp.Pt} (h : Rp.buildE n l = 0) {b : Rp.Pt} (hb : b ∈ l) : (Rp.ring n l).countP (fun p => decide (p.2 = b.1)) = Rp.each n b := by
  rw [(Rp.ring_perm h).countP_eq]
  exact Rp.count_pts n l (Rp.rises_pair (Rp.check_ok (Rp.build_ok h).1).2.2) b hb
theorem count_take (f : Rp.Pt → Bool) (l : List Rp.Pt) (k : Nat) (h : k < l.length) : (l.take (k + 1)).countP f = (l.take k).countP f + if f (l.getD k (0, 0)) then 1 else 0 := by
  rw [List.take_succ_eq_append_getElem h, List.countP_append, pgetD_at h]
  simp [List.countP_cons]
end Go.Proofs.Ytcpcnajifdicmaa

namespace Go.Proofs.Ytcpcnajifdicmaa
open Go.RowKit Go.Sort Go.Shelf

theorem Rp.meet_mem (acc : List Int) (x y : Int) : y ∈ Rp.meet acc x ↔ y ∈ acc ∨ y = x := by
  unfold Rp.meet
  split
  · rename_i h
    constructor
    · exact .inl
    · rintro (h1 | rfl)
      · exact h1
      · exact h
  · simp
theorem Rp.fold_mem (l : List Int) : ∀ (acc : List Int) (y : Int), y ∈ l.foldl Rp.meet acc ↔ y ∈ acc ∨ y ∈ l := by
  induction l with
  | nil => intro acc y; simp
  | cons x r ih =>
    intro acc y
    rw [List.foldl_cons, ih, Rp.meet_mem]
    simp [or_assoc]
theorem Rp.uniq_mem (l : List Int) (y : Int) : y ∈ Rp.uniq l ↔ y ∈ l := by unfold Rp.uniq; rw [Rp.fold_mem]; simp
theorem Rp.fold_nodup (l : List Int) : ∀ (acc : List Int), acc.Nodup → (l.foldl Rp.meet acc).Nodup := by
  induction l with
  | nil => intro acc h; exact h
  | cons x r ih =>
    intro acc h
    rw [List.foldl_cons]
    apply ih
    unfold Rp.meet
    split
    · exact h
    · rename_i hx
      rw [List.nodup_append]
      exact ⟨h, by simp, fun a ha b hb => by simp at hb; subst hb; exact fun e => hx (e ▸ ha)⟩
theorem Rp.uniq_nodup (l : List Int) : (Rp.uniq l).Nodup := Rp.fold_nodup l [] List.nodup_nil
theorem Rp.fold_head (l : List Int) : ∀ (a : Int) (acc : List Int), ∃ t, l.foldl Rp.meet (a :: acc) = a :: t := by
  induction l with
  | nil => intro a acc; exact ⟨acc, rfl⟩
  | cons x r ih =>
    intro a acc
    rw [List.foldl_cons]
    unfold Rp.meet
    split
    · exact ih a acc
    · exact ih a (acc ++ [x])
theorem Rp.uniq_head (x : Int) (l : List Int) : ∃ t, Rp.uniq (x :: l) = x :: t := by
  unfold Rp.uniq
  rw [List.foldl_cons, show Rp.meet [] x = [x] from by simp [Rp.meet]]
  exact Rp.fold_head l x []
theorem Rp.round_mem {r : List Rp.Pt} (h : Int) (y : Int) (h0 : 0 < r.length) : y ∈ Rp.roundL r h ↔ ∃ p ∈ r, p.2 = y := by
  unfold Rp.roundL
  rw [List.mem_map]
  have hp := Rp.place_lt r h h0
  constructor
  · rintro ⟨i, _, rfl⟩
    have hlt : (Rp.place r h + i) % r.length < r.length := Nat.mod_lt _ h0
    exact ⟨r[(Rp.place r h + i) % r.length], List.getElem_mem _, by rw [pgetD_at hlt]⟩
  · rintro ⟨p, hpr, rfl⟩
    obtain ⟨j, hj, rfl⟩ := List.mem_iff_getElem.1 hpr
    refine ⟨(j + (r.length - Rp.place r h)) % r.length, List.mem_range.2 (Nat.mod_lt _ h0), ?_⟩
    have e : (Rp.place r h + (j + (r.length - Rp.place r h)) % r.length) % r.length = j := by
      rw [Nat.add_mod, Nat.mod_mod, ← Nat.add_mod]
      rw [show Rp.place r h + (j + (r.length - Rp.place r h)) = j + r.length by omega, Nat.add_mod_right]
      exact Nat.mod_eq_of_lt hj
    rw [e, pgetD_at hj]
theorem Rp.round_head {r : List Rp.Pt} (h : Int) (h0 : 0 < r.length) : ∃ t, Rp.roundL r h = Rp.owner r h :: t := by
  unfold Rp.roundL
  obtain ⟨n, hn⟩ : ∃ n, r.length = n + 1 := ⟨r.length - 1, by omega⟩
  rw [hn, List.range_succ_eq_map, List.map_cons]
  have e : (r.getD ((Rp.place r h + 0) % (n + 1)) (0, 0)).2 = Rp.owner r h := by
    unfold Rp.owner
    rw [← hn, Nat.add_zero, Nat.mod_eq_of_lt (Rp.place_lt r h h0)]
  rw [e]
  exact ⟨_, rfl⟩
theorem Rp.walk_head {r : List Rp.Pt} (h : Int) (hp : Rp.peopledE r = 0) : ∃ t, Rp.walkL r h = Rp.owner r h :: t := by
  obtain ⟨t, ht⟩ := Rp.round_head h (Rp.people_ok hp).1
  have : Rp.walkL r h = Rp.uniq (Rp.roundL r h) := if_pos hp
  rw [this, ht]
  exact Rp.uniq_head _ _
theorem Rp.walk_mem {r : List Rp.Pt} (h : Int) (hp : Rp.peopledE r = 0) (y : Int) : y ∈ Rp.walkL r h ↔ ∃ p ∈ r, p.2 = y := by
  have : Rp.walkL r h = Rp.uniq (Rp.roundL r h) := if_pos hp
  rw [this, Rp.uniq_mem, Rp.round_mem h y (Rp.people_ok hp).1]
theorem Rp.walk_nodup (r : List Rp.Pt) (h : Int) : (Rp.walkL r h).Nodup := by
  unfold Rp.walkL
  split
  · exact Rp.uniq_nodup _
  · exact List.nodup_nil
end Go.Proofs.Ytcpcnajifdicmaa

namespace Go.Proofs.Ytcpcnajifdicmaa
open Go.RowKit Go.Sort Go.Shelf

theorem Rp.rot_at (r : List Rp.Pt) (k : Nat) (hk : k ≤ r.length) (h0 : 0 < r.length) : ((List.range r.length).map fun i => (r.getD ((k % r.length + i) % r.length) (0, 0)).2) = (r.drop k ++ r.take k).map (·.2) := by
  apply List.ext_getElem
  · simp; omega
  · intro i h1 h2
    simp only [List.length_map, List.length_range] at h1
    rw [List.getElem_map, List.getElem_map, List.getElem_range, Nat.add_mod, Nat.mod_mod, ← Nat.add_mod]
    by_cases hi : i < r.length - k
    · rw [Nat.mod_eq_of_lt (by omega : k + i < r.length), pgetD_at (by omega), List.getElem_append_left (by simp; omega), List.getElem_drop]
    · have e : (k + i) % r.length = k + i - r.length := by rw [Nat.mod_eq_sub_mod (by omega), Nat.mod_eq_of_lt (by omega)]
      rw [e, pgetD_at (by omega), List.getElem_append_right (by simp; omega), List.getElem_take]
      congr 2
      simp
      omega
theorem Rp.from_le (r : List Rp.Pt) (h : Int) : Rp.from' r h ≤ r.length := (List.takeWhile_sublist _).length_le
theorem Rp.take_filter {α : Type} (q : α → Bool) : ∀ (l : List α), l.Pairwise (fun x y => q y = true → q x = true) → l.take (l.takeWhile q).length = l.filter q ∧ l.drop (l.takeWhile q).length = l.filter (fun x => !q x)
  | [], _ => ⟨rfl, rfl⟩
  | x :: l, h => by
    rw [List.pairwise_cons] at h
    obtain ⟨h1, h2⟩ := Rp.take_filter q l h.2
    cases hx : q x with
    | true => simp [hx, h1, h2]
    | false =>
      have e1 : l.filter q = [] := by
        rw [List.filter_eq_nil_iff]
        intro y hy hq
        rw [h.1 y hy hq] at hx
        cases hx
      have e2 : l.filter (fun x => !q x) = l := by
        rw [List.filter_eq_self]
        intro y hy
        cases hq : q y with
        | false => rfl
        | true => rw [h.1 y hy hq] at hx; cases hx
      simp [hx, e1, e2]
theorem Rp.round_rot {r : List Rp.Pt} (h : Int) (h0 : 0 < r.length) (hs : Rp.sorted r = true) : Rp.roundL r h = (r.filter (fun p => !decide (p.1 < h)) ++ r.filter (fun p => decide (p.1 < h))).map (·.2) := by
  have hp : r.Pairwise (fun x y => decide (y.1 < h) = true → decide (x.1 < h) = true) := (Rp.sorted_of hs).imp fun {x y} hle hq => by
    rw [Rp.le_iff] at hle
    simp only [decide_eq_true_iff] at *
    omega
  obtain ⟨e1, e2⟩ := Rp.take_filter (fun p : Rp.Pt => decide (p.1 < h)) r hp
  rw [← e1, ← e2]
  exact Rp.rot_at r (Rp.from' r h) (Rp.from_le r h) h0
theorem Rp.fold_filter (q : Int → Bool) (l : List Int) : ∀ (acc : List Int), (l.foldl Rp.meet acc).filter q = (l.filter q).foldl Rp.meet (acc.filter q) := by
  induction l with
  | nil => intro acc; rfl
  | cons x r ih =>
    intro acc
    rw [List.foldl_cons, ih]
    cases hx : q x with
    | true =>
      rw [List.filter_cons, if_pos hx, List.foldl_cons]
      congr 1
      unfold Rp.meet
      by_cases hm : x ∈ acc
      · rw [if_pos hm, if_pos (List.mem_filter.2 ⟨hm, hx⟩)]
      · rw [if_neg hm, if_neg (fun h => hm (List.mem_filter.1 h).1), List.filter_append, List.filter_cons, if_pos hx]
        rfl
    | false =>
      rw [List.filter_cons, if_neg (by rw [hx]; simp)]
      congr 1
      unfold Rp.meet
      split
      · rfl
      · rw [List.filter_append, List.filter_cons, if_neg (by rw [hx]; simp)]
        simp
theorem Rp.uniq_filter (q : Int → Bool) (l : List Int) : (Rp.uniq l).filter q = Rp.uniq (l.filter q) := Rp.fold_filter q l []

theorem Rp.rises_of {l : List Rp.Pt} (h : l.Pairwise (fun x y => x.1 < y.1)) : Rp.rises l = true := by
  apply rises_all
  intro i h0 hi
  rw [List.pairwise_iff_getElem] at h
  rw [pgetD_at hi, pgetD_at (by omega : i - 1 < l.length)]
  exact h (i - 1) i (by omega) hi (by omega)
theorem Rp.size_append (n : Int) (a b : List Rp.Pt) : Rp.size n (a ++ b) = Rp.size n a + Rp.size n b := by simp [Rp.size]
theorem Rp.pts_append (n : Int) (a b : List Rp.Pt) : Rp.pts n (a ++ b) = Rp.pts n a ++ Rp.pts n b := by simp [Rp.pts]

def Rp.less (l : List Rp.Pt) (k : Nat) : List Rp.Pt := l.take k ++ l.drop (k + 1)
theorem Rp.split_at (l : List Rp.Pt) (k : Nat) (hk : k < l.length) : l = l.take k ++ (l.getD k (0, 0) :: l.drop (k + 1)) := by
  rw [pgetD_at hk, ← List.drop_eq_getElem_cons hk, List.take_append_drop]
theorem Rp.less_ok {n : Int} {l : List Rp.Pt} (h : Rp.buildE n l = 0) (k : Nat) (hk : k < l.length) : Rp.buildE n (Rp.less l k) = 0 := by
  obtain ⟨h1, h2, h3, h4⟩ := Rp.build_ok h
  obtain ⟨k1, k2, k3⟩ := Rp.check_ok h1
  have hsub : (Rp.less l k).Sublist l := by
    conv => rhs; rw [Rp.split_at l k hk]
    exact List.Sublist.append (List.Sublist.refl _) (List.sublist_cons_self _ _)
  have hc : Rp.checkE (Rp.less l k) = 0 := by
    unfold Rp.checkE
    rw [if_neg (by have := hsub.length_le; omega), if_neg, Rp.rises_of ((Rp.rises_pair k3).sublist hsub)]
    · rfl
    · rw [Bool.not_eq_true, List.any_eq_false]
      intro b hb
      have := k2 b (hsub.subset hb)
      rw [out_iff]
      omega
  have hs : Rp.size n (Rp.less l k) ≤ Rp.size n l := by
    conv => rhs; rw [Rp.split_at l k hk]
    unfold Rp.less
    rw [Rp.size_append, Rp.size_append]
    simp [Rp.size]
  unfold Rp.buildE
  rw [hc, if_neg (by omega), if_neg (by omega), if_neg (by omega)]
theorem Rp.each_pos {n : Int} {b : Rp.Pt} (hn : 1 ≤ n) (hb : 1 ≤ b.2) : 1 ≤ Rp.each n b := by
  unfold Rp.each
  have : 1 * 1 ≤ b.2 * n := Int.mul_le_mul hb hn (by omega) (by omega)
  omega
theorem Rp.pts_ids {n : Int} {l : List Rp.Pt} (h : Rp.buildE n l = 0) (y : Int) : (∃ p ∈ Rp.ring n l, p.2 = y) ↔ y ∈ l.map (·.1) := by
  obtain ⟨h1, h2, h3, h4⟩ := Rp.build_ok h
  obtain ⟨k1, k2, k3⟩ := Rp.check_ok h1
  constructor
  · rintro ⟨p, hp, rfl⟩
    obtain ⟨b, hb, e⟩ := Rp.ring_mem h hp
    rw [e]
    exact List.mem_map.2 ⟨b, hb, rfl⟩
  · intro hy
    obtain ⟨b, hb, rfl⟩ := List.mem_map.1 hy
    have hc := Rp.count_ring h hb
    have hpos := Rp.each_pos h2 (k2 b hb).2.2.1
    have : 0 < (Rp.ring n l).countP (fun p => decide (p.2 = b.1)) := by omega
    rw [List.countP_pos_iff] at this
    obtain ⟨p, hp, e⟩ := this
    exact ⟨p, hp, by simpa using e⟩
theorem Rp.ring_pos {n : Int} {l : List Rp.Pt} (h : Rp.buildE n l = 0) (h0 : 0 < l.length) : 0 < (Rp.ring n l).length := by
  obtain ⟨p, hp, _⟩ := (Rp.pts_ids h (l[0]).1).2 (List.mem_map.2 ⟨l[0], List.getElem_mem _, rfl⟩)
  exact List.length_pos_of_mem hp
theorem Rp.ring_peopled {n : Int} {l : List Rp.Pt} (h : Rp.buildE n l = 0) (h0 : 0 < l.length) : Rp.peopledE (Rp.ring n l) = 0 := by
  rw [Rp.ring_people h, if_neg (by have := Rp.ring_pos h h0; omega)]
theorem Rp.ids_nodup {l : List Rp.Pt} (h : Rp.rises l = true) : (l.map (·.1)).Nodup := by
  rw [List.Nodup, List.pairwise_map]
  exact (Rp.rises_pair h).imp fun {x y} hlt => by omega
theorem Rp.walk_length {n : Int} {l : List Rp.Pt} (h : Rp.buildE n l = 0) (h0 : 0 < l.length) (hash : Int) : (Rp.walkL (Rp.ring n l) hash).length = l.length := by
  have hp := Rp.ring_peopled h h0
  have k3 := (Rp.check_ok (Rp.build_ok h).1).2.2
  have : (Rp.walkL (Rp.ring n l) hash).Perm (l.map (·.1)) := by
    rw [List.perm_ext_iff_of_nodup (Rp.walk_nodup _ _) (Rp.ids_nodup k3)]
    intro y
    rw [Rp.walk_mem hash hp, Rp.pts_ids h]
  rw [this.length_eq, List.length_map]

theorem Rp.less_ring {n : Int} {l : List Rp.Pt} (h : Rp.buildE n l = 0) (k : Nat) (hk : k < l.length) : Rp.ring n (Rp.less l k) = (Rp.ring n l).filter (fun p => decide (p.2 ≠ (l.getD k (0, 0)).1)) := by
  have hl := Rp.less_ok h k hk
  have k3 := (Rp.check_ok (Rp.build_ok h).1).2.2
  have hpw := Rp.rises_pair k3
  refine Rp.sorted_one (Rp.ring_pair hl) ((Rp.ring_pair h).filter _) ((Rp.ring_perm hl).trans ?_)
  refine List.Perm.trans ?_ ((Rp.ring_perm h).filter _).symm
  have e : (Rp.pts n l).filter (fun p => decide (p.2 ≠ (l.getD k (0, 0)).1)) = Rp.pts n (Rp.less l k) := by
    rw [Rp.split_at l k hk, List.pairwise_append, List.pairwise_cons] at hpw
    have e1 : Rp.pts n l = Rp.pts n (l.take k) ++ (Rp.ptsOf n (l.getD k (0, 0)) ++ Rp.pts n (l.drop (k + 1))) := by
      conv => lhs; rw [Rp.split_at l k hk]
      simp [Rp.pts]
    rw [e1]
    generalize l.getD k (0, 0) = b at *
    have hb : (Rp.ptsOf n b).filter (fun p => decide (p.2 ≠ b.1)) = [] := by
      rw [List.filter_eq_nil_iff]
      intro p hp
      unfold Rp.ptsOf at hp
      obtain ⟨j, _, rfl⟩ := List.mem_map.1 hp
      simp
    have hoth : ∀ m : List Rp.Pt, (∀ c ∈ m, c.1 ≠ b.1) → (Rp.pts n m).filter (fun p => decide (p.2 ≠ b.1)) = Rp.pts n m := by
      intro m hm
      rw [List.filter_eq_self]
      intro p hp
      obtain ⟨c, hc, e⟩ := Rp.pts_mem hp
      rw [e]
      simpa using hm c hc
    rw [List.filter_append, List.filter_append, hb, hoth (l.take k) (fun c hc => by have := hpw.2.2 c hc b (by simp); omega), hoth (l.drop (k + 1)) (fun c hc => by have := hpw.2.1.1 c hc; omega)]
    unfold Rp.less
    rw [Rp.pts_append]
    simp
  rw [e]

/-- What was another's stays; what was its own goes to the next. -/
theorem Rp.leaves {n : Int} {l : List Rp.Pt} (h : Rp.buildE n l = 0) (k : Nat) (hk : k < l.length) (h2 : 2 ≤ l.length) (hash : Int) :
    Rp.owner (Rp.ring n (Rp.less l k)) hash = if Rp.owner (Rp.ring n l) hash = (l.getD k (0, 0)).1 then (Rp.walkL (Rp.ring n l) hash).getD 1 0 else Rp.owner (Rp.ring n l) hash := by
  have hl := Rp.less_ok h k hk
  have hll : 0 < (Rp.less l k).length := by unfold Rp.less; rw [List.length_append, List.length_take, List.length_drop]; omega
  have p1 := Rp.ring_peopled h (by omega : 0 < l.length)
  have p2 := Rp.ring_peopled hl hll
  obtain ⟨q1, q2, _⟩ := Rp.people_ok p1
  obtain ⟨q3, q4, _⟩ := Rp.people_ok p2
  have hw1 : Rp.walkL (Rp.ring n l) hash = Rp.uniq (Rp.roundL (Rp.ring n l) hash) := if_pos p1
  have hw2 : Rp.walkL (Rp.ring n (Rp.less l k)) hash = Rp.uniq (Rp.roundL (Rp.ring n (Rp.less l k)) hash) := if_pos p2
  have hrd : Rp.roundL (Rp.ring n (Rp.less l k)) hash = (Rp.roundL (Rp.ring n l) hash).filter (fun y => decide (y ≠ (l.getD k (0, 0)).1)) := by
    rw [Rp.round_rot hash q3 q4, Rp.round_rot hash q1 q2, Rp.less_ring h k hk]
    simp only [List.map_append, List.filter_append, List.filter_filter, List.filter_map]
    congr 1 <;> (congr 1; apply List.filter_congr; intro p _; simp [Bool.and_comm])
  have hwf : Rp.walkL (Rp.ring n (Rp.less l k)) hash = (Rp.walkL (Rp.ring n l) hash).filter (fun y => decide (y ≠ (l.getD k (0, 0)).1)) := by
    rw [hw2, hw1, Rp.uniq_filter, hrd]
  obtain ⟨t1, e1⟩ := Rp.walk_head hash p1
  obtain ⟨t2, e2⟩ := Rp.walk_head hash p2
  have hlen := Rp.walk_length h (by omega : 0 < l.length) hash
  have hnd := Rp.walk_nodup (Rp.ring n l) hash
  rw [e1] at hwf hlen hnd
  rw [e2] at hwf
  rw [e1]
  generalize (l.getD k (0, 0)).1 = b at *
  generalize Rp.owner (Rp.ring n l) hash = a at *
  match t1, hlen with
  | [], hlen => simp at hlen; omega
  | c :: t, _ =>
    by_cases hab : a = b
    · subst hab
      have hca : c ≠ a := fun e => by rw [List.nodup_cons] at hnd; exact hnd.1 (by rw [e]; simp)
      rw [if_pos rfl]
      rw [List.filter_cons, if_neg (by simp), List.filter_cons, if_pos (by simpa using hca)] at hwf
      injection hwf with h1 _
    · rw [if_neg hab]
      rw [List.filter_cons, if_pos (by simpa using hab)] at hwf
      injection hwf with h1 _
end Go.Proofs.Ytcpcnajifdicmaa

namespace Go.Proofs.Ytcpcnajifdicmaa
open Go.RowKit Go.Sort Go.Shelf
attribute [local go_sem] Oper.semAt_some

def rowB (xs : List Rp.Pt) : List Value := xs.flatMap fun x => [.int .i64 x.1, .int .i64 x.2]
theorem rowB_append (xs ys : List Rp.Pt) : rowB (xs ++ ys) = rowB xs ++ rowB ys := by simp [rowB]
theorem rowB_length (xs : List Rp.Pt) : (rowB xs).length = xs.length * 2 := by
  induction xs with
  | nil => rfl
  | cons x r ih => simp only [rowB, List.flatMap_cons, List.length_append, List.length_cons, List.length_nil] at *; omega
theorem rowB_one (xs : List Rp.Pt) : ∀ u ∈ rowB xs, u.oneCell' = true := by
  intro u hu
  unfold rowB at hu
  rw [List.mem_flatMap] at hu
  obtain ⟨x, _, hx⟩ := hu
  simp at hx
  rcases hx with rfl | rfl <;> rfl
theorem rowB_at (xs : List Rp.Pt) (i : Nat) (h : i < xs.length) : (rowB xs)[i * 2]? = some (.int .i64 (xs.getD i (0, 0)).1) ∧ (rowB xs)[i * 2 + 1]? = some (.int .i64 (xs.getD i (0, 0)).2) := by
  induction xs generalizing i with
  | nil => simp at h
  | cons x r ih =>
    match i with
    | 0 => exact ⟨rfl, rfl⟩
    | i + 1 =>
      have := ih i (by simp at h; omega)
      rw [show (i + 1) * 2 = i * 2 + 2 by omega]
      exact this
theorem rowB_take (l : List Rp.Pt) (k j : Nat) (u : Value) (h : (rowB (l.take k))[j]? = some u) : (rowB l)[j]? = some u := by
  have hj : j < (rowB (l.take k)).length := (List.getElem?_eq_some_iff.1 h).1
  conv => lhs; rw [← List.take_append_drop k l, rowB_append]
  rw [List.getElem?_append_left hj]
  exact h
theorem rowB_drop (l : List Rp.Pt) (k j : Nat) (hk : k ≤ l.length) (u : Value) (h : (rowB (l.drop k))[j]? = some u) : (rowB l)[k * 2 + j]? = some u := by
  conv => lhs; rw [← List.take_append_drop k l, rowB_append]
  have e : (rowB (l.take k)).length = k * 2 := by rw [rowB_length, List.length_take]; omega
  rw [List.getElem?_append_right (by omega), e, Nat.add_sub_cancel_left]
  exact h
theorem rowB_cells {W : World} {g off : Nat} {l : List Rp.Pt} (h : ∀ i, i < l.length → W.cell? ⟨g, off + i * 2, none⟩ = some (.int .i64 (l.getD i (0, 0)).1) ∧ W.cell? ⟨g, off + i * 2 + 1, none⟩ = some (.int .i64 (l.getD i (0, 0)).2)) :
    ∀ j u, (rowB l)[j]? = some u → W.cell? ((⟨g, off, none⟩ : Addr).add j) = some u := by
  intro j u hj
  have hlt : j < (rowB l).length := (List.getElem?_eq_some_iff.1 hj).1
  rw [rowB_length] at hlt
  rw [add_plain]
  obtain ⟨c1, c2⟩ := h (j / 2) (by omega)
  obtain ⟨d1, d2⟩ := rowB_at l (j / 2) (by omega)
  rcases Nat.mod_two_eq_zero_or_one j with h0 | h0
  · have e : j = j / 2 * 2 := by omega
    rw [← e] at c1 d1
    rw [c1, ← d1, hj]
  · have e : j = j / 2 * 2 + 1 := by omega
    rw [← e] at d2
    rw [Nat.add_assoc, ← e] at c2
    rw [c2, ← d2, hj]
theorem tail_cells {W : World} {g off N cap K j : Nat} {l : List Rp.Pt} {u : Value} (h : ∀ j u, (rowB l)[j]? = some u → W.cell? ((⟨g, off, none⟩ : Addr).add j) = some u) (hj : (rowB (l.drop (K + 1)))[j]? = some u) (hN : N = l.length) (hcap : N ≤ cap) :
    W.cell? ((if cap = K + 1 then ⟨g, off, none⟩ else ⟨g, off + (K + 1) * 2, none⟩ : Addr).add j) = some u := by
  have hlt : j < (rowB (l.drop (K + 1))).length := (List.getElem?_eq_some_iff.1 hj).1
  rw [rowB_length, List.length_drop] at hlt
  rw [if_neg (by omega)]
  have := h _ u (rowB_drop l (K + 1) j (by omega) u hj)
  rw [add_plain] at this ⊢
  rw [Nat.add_assoc]
  exact this
theorem bseg_of_row {W : World} {n₀ : Nat} {v : Value} {d : List Rp.Pt} (h : W.ownsRow n₀ 76 2 v d.length (rowB d)) : PSeg .i64 W v d := by
  rcases h.2 with ⟨rfl, h0⟩ | ⟨g, cap, cur, rfl, _, hgb, hle, hmx, hsz, htk⟩
  · have : d = [] := List.length_eq_zero_iff.1 h0
    subst this
    exact PSeg.nil _ _
  · refine ⟨_, cap, rfl, hle, hmx, (fun h => by cases h), fun g' off ar ha h0 => ?_⟩
    cases ha
    refine ⟨rfl, (Array.getElem?_eq_some_iff.1 hgb).1, fun i hi => ?_⟩
    obtain ⟨d1, d2⟩ := rowB_at d i hi
    have key : ∀ j u, j < d.length * 2 → (rowB d)[j]? = some u → W.cell? ⟨g, 0 + j, none⟩ = some u := by
      intro j u hj hu
      rw [← htk, List.getElem?_take_of_lt hj, Array.getElem?_toList] at hu
      rw [Nat.zero_add]
      simp [World.cell?, hgb, hu]
    refine ⟨key _ _ (by omega) d1, ?_⟩
    rw [Nat.add_assoc]
    exact key _ _ (by omega) d2
theorem Try.infoB : (Try.prog.info? 76).map (fun i => (i.zero, i.size, i.bytes)) = some (some (.agg #[.int .i64 0, .int .i64 0]), 2, 16) := by kernel_rfl
theorem grown_refl (W : World) : W.grownBy W none := ⟨rfl, rfl, rfl, Nat.le_refl _, fun _ _ _ => rfl⟩

theorem run_tail (w : World) (g off N cap k : Nat) (h : k ≤ N) (_hc : N ≤ cap) : (Instr.sliceAt 52 (.slice (some ⟨g, off, none⟩) N cap) (some (.int .i64 (k : Int))) none none).run Try.prog w = .ok (.slice (some (if cap = k then ⟨g, off, none⟩ else ⟨g, off + k * 2, none⟩)) (N - k) (cap - k)) w := by
  go_simp
  split <;> rfl
theorem run_head (w : World) (g off N cap k : Nat) (h : k ≤ N) (hc : N ≤ cap) : (Instr.sliceAt 52 (.slice (some ⟨g, off, none⟩) N cap) none (some (.int .i64 (k : Int))) none).run Try.prog w = .ok (.slice (some ⟨g, off, none⟩) k cap) w := by
  have hk : ¬ cap < k := by omega
  go_simp
theorem run_slH {a : Act} {o : Oper} {s t : Nat} {w : World} {x y z : Value} (hop : o.op = .slice 52 (.tmp s) none (some (.tmp t)) none) (hs : a.eval (.tmp s) = x) (ht : a.eval (.tmp t) = y) (h : (Instr.sliceAt 52 x none (some y) none).run Try.prog w = .ok z w) : (execOp a.eval o).run Try.prog w = .ok (.value z) w := by
  simp [execOp, hop, hs, ht, h]
theorem run_slT {a : Act} {o : Oper} {s t : Nat} {w : World} {x y z : Value} (hop : o.op = .slice 52 (.tmp s) (some (.tmp t)) none none) (hs : a.eval (.tmp s) = x) (ht : a.eval (.tmp t) = y) (h : (Instr.sliceAt 52 x (some y) none none).run Try.prog w = .ok z w) : (execOp a.eval o).run Try.prog w = .ok (.value z) w := by
  simp [execOp, hop, hs, ht, h]
theorem run_add1 {a : Act} {o : Oper} {s : Nat} {w : World} {x z : Int} (hop : o.op = .binOp .add 3 (.tmp s) (.const (.int .i64 1)) 3) (hs : a.eval (.tmp s) = .int .i64 x) (hz : IntKind.i64.wrap (x + 1) = z) : (execOp a.eval o).run Try.prog w = .ok (.value (.int .i64 z)) w := by
  rw [← hz]
  have hc : a.eval (.const (.int .i64 1)) = .int .i64 1 := rfl
  simp only [execOp, hop, hs, hc]
  go_simp
theorem run_app {a : Act} {o : Oper} {s t : Nat} {w w' : World} {x y z : Value} (hop : o.op = .call { callee := .builtin .append, args := #[.tmp s, .tmp t], argTypes := #[52, 52] }) (hs : a.eval (.tmp s) = x) (ht : a.eval (.tmp t) = y) (h : (Builtin.append_ #[52, 52] o.type #[x, y]).run Try.prog w = .ok z w') : (execOp a.eval o).run Try.prog w = .ok (.value z) w' := by
  simp [execOp, hop, resolve, invoke, builtin, hs, ht, h, Result.andThen]
end Go.Proofs.Ytcpcnajifdicmaa

namespace Go.Proofs.Ytcpcnajifdicmaa
open Go.RowKit Go.Sort Go.Shelf

theorem dropw_nil {α : Type} (q : α → Bool) : ∀ (l : List α), (∀ x ∈ l, q x = true) → l.dropWhile q = []
  | [], _ => rfl
  | x :: l, h => by
    rw [List.dropWhile_cons, if_pos (h x (by simp))]
    exact dropw_nil q l (fun y hy => h y (by simp [hy]))
theorem takew_mem {α : Type} (q : α → Bool) (x : α) : ∀ (l : List α), x ∈ l.takeWhile q → q x = true
  | [], h => by cases h
  | y :: l, h => by
    rw [List.takeWhile_cons] at h
    split at h
    · rename_i hy
      rcases List.mem_cons.1 h with rfl | h
      · exact hy
      · exact takew_mem q x l h
    · cases h
/-- Where a point is put in: behind the last that does not stand behind it. -/
def Rp.at' (out : List Rp.Pt) (p : Rp.Pt) : Nat := (out.reverse.dropWhile fun x => Rp.lt p x).length
def Rp.ins (out : List Rp.Pt) (p : Rp.Pt) : List Rp.Pt := out.take (Rp.at' out p) ++ p :: out.drop (Rp.at' out p)
theorem Rp.at_le (out : List Rp.Pt) (p : Rp.Pt) : Rp.at' out p ≤ out.length := by
  unfold Rp.at'
  have := (List.dropWhile_sublist (fun x => Rp.lt p x) (l := out.reverse)).length_le
  simpa using this
/-- It is found from the end on. -/
theorem Rp.at_is (out : List Rp.Pt) (p : Rp.Pt) (q : Nat) (hq : q ≤ out.length) (h1 : ∀ j, q ≤ j → j < out.length → Rp.lt p (out.getD j (0, 0)) = true) (h2 : q = 0 ∨ Rp.lt p (out.getD (q - 1) (0, 0)) = false) : Rp.at' out p = q := by
  have e : out = out.take q ++ out.drop q := (List.take_append_drop q out).symm
  unfold Rp.at'
  rw [e, List.reverse_append]
  have hd : (out.drop q).reverse.dropWhile (fun x => Rp.lt p x) = [] := by
    refine dropw_nil _ _ fun x hx => ?_
    rw [List.mem_reverse] at hx
    obtain ⟨j, hj, rfl⟩ := List.mem_iff_getElem.1 hx
    rw [List.length_drop] at hj
    have := h1 (q + j) (by omega) (by omega)
    rw [pgetD_at (by omega)] at this
    rw [List.getElem_drop]
    exact this
  have key : ∀ (a b : List Rp.Pt), a.dropWhile (fun x => Rp.lt p x) = [] → (a ++ b).dropWhile (fun x => Rp.lt p x) = b.dropWhile (fun x => Rp.lt p x) := by
    intro a b ha
    induction a with
    | nil => rfl
    | cons x r ih =>
      rw [List.dropWhile_cons] at ha
      rw [List.cons_append, List.dropWhile_cons]
      split at ha
      · rename_i hx
        rw [if_pos hx]
        exact ih ha
      · cases ha
  rw [key _ _ hd]
  rcases h2 with rfl | h2
  · simp
  · rcases Nat.eq_zero_or_pos q with rfl | h0
    · simp
    · obtain ⟨m, rfl⟩ : ∃ m, q = m + 1 := ⟨q - 1, by omega⟩
      rw [Nat.add_sub_cancel, pgetD_at (by omega)] at h2
      rw [List.take_succ_eq_append_getElem (by omega), List.reverse_append]
      simp only [List.reverse_cons, List.reverse_nil, List.nil_append, List.cons_append]
      rw [List.dropWhile_cons, if_neg (by rw [h2]; simp)]
      simp
      omega
theorem Rp.ins_sorted {out : List Rp.Pt} (p : Rp.Pt) (h : out.Pairwise (fun x y => Rp.le x y = true)) : (Rp.ins out p).Pairwise (fun x y => Rp.le x y = true) := by
  -- the points from there on stand behind p, the one ahead of it does not
  have hq := Rp.at_le out p
  have h1 : ∀ x ∈ out.drop (Rp.at' out p), Rp.lt p x = true := by
    intro x hx
    obtain ⟨j, hj, rfl⟩ := List.mem_iff_getElem.1 hx
    rw [List.length_drop] at hj
    have ht : (out.reverse.takeWhile fun x => Rp.lt p x).length = out.length - Rp.at' out p := by
      have := congrArg List.length (List.takeWhile_append_dropWhile (p := fun x => Rp.lt p x) (l := out.reverse))
      rw [List.length_append, List.length_reverse] at this
      unfold Rp.at'
      omega
    have hmem : (out.drop (Rp.at' out p))[j]'(by rw [List.length_drop]; exact hj) ∈ out.reverse.takeWhile fun x => Rp.lt p x := by
      have hpre := List.takeWhile_prefix (fun x => Rp.lt p x) (l := out.reverse)
      rw [List.prefix_iff_eq_take, ht] at hpre
      rw [hpre, List.take_reverse, List.mem_reverse, show out.length - (out.length - Rp.at' out p) = Rp.at' out p by omega]
      exact List.getElem_mem _
    exact takew_mem (fun x => Rp.lt p x) _ _ hmem
  have h2 : ∀ x ∈ out.take (Rp.at' out p), Rp.le x p = true := by
    intro x hx
    rcases Nat.eq_zero_or_pos (Rp.at' out p) with h0 | h0
    · rw [h0] at hx; simp at hx
    · have hlast : Rp.lt p (out[Rp.at' out p - 1]'(by omega)) = false := by
        have hne : out.reverse.dropWhile (fun x => Rp.lt p x) ≠ [] := fun e => by unfold Rp.at' at h0; rw [e] at h0; simp at h0
        have hh := List.head_dropWhile_not (fun x => Rp.lt p x) hne
        have hsuf := List.dropWhile_suffix (fun x => Rp.lt p x) (l := out.reverse)
        rw [List.suffix_iff_eq_drop, List.length_reverse] at hsuf
        have hd : (out.reverse.drop (out.length - Rp.at' out p)).head? = some (out[Rp.at' out p - 1]'(by omega)) := by
          rw [List.head?_drop, List.getElem?_reverse (by omega), List.getElem?_eq_getElem (by omega)]
          congr 2
          omega
        have he : (out.reverse.dropWhile (fun x => Rp.lt p x)).head? = some (out[Rp.at' out p - 1]'(by omega)) := by
          rw [hsuf]
          exact hd
        rw [List.head?_eq_some_head hne] at he
        injection he with he
        rw [← he]
        simpa using hh
      obtain ⟨j, hj, rfl⟩ := List.mem_iff_getElem.1 hx
      rw [List.length_take] at hj
      rw [List.getElem_take]
      rw [List.pairwise_iff_getElem] at h
      rcases Nat.lt_or_ge j (Rp.at' out p - 1) with hlt | hge
      · exact Rp.le_trans _ _ _ (h j (Rp.at' out p - 1) (by omega) (by omega) hlt) (by unfold Rp.le; rw [hlast]; rfl)
      · have : j = Rp.at' out p - 1 := by omega
        subst this
        unfold Rp.le
        rw [hlast]
        rfl
  have e : out = out.take (Rp.at' out p) ++ out.drop (Rp.at' out p) := (List.take_append_drop _ out).symm
  rw [e, List.pairwise_append] at h
  unfold Rp.ins
  rw [List.pairwise_append, List.pairwise_cons]
  refine ⟨h.1, ⟨fun x hx => ?_, h.2.1⟩, fun x hx y hy => ?_⟩
  · have := h1 x hx
    rw [Rp.lt_iff] at this
    rw [Rp.le_iff]
    omega
  · rcases List.mem_cons.1 hy with rfl | hy
    · exact h2 x hx
    · exact h.2.2 x hx y hy
theorem Rp.ins_perm (out : List Rp.Pt) (p : Rp.Pt) : (Rp.ins out p).Perm (out ++ [p]) := by
  unfold Rp.ins
  refine List.perm_middle.trans ?_
  rw [List.take_append_drop]
  exact (List.perm_append_singleton p out).symm
theorem Rp.ins_length (out : List Rp.Pt) (p : Rp.Pt) : (Rp.ins out p).length = out.length + 1 := by rw [(Rp.ins_perm out p).length_eq]; simp
def Rp.all (l : List Rp.Pt) : List Rp.Pt := l.foldl Rp.ins []
theorem Rp.all_snoc (l : List Rp.Pt) (p : Rp.Pt) : Rp.all (l ++ [p]) = Rp.ins (Rp.all l) p := by simp [Rp.all]
theorem Rp.all_ok (l : List Rp.Pt) : (Rp.all l).Pairwise (fun x y => Rp.le x y = true) ∧ (Rp.all l).Perm l := by
  unfold Rp.all
  have key : ∀ (l acc : List Rp.Pt), acc.Pairwise (fun x y => Rp.le x y = true) → (l.foldl Rp.ins acc).Pairwise (fun x y => Rp.le x y = true) ∧ (l.foldl Rp.ins acc).Perm (acc ++ l) := by
    intro l
    induction l with
    | nil => intro acc h; exact ⟨h, by simp⟩
    | cons x r ih =>
      intro acc h
      rw [List.foldl_cons]
      obtain ⟨a, b⟩ := ih (Rp.ins acc x) (Rp.ins_sorted x h)
      refine ⟨a, b.trans ?_⟩
      refine ((Rp.ins_perm acc x).append_right r).trans ?_
      rw [List.append_assoc]
      exact List.Perm.refl _
  have := key l [] List.Pairwise.nil
  simpa using this
theorem Rp.all_length (l : List Rp.Pt) : (Rp.all l).length = l.length := (Rp.all_ok l).2.length_eq
/-- Put in one by one, they are the ring. -/
theorem Rp.all_ring {n : Int} {l : List Rp.Pt} (h : Rp.buildE n l = 0) : Rp.all (Rp.pts n l) = Rp.ring n l :=
  Rp.sorted_one (Rp.all_ok _).1 (Rp.ring_pair h) ((Rp.all_ok _).2.trans (Rp.ring_perm h).symm)
end Go.Proofs.Ytcpcnajifdicmaa

