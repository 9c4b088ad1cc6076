/- ring: without a backend only what was its own goes elsewhere, plainly. -/
import Derived.Test.YtcpcnajifdicmaaRWp
namespace Go.Proofs.Ytcpcnajifdicmaa
open Go.RowKit Go.Sort Go.Shelf

theorem Rp.rot_at (r : List Rp.Pt) (k : Nat) (hk : k ≤ r.length) (h0 : 0 < r.length) : ((List.range r.length).map fun i => (r.getD ((k % r.length + i) % r.length) (0, 0)).2) = (r.drop k ++ r.take k).map (·.2) := by
  apply List.ext_getElem
  · simp; omega
  · intro i h1 h2
    simp only [List.length_map, List.length_range] at h1
    rw [List.getElem_map, List.getElem_map, List.getElem_range, Nat.add_mod, Nat.mod_mod, ← Nat.add_mod]
    by_cases hi : i < r.length - k
    · rw [Nat.mod_eq_of_lt (by omega : k + i < r.length), pgetD_at (by omega), List.getElem_append_left (by simp; omega), List.getElem_drop]
    · have e : (k + i) % r.length = k + i - r.length := by rw [Nat.mod_eq_sub_mod (by omega), Nat.mod_eq_of_lt (by omega)]
      rw [e, pgetD_at (by omega), List.getElem_append_right (by simp; omega), List.getElem_take]
      congr 2
      simp
      omega
theorem Rp.from_le (r : List Rp.Pt) (h : Int) : Rp.from' r h ≤ r.length := (List.takeWhile_sublist _).length_le
theorem Rp.take_filter {α : Type} (q : α → Bool) : ∀ (l : List α), l.Pairwise (fun x y => q y = true → q x = true) → l.take (l.takeWhile q).length = l.filter q ∧ l.drop (l.takeWhile q).length = l.filter (fun x => !q x)
  | [], _ => ⟨rfl, rfl⟩
  | x :: l, h => by
    rw [List.pairwise_cons] at h
    obtain ⟨h1, h2⟩ := Rp.take_filter q l h.2
    cases hx : q x with
    | true => simp [hx, h1, h2]
    | false =>
      have e1 : l.filter q = [] := by
        rw [List.filter_eq_nil_iff]
        intro y hy hq
        rw [h.1 y hy hq] at hx
        cases hx
      have e2 : l.filter (fun x => !q x) = l := by
        rw [List.filter_eq_self]
        intro y hy
        cases hq : q y with
        | false => rfl
        | true => rw [h.1 y hy hq] at hx; cases hx
      simp [hx, e1, e2]
theorem Rp.round_rot {r : List Rp.Pt} (h : Int) (h0 : 0 < r.length) (hs : Rp.sorted r = true) : Rp.roundL r h = (r.filter (fun p => !decide (p.1 < h)) ++ r.filter (fun p => decide (p.1 < h))).map (·.2) := by
  have hp : r.Pairwise (fun x y => decide (y.1 < h) = true → decide (x.1 < h) = true) := (Rp.sorted_of hs).imp fun {x y} hle hq => by
    rw [Rp.le_iff] at hle
    simp only [decide_eq_true_iff] at *
    omega
  obtain ⟨e1, e2⟩ := Rp.take_filter (fun p : Rp.Pt => decide (p.1 < h)) r hp
  rw [← e1, ← e2]
  exact Rp.rot_at r (Rp.from' r h) (Rp.from_le r h) h0
theorem Rp.fold_filter (q : Int → Bool) (l : List Int) : ∀ (acc : List Int), (l.foldl Rp.meet acc).filter q = (l.filter q).foldl Rp.meet (acc.filter q) := by
  induction l with
  | nil => intro acc; rfl
  | cons x r ih =>
    intro acc
    rw [List.foldl_cons, ih]
    cases hx : q x with
    | true =>
      rw [List.filter_cons, if_pos hx, List.foldl_cons]
      congr 1
      unfold Rp.meet
      by_cases hm : x ∈ acc
      · rw [if_pos hm, if_pos (List.mem_filter.2 ⟨hm, hx⟩)]
      · rw [if_neg hm, if_neg (fun h => hm (List.mem_filter.1 h).1), List.filter_append, List.filter_cons, if_pos hx]
        rfl
    | false =>
      rw [List.filter_cons, if_neg (by rw [hx]; simp)]
      congr 1
      unfold Rp.meet
      split
      · rfl
      · rw [List.filter_append, List.filter_cons, if_neg (by rw [hx]; simp)]
        simp
theorem Rp.uniq_filter (q : Int → Bool) (l : List Int) : (Rp.uniq l).filter q = Rp.uniq (l.filter q) := Rp.fold_filter q l []

theorem Rp.rises_of {l : List Rp.Pt} (h : l.Pairwise (fun x y => x.1 < y.1)) : Rp.rises l = true := by
  apply rises_all
  intro i h0 hi
  rw [List.pairwise_iff_getElem] at h
  rw [pgetD_at hi, pgetD_at (by omega : i - 1 < l.length)]
  exact h (i - 1) i (by omega) hi (by omega)
theorem Rp.size_append (n : Int) (a b : List Rp.Pt) : Rp.size n (a ++ b) = Rp.size n a + Rp.size n b := by simp [Rp.size]
theorem Rp.pts_append (n : Int) (a b : List Rp.Pt) : Rp.pts n (a ++ b) = Rp.pts n a ++ Rp.pts n b := by simp [Rp.pts]

def Rp.less (l : List Rp.Pt) (k : Nat) : List Rp.Pt := l.take k ++ l.drop (k + 1)
theorem Rp.split_at (l : List Rp.Pt) (k : Nat) (hk : k < l.length) : l = l.take k ++ (l.getD k (0, 0) :: l.drop (k + 1)) := by
  rw [pgetD_at hk, ← List.drop_eq_getElem_cons hk, List.take_append_drop]
theorem Rp.less_ok {n : Int} {l : List Rp.Pt} (h : Rp.buildE n l = 0) (k : Nat) (hk : k < l.length) : Rp.buildE n (Rp.less l k) = 0 := by
  obtain ⟨h1, h2, h3, h4⟩ := Rp.build_ok h
  obtain ⟨k1, k2, k3⟩ := Rp.check_ok h1
  have hsub : (Rp.less l k).Sublist l := by
    conv => rhs; rw [Rp.split_at l k hk]
    exact List.Sublist.append (List.Sublist.refl _) (List.sublist_cons_self _ _)
  have hc : Rp.checkE (Rp.less l k) = 0 := by
    unfold Rp.checkE
    rw [if_neg (by have := hsub.length_le; omega), if_neg, Rp.rises_of ((Rp.rises_pair k3).sublist hsub)]
    · rfl
    · rw [Bool.not_eq_true, List.any_eq_false]
      intro b hb
      have := k2 b (hsub.subset hb)
      rw [out_iff]
      omega
  have hs : Rp.size n (Rp.less l k) ≤ Rp.size n l := by
    conv => rhs; rw [Rp.split_at l k hk]
    unfold Rp.less
    rw [Rp.size_append, Rp.size_append]
    simp [Rp.size]
  unfold Rp.buildE
  rw [hc, if_neg (by omega), if_neg (by omega), if_neg (by omega)]
theorem Rp.each_pos {n : Int} {b : Rp.Pt} (hn : 1 ≤ n) (hb : 1 ≤ b.2) : 1 ≤ Rp.each n b := by
  unfold Rp.each
  have : 1 * 1 ≤ b.2 * n := Int.mul_le_mul hb hn (by omega) (by omega)
  omega
theorem Rp.pts_ids {n : Int} {l : List Rp.Pt} (h : Rp.buildE n l = 0) (y : Int) : (∃ p ∈ Rp.ring n l, p.2 = y) ↔ y ∈ l.map (·.1) := by
  obtain ⟨h1, h2, h3, h4⟩ := Rp.build_ok h
  obtain ⟨k1, k2, k3⟩ := Rp.check_ok h1
  constructor
  · rintro ⟨p, hp, rfl⟩
    obtain ⟨b, hb, e⟩ := Rp.ring_mem h hp
    rw [e]
    exact List.mem_map.2 ⟨b, hb, rfl⟩
  · intro hy
    obtain ⟨b, hb, rfl⟩ := List.mem_map.1 hy
    have hc := Rp.count_ring h hb
    have hpos := Rp.each_pos h2 (k2 b hb).2.2.1
    have : 0 < (Rp.ring n l).countP (fun p => decide (p.2 = b.1)) := by omega
    rw [List.countP_pos_iff] at this
    obtain ⟨p, hp, e⟩ := this
    exact ⟨p, hp, by simpa using e⟩
theorem Rp.ring_pos {n : Int} {l : List Rp.Pt} (h : Rp.buildE n l = 0) (h0 : 0 < l.length) : 0 < (Rp.ring n l).length := by
  obtain ⟨p, hp, _⟩ := (Rp.pts_ids h (l[0]).1).2 (List.mem_map.2 ⟨l[0], List.getElem_mem _, rfl⟩)
  exact List.length_pos_of_mem hp
theorem Rp.ring_peopled {n : Int} {l : List Rp.Pt} (h : Rp.buildE n l = 0) (h0 : 0 < l.length) : Rp.peopledE (Rp.ring n l) = 0 := by
  rw [Rp.ring_people h, if_neg (by have := Rp.ring_pos h h0; omega)]
theorem Rp.ids_nodup {l : List Rp.Pt} (h : Rp.rises l = true) : (l.map (·.1)).Nodup := by
  rw [List.Nodup, List.pairwise_map]
  exact (Rp.rises_pair h).imp fun {x y} hlt => by omega
theorem Rp.walk_length {n : Int} {l : List Rp.Pt} (h : Rp.buildE n l = 0) (h0 : 0 < l.length) (hash : Int) : (Rp.walkL (Rp.ring n l) hash).length = l.length := by
  have hp := Rp.ring_peopled h h0
  have k3 := (Rp.check_ok (Rp.build_ok h).1).2.2
  have : (Rp.walkL (Rp.ring n l) hash).Perm (l.map (·.1)) := by
    rw [List.perm_ext_iff_of_nodup (Rp.walk_nodup _ _) (Rp.ids_nodup k3)]
    intro y
    rw [Rp.walk_mem hash hp, Rp.pts_ids h]
  rw [this.length_eq, List.length_map]

theorem Rp.less_ring {n : Int} {l : List Rp.Pt} (h : Rp.buildE n l = 0) (k : Nat) (hk : k < l.length) : Rp.ring n (Rp.less l k) = (Rp.ring n l).filter (fun p => decide (p.2 ≠ (l.getD k (0, 0)).1)) := by
  have hl := Rp.less_ok h k hk
  have k3 := (Rp.check_ok (Rp.build_ok h).1).2.2
  have hpw := Rp.rises_pair k3
  refine Rp.sorted_one (Rp.ring_pair hl) ((Rp.ring_pair h).filter _) ((Rp.ring_perm hl).trans ?_)
  refine List.Perm.trans ?_ ((Rp.ring_perm h).filter _).symm
  have e : (Rp.pts n l).filter (fun p => decide (p.2 ≠ (l.getD k (0, 0)).1)) = Rp.pts n (Rp.less l k) := by
    rw [Rp.split_at l k hk, List.pairwise_append, List.pairwise_cons] at hpw
    have e1 : Rp.pts n l = Rp.pts n (l.take k) ++ (Rp.ptsOf n (l.getD k (0, 0)) ++ Rp.pts n (l.drop (k + 1))) := by
      conv => lhs; rw [Rp.split_at l k hk]
      simp [Rp.pts]
    rw [e1]
    generalize l.getD k (0, 0) = b at *
    have hb : (Rp.ptsOf n b).filter (fun p => decide (p.2 ≠ b.1)) = [] := by
      rw [List.filter_eq_nil_iff]
      intro p hp
      unfold Rp.ptsOf at hp
      obtain ⟨j, _, rfl⟩ := List.mem_map.1 hp
      simp
    have hoth : ∀ m : List Rp.Pt, (∀ c ∈ m, c.1 ≠ b.1) → (Rp.pts n m).filter (fun p => decide (p.2 ≠ b.1)) = Rp.pts n m := by
      intro m hm
      rw [List.filter_eq_self]
      intro p hp
      obtain ⟨c, hc, e⟩ := Rp.pts_mem hp
      rw [e]
      simpa using hm c hc
    rw [List.filter_append, List.filter_append, hb, hoth (l.take k) (fun c hc => by have := hpw.2.2 c hc b (by simp); omega), hoth (l.drop (k + 1)) (fun c hc => by have := hpw.2.1.1 c hc; omega)]
    unfold Rp.less
    rw [Rp.pts_append]
    simp
  rw [e]

/-- What was another's stays; what was its own goes to the next. -/
theorem Rp.leaves {n : Int} {l : List Rp.Pt} (h : Rp.buildE n l = 0) (k : Nat) (hk : k < l.length) (h2 : 2 ≤ l.length) (hash : Int) :
    Rp.owner (Rp.ring n (Rp.less l k)) hash = if Rp.owner (Rp.ring n l) hash = (l.getD k (0, 0)).1 then (Rp.walkL (Rp.ring n l) hash).getD 1 0 else Rp.owner (Rp.ring n l) hash := by
  have hl := Rp.less_ok h k hk
  have hll : 0 < (Rp.less l k).length := by unfold Rp.less; rw [List.length_append, List.length_take, List.length_drop]; omega
  have p1 := Rp.ring_peopled h (by omega : 0 < l.length)
  have p2 := Rp.ring_peopled hl hll
  obtain ⟨q1, q2, _⟩ := Rp.people_ok p1
  obtain ⟨q3, q4, _⟩ := Rp.people_ok p2
  have hw1 : Rp.walkL (Rp.ring n l) hash = Rp.uniq (Rp.roundL (Rp.ring n l) hash) := if_pos p1
  have hw2 : Rp.walkL (Rp.ring n (Rp.less l k)) hash = Rp.uniq (Rp.roundL (Rp.ring n (Rp.less l k)) hash) := if_pos p2
  have hrd : Rp.roundL (Rp.ring n (Rp.less l k)) hash = (Rp.roundL (Rp.ring n l) hash).filter (fun y => decide (y ≠ (l.getD k (0, 0)).1)) := by
    rw [Rp.round_rot hash q3 q4, Rp.round_rot hash q1 q2, Rp.less_ring h k hk]
    simp only [List.map_append, List.filter_append, List.filter_filter, List.filter_map]
    congr 1 <;> (congr 1; apply List.filter_congr; intro p _; simp [Bool.and_comm])
  have hwf : Rp.walkL (Rp.ring n (Rp.less l k)) hash = (Rp.walkL (Rp.ring n l) hash).filter (fun y => decide (y ≠ (l.getD k (0, 0)).1)) := by
    rw [hw2, hw1, Rp.uniq_filter, hrd]
  obtain ⟨t1, e1⟩ := Rp.walk_head hash p1
  obtain ⟨t2, e2⟩ := Rp.walk_head hash p2
  have hlen := Rp.walk_length h (by omega : 0 < l.length) hash
  have hnd := Rp.walk_nodup (Rp.ring n l) hash
  rw [e1] at hwf hlen hnd
  rw [e2] at hwf
  rw [e1]
  generalize (l.getD k (0, 0)).1 = b at *
  generalize Rp.owner (Rp.ring n l) hash = a at *
  match t1, hlen with
  | [], hlen => simp at hlen; omega
  | c :: t, _ =>
    by_cases hab : a = b
    · subst hab
      have hca : c ≠ a := fun e => by rw [List.nodup_cons] at hnd; exact hnd.1 (by rw [e]; simp)
      rw [if_pos rfl]
      rw [List.filter_cons, if_neg (by simp), List.filter_cons, if_pos (by simpa using hca)] at hwf
      injection hwf with h1 _
    · rw [if_neg hab]
      rw [List.filter_cons, if_pos (by simpa using hab)] at hwf
      injection hwf with h1 _
end Go.Proofs.Ytcpcnajifdicmaa
