/- ring: what Walk tells, plainly. -/
import Derived.Test.YtcpcnajifdicmaaRW2
import Derived.Test.YtcpcnajifdicmaaROp
namespace Go.Proofs.Ytcpcnajifdicmaa
open Go.RowKit Go.Sort Go.Shelf

theorem Rp.meet_mem (acc : List Int) (x y : Int) : y ∈ Rp.meet acc x ↔ y ∈ acc ∨ y = x := by
  unfold Rp.meet
  split
  · rename_i h
    constructor
    · exact .inl
    · rintro (h1 | rfl)
      · exact h1
      · exact h
  · simp
theorem Rp.fold_mem (l : List Int) : ∀ (acc : List Int) (y : Int), y ∈ l.foldl Rp.meet acc ↔ y ∈ acc ∨ y ∈ l := by
  induction l with
  | nil => intro acc y; simp
  | cons x r ih =>
    intro acc y
    rw [List.foldl_cons, ih, Rp.meet_mem]
    simp [or_assoc]
theorem Rp.uniq_mem (l : List Int) (y : Int) : y ∈ Rp.uniq l ↔ y ∈ l := by unfold Rp.uniq; rw [Rp.fold_mem]; simp
theorem Rp.fold_nodup (l : List Int) : ∀ (acc : List Int), acc.Nodup → (l.foldl Rp.meet acc).Nodup := by
  induction l with
  | nil => intro acc h; exact h
  | cons x r ih =>
    intro acc h
    rw [List.foldl_cons]
    apply ih
    unfold Rp.meet
    split
    · exact h
    · rename_i hx
      rw [List.nodup_append]
      exact ⟨h, by simp, fun a ha b hb => by simp at hb; subst hb; exact fun e => hx (e ▸ ha)⟩
theorem Rp.uniq_nodup (l : List Int) : (Rp.uniq l).Nodup := Rp.fold_nodup l [] List.nodup_nil
theorem Rp.fold_head (l : List Int) : ∀ (a : Int) (acc : List Int), ∃ t, l.foldl Rp.meet (a :: acc) = a :: t := by
  induction l with
  | nil => intro a acc; exact ⟨acc, rfl⟩
  | cons x r ih =>
    intro a acc
    rw [List.foldl_cons]
    unfold Rp.meet
    split
    · exact ih a acc
    · exact ih a (acc ++ [x])
theorem Rp.uniq_head (x : Int) (l : List Int) : ∃ t, Rp.uniq (x :: l) = x :: t := by
  unfold Rp.uniq
  rw [List.foldl_cons, show Rp.meet [] x = [x] from by simp [Rp.meet]]
  exact Rp.fold_head l x []
theorem Rp.round_mem {r : List Rp.Pt} (h : Int) (y : Int) (h0 : 0 < r.length) : y ∈ Rp.roundL r h ↔ ∃ p ∈ r, p.2 = y := by
  unfold Rp.roundL
  rw [List.mem_map]
  have hp := Rp.place_lt r h h0
  constructor
  · rintro ⟨i, _, rfl⟩
    have hlt : (Rp.place r h + i) % r.length < r.length := Nat.mod_lt _ h0
    exact ⟨r[(Rp.place r h + i) % r.length], List.getElem_mem _, by rw [pgetD_at hlt]⟩
  · rintro ⟨p, hpr, rfl⟩
    obtain ⟨j, hj, rfl⟩ := List.mem_iff_getElem.1 hpr
    refine ⟨(j + (r.length - Rp.place r h)) % r.length, List.mem_range.2 (Nat.mod_lt _ h0), ?_⟩
    have e : (Rp.place r h + (j + (r.length - Rp.place r h)) % r.length) % r.length = j := by
      rw [Nat.add_mod, Nat.mod_mod, ← Nat.add_mod]
      rw [show Rp.place r h + (j + (r.length - Rp.place r h)) = j + r.length by omega, Nat.add_mod_right]
      exact Nat.mod_eq_of_lt hj
    rw [e, pgetD_at hj]
theorem Rp.round_head {r : List Rp.Pt} (h : Int) (h0 : 0 < r.length) : ∃ t, Rp.roundL r h = Rp.owner r h :: t := by
  unfold Rp.roundL
  obtain ⟨n, hn⟩ : ∃ n, r.length = n + 1 := ⟨r.length - 1, by omega⟩
  rw [hn, List.range_succ_eq_map, List.map_cons]
  have e : (r.getD ((Rp.place r h + 0) % (n + 1)) (0, 0)).2 = Rp.owner r h := by
    unfold Rp.owner
    rw [← hn, Nat.add_zero, Nat.mod_eq_of_lt (Rp.place_lt r h h0)]
  rw [e]
  exact ⟨_, rfl⟩
theorem Rp.walk_head {r : List Rp.Pt} (h : Int) (hp : Rp.peopledE r = 0) : ∃ t, Rp.walkL r h = Rp.owner r h :: t := by
  obtain ⟨t, ht⟩ := Rp.round_head h (Rp.people_ok hp).1
  have : Rp.walkL r h = Rp.uniq (Rp.roundL r h) := if_pos hp
  rw [this, ht]
  exact Rp.uniq_head _ _
theorem Rp.walk_mem {r : List Rp.Pt} (h : Int) (hp : Rp.peopledE r = 0) (y : Int) : y ∈ Rp.walkL r h ↔ ∃ p ∈ r, p.2 = y := by
  have : Rp.walkL r h = Rp.uniq (Rp.roundL r h) := if_pos hp
  rw [this, Rp.uniq_mem, Rp.round_mem h y (Rp.people_ok hp).1]
theorem Rp.walk_nodup (r : List Rp.Pt) (h : Int) : (Rp.walkL r h).Nodup := by
  unfold Rp.walkL
  split
  · exact Rp.uniq_nodup _
  · exact List.nodup_nil
end Go.Proofs.Ytcpcnajifdicmaa
