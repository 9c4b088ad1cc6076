/- ring: what a built ring is; alive. -/
import Derived.Test.YtcpcnajifdicmaaRK
namespace Go.Proofs.Ytcpcnajifdicmaa
open Go.RowKit Go.Sort Go.Shelf

theorem Rp.build_ok {n : Int} {l : List Rp.Pt} (h : Rp.buildE n l = 0) : Rp.checkE l = 0 ∧ 1 ≤ n ∧ n ≤ 64 ∧ Rp.size n l ≤ 1024 := by
  unfold Rp.buildE at h
  split at h
  · rename_i h1; exact absurd h h1
  · split at h
    · cases h
    · split at h
      · cases h
      · rename_i h1 h2 h3
        exact ⟨Decidable.of_not_not h1, by omega, by omega, by omega⟩
theorem Rp.ring_eq {n : Int} {l : List Rp.Pt} (h : Rp.buildE n l = 0) : Rp.ring n l = (Rp.pts n l).mergeSort Rp.le := if_pos h
theorem Rp.ring_perm {n : Int} {l : List Rp.Pt} (h : Rp.buildE n l = 0) : (Rp.ring n l).Perm (Rp.pts n l) := by rw [Rp.ring_eq h]; exact List.mergeSort_perm _ _
theorem Rp.ring_pair {n : Int} {l : List Rp.Pt} (h : Rp.buildE n l = 0) : (Rp.ring n l).Pairwise (fun x y => Rp.le x y = true) := by
  rw [Rp.ring_eq h]
  exact List.pairwise_mergeSort Rp.le_trans (fun a b => Rp.le_total a b) _
theorem Rp.ring_length {n : Int} {l : List Rp.Pt} (h : Rp.buildE n l = 0) : (Rp.ring n l).length = Rp.size n l := by rw [(Rp.ring_perm h).length_eq, Rp.pts_length]
theorem Rp.pts_mem {n : Int} {l : List Rp.Pt} {p : Rp.Pt} (h : p ∈ Rp.pts n l) : ∃ b ∈ l, p.2 = b.1 := by
  unfold Rp.pts at h
  rw [List.mem_flatMap] at h
  obtain ⟨b, hb, hp⟩ := h
  unfold Rp.ptsOf at hp
  rw [List.mem_map] at hp
  obtain ⟨k, _, rfl⟩ := hp
  exact ⟨b, hb, rfl⟩
theorem Rp.ring_mem {n : Int} {l : List Rp.Pt} (h : Rp.buildE n l = 0) {p : Rp.Pt} (hp : p ∈ Rp.ring n l) : ∃ b ∈ l, p.2 = b.1 := Rp.pts_mem ((Rp.ring_perm h).mem_iff.1 hp)
theorem Rp.ring_whole {n : Int} {l : List Rp.Pt} (h : Rp.buildE n l = 0) : Rp.wholeE (Rp.ring n l) = 0 := by
  obtain ⟨h1, h2, h3, h4⟩ := Rp.build_ok h
  obtain ⟨k1, k2, k3⟩ := Rp.check_ok h1
  unfold Rp.wholeE
  rw [if_neg (by rw [Rp.ring_length h]; omega), if_neg]
  rw [Rp.sorted_to (Rp.ring_pair h)]
  simp only [Bool.not_true, Bool.or_false, Bool.not_eq_true]
  rw [List.any_eq_false]
  intro p hp
  obtain ⟨b, hb, e⟩ := Rp.ring_mem h hp
  have := k2 b hb
  simp only [decide_eq_true_iff]
  omega
theorem Rp.ring_people {n : Int} {l : List Rp.Pt} (h : Rp.buildE n l = 0) : Rp.peopledE (Rp.ring n l) = if (Rp.ring n l).length = 0 then 71 else 0 := by
  unfold Rp.peopledE
  rw [Rp.ring_whole h, if_neg (by omega)]
theorem Rp.owner_mem {r : List Rp.Pt} (h : Int) (h0 : 0 < r.length) : ∃ p ∈ r, Rp.owner r h = p.2 := by
  have := Rp.place_lt r h h0
  unfold Rp.owner
  rw [pgetD_at this]
  exact ⟨_, List.getElem_mem _, rfl⟩

theorem Rp.alive_e : Rp.buildE 3 [(4, 2)] = 0 := by decide
theorem Rp.alive_len : (Rp.ring 3 [(4, 2)]).length = 6 := by rw [Rp.ring_length Rp.alive_e]; decide
theorem Rp.alive_p : Rp.peopledE (Rp.ring 3 [(4, 2)]) = 0 := by rw [Rp.ring_people Rp.alive_e, if_neg (by rw [Rp.alive_len]; omega)]
theorem Rp.alive_l (h : Int) : Rp.lookI (Rp.ring 3 [(4, 2)]) h = 4 := by
  unfold Rp.lookI
  rw [if_pos Rp.alive_p]
  obtain ⟨p, hp, e⟩ := Rp.owner_mem (r := Rp.ring 3 [(4, 2)]) h (by rw [Rp.alive_len]; omega)
  obtain ⟨b, hb, e2⟩ := Rp.ring_mem Rp.alive_e hp
  simp only [List.mem_singleton] at hb
  rw [e, e2, hb]

end Go.Proofs.Ytcpcnajifdicmaa
