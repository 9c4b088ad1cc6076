/- ring: what a built ring is; alive. -/
import Derived.Test.YtekmcooghkchpaaRK
namespace Go.Proofs.Ytekmcooghkchpaa
open Go.RowKit Go.Sort Go.Shelf

theorem Rp.build_ok {n : Int} {l : List Rp.Pt} (h : Rp.buildE n l = 0) : Rp.checkE l = 0 ∧ 1 ≤ n ∧ n ≤ 64 ∧ Rp.size n l ≤ 1024 := by
  unfold Rp.buildE at h
  split at h
  · rename_i h1; exact absurd h h1
  · split at h
    · cases h
    · split at h
      · cases h
      · rename_i h1 h2 h3
        exact ⟨Decidable.of_not_not h1, by omega, by omega, by omega⟩
theorem Rp.ring_eq {n : Int} {l : List Rp.Pt} (h : Rp.buildE n l = 0) : Rp.ring n l = (Rp.pts n l).mergeSort Rp.le := if_pos h
theorem Rp.ring_perm {n : Int} {l : List Rp.Pt} (h : Rp.buildE n l = 0) : (Rp.ring n l).Perm (Rp.pts n l) := by rw [Rp.ring_eq h]; exact List.mergeSort_perm _ _
theorem Rp.ring_pair {n : Int} {l : List Rp.Pt} (h : Rp.buildE n l = 0) : (Rp.ring n l).Pairwise (fun x y => Rp.le x y = true) := by
  rw [Rp.ring_eq h]
  exact List.pairwise_mergeSort Rp.le_trans (fun a b => Rp.le_total a b) _
theorem Rp.ring_length {n : Int} {l : List Rp.Pt} (h : Rp.buildE n l = 0) : (Rp.ring n l).length = Rp.size n l := by rw [(Rp.ring_perm h).length_eq, Rp.pts_length]
theorem Rp.pts_mem {n : Int} {l : List Rp.Pt} {p : Rp.Pt} (h : p ∈ Rp.pts n l) : ∃ b ∈ l, p.2 = b.1 := by
  unfold Rp.pts at h
  rw [List.mem_flatMap] at h
  obtain ⟨b, hb, hp⟩ := h
  unfold Rp.ptsOf at hp
  rw [List.mem_map] at hp
  obtain ⟨k, _, rfl⟩ := hp
  exact ⟨b, hb, rfl⟩
theorem Rp.ring_mem {n : Int} {l : List Rp.Pt} (h : Rp.buildE n l = 0) {p : Rp.Pt} (hp : p ∈ Rp.ring n l) : ∃ b ∈ l, p.2 = b.1 := Rp.pts_mem ((Rp.ring_perm h).mem_iff.1 hp)
theorem Rp.ring_whole {n : Int} {l : List Rp.Pt} (h : Rp.buildE n l = 0) : Rp.wholeE (Rp.ring n l) = 0 := by
  obtain ⟨h1, h2, h3, h4⟩ := Rp.build_ok h
  obtain ⟨k1, k2, k3⟩ := Rp.check_ok h1
  unfold Rp.wholeE
  rw [if_neg (by rw [Rp.ring_length h]; omega), if_neg]
  rw [Rp.sorted_to (Rp.ring_pair h)]
  simp only [Bool.not_true, Bool.or_false, Bool.not_eq_true]
  rw [List.any_eq_false]
  intro p hp
  obtain ⟨b, hb, e⟩ := Rp.ring_mem h hp
  have := k2 b hb
  simp only [decide_eq_true_iff]
  omega
theorem Rp.ring_people {n : Int} {l : List Rp.Pt} (h : Rp.buildE n l = 0) : Rp.peopledE (Rp.ring n l) = if (Rp.ring n l).length = 0 then 71 else 0 := by
  unfold Rp.peopledE
  rw [Rp.ring_whole h, if_neg (by omega)]
theorem Rp.owner_mem {r : List Rp.Pt} (h : Int) (h0 : 0 < r.length) : ∃ p ∈ r, Rp.owner r h = p.2 := by
  have := Rp.place_lt r h h0
  unfold Rp.owner
  rw [pgetD_at this]
  exact ⟨_, List.getElem_mem _, rfl⟩

theorem Rp.alive_e : Rp.buildE 3 [(4, 2)] = 0 := by decide
theorem Rp.alive_len : (Rp.ring 3 [(4, 2)]).length = 6 := by rw [Rp.ring_length Rp.alive_e]; decide
theorem Rp.alive_p : Rp.peopledE (Rp.ring 3 [(4, 2)]) = 0 := by rw [Rp.ring_people Rp.alive_e, if_neg (by rw [Rp.alive_len]; omega)]
theorem Rp.alive_l (h : Int) : Rp.lookI (Rp.ring 3 [(4, 2)]) h = 4 := by
  unfold Rp.lookI
  rw [if_pos Rp.alive_p]
  obtain ⟨p, hp, e⟩ := Rp.owner_mem (r := Rp.ring 3 [(4, 2)]) h (by rw [Rp.alive_len]; omega)
  obtain ⟨b, hb, e2⟩ := Rp.ring_mem Rp.alive_e hp
  simp only [List.mem_singleton] at hb
  rw [e, e2, hb]

theorem alive_v (w : World) (C1 : ∀ w : World, Calls Try.prog 10 #[.int .i64 3, .slice (some ⟨w.heap.size, 0, none⟩) 1 1] (w.alloc (.cells #[.int .i64 4, .int .i64 2] 54)) fun e w' => ∃ a cap, e = .returned (.tuple #[.slice a 6 cap, .int .i64 0]) ∧ PSeg .u64 w' (.slice a 6 cap) (Rp.ring 3 [(4, 2)]) ∧ Below w.heap.size w w')
    (C2 : ∀ (v : Value) (w : World), PSeg .u64 w v (Rp.ring 3 [(4, 2)]) → Calls Try.prog 12 #[v, .int .u64 12345] w fun e w' => e = .returned (.tuple #[.int .i64 4, .int .i64 0]) ∧ Below w.heap.size w w') :
    Calls Try.prog 25 #[] w fun e w' => e = .returned (.bool true) ∧ Below w.heap.size w w' := by
  have c1 := C1 w
  clear C1
  go_enter Try.func25, Try.ntmps25
  go_wp2_with fail
  with_reducible refine c1.mono ?_
  rintro e w1 ⟨a, cap, rfl, h1, b1⟩
  have c2 := C2 _ w1 h1
  clear C2
  go_wp2_with fail
  with_reducible refine c2.mono ?_
  rintro e w2 ⟨rfl, b2⟩
  go_wp2_with (go_at_call 19; refine (num_any _ _).mono ?_; rintro e w4 ⟨rfl, rfl⟩)
  go_ret
  exact ⟨rfl, Below.step b1 b2⟩
theorem alive_any (w : World) : Calls Try.prog 25 #[] w fun e w' => e = .returned (.bool true) ∧ Below w.heap.size w w' := by
  refine alive_v w (fun w => ?_) (fun v w hv => ?_)
  · have hseg : PSeg .i64 (w.alloc (.cells #[.int .i64 4, .int .i64 2] 54)) (.slice (some ⟨w.heap.size, 0, none⟩) 1 1) [(4, 2)] := by
      refine ⟨_, 1, rfl, Nat.le_refl _, by unfold maxLen; omega, (fun h => by cases h), fun g off ar ha _ => ?_⟩
      cases ha
      refine ⟨rfl, by simp, fun i hi => ?_⟩
      obtain rfl : i = 0 := by simp at hi; omega
      refine ⟨?_, ?_⟩ <;> simp [World.cell?_alloc_at _ _ _ _ rfl]
    refine (build_any 3 _ _ _ hseg).mono ?_
    rintro e w' ⟨v', rfl, h1, _, hb⟩
    rw [Rp.alive_e]
    obtain ⟨a, cap, rfl, hh⟩ := id h1
    rw [Rp.alive_len] at h1 ⊢
    exact ⟨a, cap, rfl, h1, ((Below.refl _ _).alloc (Nat.le_refl _) _).trans (hb.mono (by simp))⟩
  · have c := lookup_any v _ 12345 w hv
    rw [Rp.alive_l, Rp.alive_p] at c
    exact c
end Go.Proofs.Ytekmcooghkchpaa
