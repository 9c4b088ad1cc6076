/- ring: where a hash stands; Lookup. -/
import Derived.Test.YtcpcnajifdicmaaRE
import Derived.Shelf.Lay
import Derived.Ground.SlsoProg
namespace Go.Proofs
open Go.Shelf
shelf_lay SlLaysO.n16 Slso 16 at Try as Try.search
end Go.Proofs
namespace Go.Proofs.Ytcpcnajifdicmaa
open Go.RowKit Go.Sort Go.Shelf

theorem Rp.count_while {α : Type} (q : α → Bool) : ∀ (l : List α), l.Pairwise (fun x y => q y = true → q x = true) → l.countP q = (l.takeWhile q).length
  | [], _ => rfl
  | x :: l, h => by
    rw [List.pairwise_cons] at h
    rw [List.countP_cons, List.takeWhile_cons]
    cases hx : q x with
    | true => simp [Rp.count_while q l h.2]
    | false =>
      have : l.countP q = 0 := by
        rw [List.countP_eq_zero]
        intro y hy hq
        rw [h.1 y hy hq] at hx
        cases hx
      simp [this]
theorem Rp.from_count (r : List Rp.Pt) (h : Int) (hs : Rp.sorted r = true) : (List.range r.length).countP (fun i => !decide (h ≤ (r.getD i (0, 0)).1)) = Rp.from' r h := by
  have e : r.countP (fun p => decide (p.1 < h)) = (List.range r.length).countP (fun i => !decide (h ≤ (r.getD i (0, 0)).1)) := by
    have : r = (List.range r.length).map fun i => r.getD i (0, 0) := by
      apply List.ext_getElem
      · simp
      · intro i h1 h2
        rw [List.getElem_map, List.getElem_range, pgetD_at h1]
    rw [congrArg (List.countP fun p => decide (p.1 < h)) this, List.countP_map]
    refine List.countP_congr fun i _ => ?_
    simp only [Function.comp, decide_eq_true_iff, Bool.not_eq_true', decide_eq_false_iff_not, Int.not_le]
  rw [← e]
  unfold Rp.from'
  refine Rp.count_while _ r ((Rp.sorted_of hs).imp fun {x y} hle hq => ?_)
  rw [Rp.le_iff] at hle
  simp only [decide_eq_true_iff] at *
  omega
theorem Rp.mono_at (r : List Rp.Pt) (h : Int) (hs : Rp.sorted r = true) (a b : Nat) (hab : a ≤ b) (hb : b < r.length) (ha : decide (h ≤ (r.getD a (0, 0)).1) = true) : decide (h ≤ (r.getD b (0, 0)).1) = true := by
  have hp := Rp.sorted_of hs
  rw [List.pairwise_iff_getElem] at hp
  rcases Nat.lt_or_ge a b with hlt | hge
  · have := hp a b (by omega) hb hlt
    rw [Rp.le_iff] at this
    rw [pgetD_at hb]
    rw [pgetD_at (by omega : a < r.length)] at ha
    simp only [decide_eq_true_iff] at *
    omega
  · obtain rfl : a = b := by omega
    exact ha

theorem at1_any (B1 B2 g off n cap i : Nat) (x h : Int) (w : World) (hi : i < n) (c1 : w.cell? ⟨B1, 0, none⟩ = some (.slice (some ⟨g, off, none⟩) n cap)) (c2 : w.cell? ⟨B2, 0, none⟩ = some (.int .u64 h)) (c3 : w.cell? ⟨g, off + i * 2, none⟩ = some (.int .u64 x)) :
    Calls Try.prog 65 #[.int .i64 i, .pointer (some ⟨B1, 0, none⟩), .pointer (some ⟨B2, 0, none⟩)] w fun e w' => e = .returned (.bool (decide (h ≤ x))) ∧ ∃ q, w' = w.drewN q := by
  have i1 : (i : Int) < (n : Int) := by omega
  go_enter Try.func65, Try.ntmps65
  go_wp2_with fail
  go_quiet (fail)
  go_wp2
  go_ret
  exact ⟨rfl, _, rfl⟩

theorem place_any (v : Value) (l : List Rp.Pt) (h : Int) (w : World) (hv : PSeg .u64 w v l) (h0 : 0 < l.length) (hs : Rp.sorted l = true) (hlen : l.length ≤ 1024) :
    Calls Try.prog 56 #[v, .int .u64 h] w fun e w' => e = .returned (.int .i64 (Rp.place l h : Nat)) ∧ Below w.heap.size w w' := by
  obtain ⟨a, cap, rfl, h1, h2, h3, h4⟩ := id hv
  obtain ⟨g, off, rfl, hg, hcell⟩ := pseg_at h0 h3 h4
  obtain ⟨W0, hW0⟩ : ∃ W0, W0 = (w.alloc (.cells #[.slice (some ⟨g, off, none⟩) l.length cap] 24)).alloc (.cells #[.int .u64 h] 22) := ⟨_, rfl⟩
  have hsize : W0.heap.size = w.heap.size + 1 + 1 := by rw [hW0]; simp
  have ca : W0.cell? ⟨w.heap.size, 0, none⟩ = some (.slice (some ⟨g, off, none⟩) l.length cap) := by rw [hW0]; exact cell_alloc_sl _ (cell_new_sl w _ _)
  have cx : W0.cell? ⟨w.heap.size + 1, 0, none⟩ = some (.int .u64 h) := by rw [hW0]; have := cell_new_sl (w.alloc (.cells #[.slice (some ⟨g, off, none⟩) l.length cap] 24)) (.int .u64 h) 22; rwa [World.size_alloc] at this
  have cc : ∀ i, i < l.length → W0.cell? ⟨g, off + i * 2, none⟩ = some (.int .u64 (l.getD i (0, 0)).1) := fun i hi => by rw [hW0]; exact cell_alloc_sl _ (cell_alloc_sl _ (hcell i hi).1)
  have hS := Any.sort_Search Try.search 65 #[.pointer (some ⟨w.heap.size, 0, none⟩), .pointer (some ⟨w.heap.size + 1, 0, none⟩)] l.length (fun i => decide (h ≤ (l.getD i (0, 0)).1)) W0 (fun _ _ => rfl) (by omega)
    (fun m os i hi => (at1_any w.heap.size (w.heap.size + 1) g off l.length cap i (l.getD i (0, 0)).1 h _ hi (cell_grown (by simp [hsize]; omega) ca m os) (cell_grown (by simp [hsize]) cx m os) (cell_grown (by simp [hsize]; omega) (cc i hi) m os)).mono
      fun _ _ ⟨he, q, hq⟩ => ⟨he, q, #[], by rw [hq, grow_empty]⟩) (Rp.mono_at l h hs)
  rw [Rp.from_count l h hs] at hS
  change Calls Try.prog 64 _ _ _ at hS
  have hp : Rp.place l h = Rp.from' l h % l.length := rfl
  have hB0 : Below w.heap.size w W0 := by rw [hW0]; exact ((Below.refl _ w).alloc (Nat.le_refl _) _).alloc (by simp) _
  have hf : Rp.from' l h ≤ l.length := by unfold Rp.from'; exact (List.takeWhile_sublist _).length_le
  have hb : ∀ q os, Below w.heap.size w (grow (W0.drewN q) os) := fun q os => hB0.trans (below_grown_sl w.heap.size W0 q os (by omega))
  have ca2 : ∀ q os, (grow (W0.drewN q) os).cell? ⟨w.heap.size, 0, none⟩ = some (.slice (some ⟨g, off, none⟩) l.length cap) := fun q os => cell_grown (by simp [hsize]; omega) ca q os
  rw [hp]
  clear hcell ca cx cc hs hp hB0 h3 h4 hv
  generalize Rp.from' l h = r at *
  generalize l.length = N at *
  have hr : Int.tmod (r : Int) (N : Int) = ((r % N : Nat) : Int) := by rw [Int.tmod_eq_emod_of_nonneg (by omega)]; rfl
  generalize r % N = m at *
  have hne : (N : Int) ≠ 0 := by omega
  go_enter Try.func56, Try.ntmps56
  go_wp2_with fail
  rw [← hW0]
  refine hS.mono ?_
  rintro e w' ⟨rfl, q, os, rfl⟩
  have ca3 := ca2 q os
  have hb3 := hb q os
  clear hS ca2 hb hW0
  generalize grow (W0.drewN q) os = w3 at *
  go_wp2
  go_ret
  exact ⟨by first | rfl | (simp [hr]), hb3⟩

theorem Rp.place_lt (l : List Rp.Pt) (h : Int) (h0 : 0 < l.length) : Rp.place l h < l.length := Nat.mod_lt _ h0

theorem Rp.people_ok {l : List Rp.Pt} (h : Rp.peopledE l = 0) : 0 < l.length ∧ Rp.sorted l = true ∧ l.length ≤ 1024 ∧ ∀ p ∈ l, 0 ≤ p.2 := by
  unfold Rp.peopledE at h
  split at h
  · rename_i hw; exact absurd h hw
  · rename_i hw
    split at h
    · cases h
    · rename_i hl
      have hw' : Rp.wholeE l = 0 := Decidable.of_not_not hw
      unfold Rp.wholeE at hw'
      split at hw'
      · cases hw'
      · split at hw'
        · cases hw'
        · rename_i h1 h2
          rw [Bool.not_eq_true, Bool.or_eq_false_iff] at h2
          refine ⟨by omega, by simpa using h2.2, by omega, fun p hp => ?_⟩
          have := List.any_eq_false.1 h2.1 p hp
          simpa using this

end Go.Proofs.Ytcpcnajifdicmaa
