/- subset: what a subset is, plainly. -/
import Derived.Test.YtdgdhhbapgfjgaaS4
namespace Go.Proofs.Ytdgdhhbapgfjgaa

theorem Sp.of_zero {ids : List Int} {c k : Int} (h : Sp.ofE ids c k = 0) : Sp.chE ids = 0 ∧ Sp.rE ids.length c k = 0 := by
  unfold Sp.ofE at h
  by_cases hc : Sp.chE ids = 0
  · rw [if_neg (by simp [hc])] at h
    exact ⟨hc, h⟩
  · rw [if_pos hc] at h
    exact absurd h hc
theorem Sp.ch_up {ids : List Int} (h : Sp.chE ids = 0) : ids.length ≤ 32 ∧ (∀ x ∈ ids, -1 < x) ∧ Sp.Up ids := by
  unfold Sp.chE at h
  split at h
  · cases h
  · split at h
    · rename_i h1 h2
      exact ⟨by omega, (Sp.rises_up _ _).1 h2⟩
    · cases h
theorem up_getD {l : List Int} (h : Sp.Up l) {i j : Nat} (hij : i < j) (hj : j < l.length) : l.getD i 0 < l.getD j 0 := by
  rw [dgetD_at hj, dgetD_at (by omega : i < l.length)]
  exact List.pairwise_iff_getElem.1 h i j (by omega) hj hij
theorem Sp.ofL_up {ids : List Int} (hu : Sp.Up ids) {P : List Int} (hP : Sp.Up P) (hb : ∀ z ∈ P, 0 ≤ z ∧ z < ids.length) : Sp.Up (P.map fun p => ids.getD p.toNat 0) := by
  refine List.pairwise_map.2 ?_
  refine List.Pairwise.imp_of_mem ?_ hP
  intro a b ha hb' hab
  have := hb a ha
  have := hb b hb'
  exact up_getD hu (by omega) (by omega)
theorem Sp.ofL_some {ids : List Int} {c k : Int} (s : Nat) (h : Sp.ofE ids c k = 0) : ((Sp.ofL ids c k s).length : Int) = min k ids.length ∧ Sp.Up (Sp.ofL ids c k s) ∧ ∀ z ∈ Sp.ofL ids c k s, z ∈ ids := by
  obtain ⟨h1, h2⟩ := Sp.of_zero h
  obtain ⟨u1, u2, u3⟩ := Sp.ch_up h1
  obtain ⟨a1, a2, a3, a4, a5, a6, a7, a8, a9, a10, a11, a12⟩ := Sp.place_fits h2
  unfold Sp.ofL
  rw [if_pos h]
  refine ⟨?_, Sp.ofL_up u3 (Sp.plc_up _ _ _ _) (fun z hz => Sp.plc_mem hz), ?_⟩
  · rw [List.length_map, Sp.plc_length s h2]
    omega
  · intro z hz
    obtain ⟨p, hp, rfl⟩ := List.mem_map.1 hz
    have := Sp.plc_mem hp
    rw [dgetD_at (by omega : p.toNat < ids.length)]
    exact List.getElem_mem _
theorem Sp.ofL_none {ids : List Int} {c k : Int} (s : Nat) (h : ¬ Sp.ofE ids c k = 0) : Sp.ofL ids c k s = [] := by unfold Sp.ofL; rw [if_neg h]
theorem has_same (v : Value) (l : List Int) (x : Int) (w : World) (hs : Seg .i64 w v l) (hm : x ∈ l) :
    Calls Try.prog 21 #[v, .int .i64 x] w fun e w' => e = .returned (.bool true) ∧ w' = w := by
  refine (has_any v l x w hs).mono ?_
  rintro e w' ⟨rfl, rfl⟩
  rw [decide_eq_true hm]
  exact ⟨rfl, rfl⟩
theorem drewD {B : Nat} {a w : World} (h : RowKit.Below B a w) (n : Nat) : RowKit.Below B a (w.drewN n) := h.trans ⟨rfl, rfl, rfl, Nat.le_refl _, fun _ _ => rfl⟩
theorem has_not (v : Value) (l : List Int) (x : Int) (w : World) (hs : Seg .i64 w v l) (hm : ¬ x ∈ l) :
    Calls Try.prog 21 #[v, .int .i64 x] w fun e w' => e = .returned (.bool false) ∧ w' = w := by
  refine (has_any v l x w hs).mono ?_
  rintro e w' ⟨rfl, rfl⟩
  rw [decide_eq_false hm]
  exact ⟨rfl, rfl⟩
theorem num_same (n : Int) (w : World) : Calls Try.prog 19 #[.int .i64 n] w fun e w' => e = .returned (.int .i64 n) ∧ w' = w := (num_any n w).mono fun _ _ h => ⟨h.1, h.2.symm⟩
end Go.Proofs.Ytdgdhhbapgfjgaa
