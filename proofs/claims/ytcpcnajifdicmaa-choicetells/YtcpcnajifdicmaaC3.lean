/- choice: alive, busy. -/
import Derived.Test.YtcpcnajifdicmaaC2
namespace Go.Proofs.Ytcpcnajifdicmaa
open Go.RowKit Go.Sort

theorem lo_alive : Lo.peopledE [(1, 5), (2, 3)] = 0 ∧ Lo.id' [(1, 5), (2, 3)] (Lo.least [(1, 5), (2, 3)]) = 2 := by decide
theorem lalive_any (w : World) : Calls Try.prog 22 #[] w fun e w' => e = .returned (.bool true) ∧ Below w.heap.size w w' := by
  have hseg : PSeg .i64 (w.alloc (.cells #[.int .i64 1, .int .i64 5, .int .i64 2, .int .i64 3] 49)) (.slice (some ⟨w.heap.size, 0, none⟩) 2 2) [(1, 5), (2, 3)] := by
    refine ⟨_, 2, rfl, Nat.le_refl _, by unfold maxLen; omega, (fun h => by cases h), fun g off ar ha _ => ?_⟩
    cases ha
    refine ⟨rfl, by simp, fun i hi => ?_⟩
    have hi2 : i < 2 := hi
    match i, hi2 with
    | 0, _ => exact ⟨by simp [World.cell?_alloc_at _ _ _ _ rfl], by simp [World.cell?_alloc_at _ _ _ _ rfl]⟩
    | 1, _ => exact ⟨by simp [World.cell?_alloc_at _ _ _ _ rfl], by simp [World.cell?_alloc_at _ _ _ _ rfl]⟩
  have c := lleast_any _ _ _ hseg
  rw [lo_alive.1, if_pos rfl, lo_alive.2] at c
  clear hseg
  have hb : Below w.heap.size w (w.alloc (.cells #[.int .i64 1, .int .i64 5, .int .i64 2, .int .i64 3] 49)) := (Below.refl _ _).alloc (Nat.le_refl _) _
  go_enter Try.func22, Try.ntmps22
  go_wp2_with fail
  with_reducible refine c.mono ?_
  rintro e w1 ⟨rfl, b1⟩
  go_wp2_with (go_at_call 18; refine (num_any _ _).mono ?_; rintro e w4 ⟨rfl, rfl⟩)
  go_ret
  exact ⟨rfl, Below.step hb b1⟩

theorem Lo.busy_none {l : List Rp.Pt} {x : Int} (h : ∀ j, j < l.length → (l.getD j (0, 0)).1 ≠ x) : Lo.busy l x = -1 := by
  unfold Lo.busy
  have : l.find? (fun p => p.1 == x) = none := by
    rw [List.find?_eq_none]
    intro p hp
    obtain ⟨j, hj, rfl⟩ := List.mem_iff_getElem.1 hp
    have := h j hj
    rw [pgetD_at hj] at this
    simp [this]
  rw [this]
theorem Lo.busy_first {l : List Rp.Pt} {x : Int} (k : Nat) (hk : k < l.length) (h : ∀ j, j < k → (l.getD j (0, 0)).1 ≠ x) (hx : (l.getD k (0, 0)).1 = x) : Lo.busy l x = (l.getD k (0, 0)).2 := by
  unfold Lo.busy
  have : l.find? (fun p => p.1 == x) = some (l.getD k (0, 0)) := by
    rw [List.find?_eq_some_iff_getElem]
    refine ⟨by simp only [hx, beq_self_eq_true], k, hk, by rw [pgetD_at hk], fun j hj => ?_⟩
    have := h j hj
    rw [pgetD_at (by omega)] at this
    simp [this]
  rw [this]

theorem lbusy_any (v : Value) (l : List Rp.Pt) (x : Int) (w : World) (hv : PSeg .i64 w v l) :
    Calls Try.prog 23 #[v, .int .i64 x] w fun e w' => e = .returned (.int .i64 (Lo.busy l x)) ∧ w = w' := by
  obtain ⟨a, cap, rfl, h1, h2, h3, h4⟩ := id hv
  obtain ⟨N, hN⟩ : ∃ N, N = l.length := ⟨_, rfl⟩
  rw [← hN] at h1 ⊢
  unfold maxLen at h2
  have HN : Hid (N = l.length) := hN
  have HV := hidD hv
  have HB0 := hidD (@Lo.busy_none l x)
  have HB1 := hidD (@Lo.busy_first l x)
  generalize Lo.busy l x = R at *
  clear hN hv h3 h4
  go_enter Try.func23, Try.ntmps23
  go_wp2_with fail
  go_loopw [5] (fun i wr => ∃ k : Nat, k ≤ N ∧ i = .int .i64 k ∧ Hid (∀ j, j < k → (l.getD j (0, 0)).1 ≠ x) ∧ w = wr) (fun i _ => N - (intOf i).toNat)
  case atStart => exact ⟨0, Nat.zero_le _, rfl, hidD (fun j hj => by omega), rfl⟩
  case round =>
    obtain ⟨k, hk, rfl, hc, rfl⟩ := hrel
    by_cases hlt : k < N
    · obtain ⟨a', cap', e1, _, _, h3, h4⟩ := HV.out
      rw [← HN.out] at e1
      cases e1
      obtain ⟨g, off, rfl, hg, hcell⟩ := pseg_at (l := l) (by have := HN.out; omega) h3 h4
      obtain ⟨Q1, Q2⟩ := hcell k (by have := HN.out; omega)
      have HX := hidD (fun hx => HB1.out k (by have := HN.out; omega) hc.out hx)
      have HY : Hid ((l.getD k (0, 0)).1 ≠ x → ∀ j, j < k + 1 → (l.getD j (0, 0)).1 ≠ x) := hidD (fun h j hj => by
        by_cases hjk : j = k
        · subst hjk; exact h
        · exact hc.out j (by omega))
      clear hcell h3 h4 HB0 HB1
      generalize (l.getD k (0, 0)) = y at *
      obtain ⟨y1, y2⟩ := y
      dsimp only at Q1 Q2 HX HY
      have i1 : (k : Int) < (N : Int) := by omega
      by_cases hx : y1 = x
      · subst hx
        have hR := HX.out rfl
        subst hR
        go_wp2
        go_ret
        exact ⟨rfl, rfl⟩
      · have hxb : (y1 == x) = false := by simp [hx]
        have hc2 := hidD (HY.out hx)
        go_wp2
        exact ⟨⟨k + 1, by omega, by go_num, hc2, (by first | rfl | trivial)⟩, by simp [intOf]; omega⟩
    · have hR : R = -1 := HB0.out (fun j hj => hc.out j (by have := HN.out; omega))
      subst hR
      go_wp2
      go_ret
      exact ⟨rfl, rfl⟩
end Go.Proofs.Ytcpcnajifdicmaa
