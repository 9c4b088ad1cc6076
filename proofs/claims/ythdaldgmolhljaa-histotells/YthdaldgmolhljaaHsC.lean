/- histo: which may be, by the program and by the reference. -/
import Derived.Test.YthdaldgmolhljaaHsB
namespace Go.Proofs.Ythdaldgmolhljaa
open Go.RowKit
set_option linter.unusedVariables false
set_option maxRecDepth 20000

/-- A histogram as it lies. -/
abbrev vH (row : Value) (t : Int) : Value := .agg #[row, .int .i64 t]
abbrev hL (row : Value) (t : Int) : List Value := [row, .int .i64 t]

theorem Hi.pre_part {c : List Int} {k : Nat} (h : ∀ j, j < k → 0 ≤ c.getD j 0 ∧ c.getD j 0 ≤ 1073741824) : 0 ≤ Hi.pre c k ∧ Hi.pre c k ≤ 1073741824 * k := by
  induction k with
  | zero => exact ⟨Int.le_refl 0, Int.le_refl 0⟩
  | succ k ih =>
    have := ih (fun j hj => h j (by omega))
    have := h k (by omega)
    show 0 ≤ Hi.pre c k + c.getD k 0 ∧ Hi.pre c k + c.getD k 0 ≤ 1073741824 * ((k + 1 : Nat) : Int)
    omega
set_option maxHeartbeats 4000000 in
theorem check_any (row : Value) (h : Hi.H) (w : World) (hs : Seg .i64 w row h.c) : Calls Try.prog 22 #[vH row h.t] w fun e w' => e = .returned (.int .i64 (Hi.chk h)) ∧ Below w.heap.size w w' := by
  have HS := hidD hs
  obtain ⟨a, cap, rfl, h1, h2, h3, h4⟩ := id hs
  unfold maxLen at h2
  have HA : Hid (h.c.length ≠ 0 ∧ h.c.length ≠ 81 → Hi.chk h = 9) := hidD Hi.chk_len
  have HB : Hid (Hi.ranged h.c = false → Hi.chk h = 9) := hidD Hi.chk_bad
  have HC : Hid (¬ (h.c.length ≠ 0 ∧ h.c.length ≠ 81) → Hi.ranged h.c = true → Hi.chk h = if Hi.pre h.c h.c.length ≠ h.t ∨ 1073741824 < Hi.pre h.c h.c.length then 9 else 0) := hidD Hi.chk_sum
  generalize Hi.chk h = z at *
  obtain ⟨c, t⟩ := h
  dsimp only at *
  obtain ⟨N, hN⟩ : ∃ N, N = c.length := ⟨_, rfl⟩
  rw [← hN] at h1 HA HC ⊢
  have HN := hidD hN
  have X0 := hidD (Bo.new w (hL (.slice a N cap) t) 24)
  have HW := hidD ((Below.refl w.heap.size w).alloc (Nat.le_refl _) (.cells (hL (.slice a N cap) t).toArray 24))
  obtain ⟨W0, hW0⟩ : ∃ W0, W0 = w.alloc (.cells (hL (.slice a N cap) t).toArray 24) := ⟨_, rfl⟩
  obtain ⟨B, hB⟩ : ∃ B, B = w.heap.size := ⟨_, rfl⟩
  rw [← hW0] at X0 HW
  have HSW := hidD (hs.below HW.out)
  rw [← hB] at X0 HW ⊢
  simp only [hL] at hW0
  clear hs hN h3 h4 HS
  have p0 := X0.out.cell 0 rfl
  have p1 := X0.out.cell 1 rfl
  by_cases hl : N ≠ 0 ∧ N ≠ 81
  · have hz := HA.out hl
    subst hz
    obtain ⟨hl0, hl1⟩ := hl
    have d0 : ((N : Int) != 0) = true := by simp; omega
    have d1 : ((N : Int) != 81) = true := by simp; omega
    clear HA HB HC
    go_enter Try.func22, Try.ntmps22
    go_wp2_with fail
    rw [← hB, ← hW0]
    clear hB hW0
    go_ret
    exact ⟨rfl, HW.out⟩
  have HL := hidD hl
  by_cases h0 : N = 0
  · subst h0
    have hc : c = [] := List.length_eq_zero_iff.1 HN.out.symm
    subst hc
    have hz := HC.out hl rfl
    have hp : Hi.pre [] 0 = 0 := rfl
    rw [hp] at hz
    clear HA HB HC hl
    by_cases ht : t = 0
    · subst ht
      rw [if_neg (by omega)] at hz
      subst hz
      go_enter Try.func22, Try.ntmps22
      go_wp2_with fail
      rw [← hB, ← hW0]
      clear hB hW0
      go_loopw [3, 19] (fun s i wr => s = .int .i64 0 ∧ i = .int .i64 0 ∧ W0 = wr) (fun _ i _ => 100 - (intOf i).toNat)
      case atStart => exact ⟨rfl, rfl, rfl⟩
      case round =>
        obtain ⟨rfl, rfl, rfl⟩ := hrel
        go_wp2_with fail
        go_ret
        exact ⟨rfl, HW.out⟩
    · rw [if_pos (.inl (by omega))] at hz
      subst hz
      go_enter Try.func22, Try.ntmps22
      go_wp2_with fail
      rw [← hB, ← hW0]
      clear hB hW0
      go_loopw [3, 19] (fun s i wr => s = .int .i64 0 ∧ i = .int .i64 0 ∧ W0 = wr) (fun _ i _ => 100 - (intOf i).toNat)
      case atStart => exact ⟨rfl, rfl, rfl⟩
      case round =>
        obtain ⟨rfl, rfl, rfl⟩ := hrel
        go_wp2_with fail
        go_ret
        exact ⟨rfl, HW.out⟩
  · have h81 : N = 81 := by omega
    subst h81
    clear HA h0 hl
    go_enter Try.func22, Try.ntmps22
    go_wp2_with fail
    rw [← hB, ← hW0]
    clear hB hW0
    go_loopw [3, 19] (fun s i wr => ∃ k : Nat, k ≤ 81 ∧ s = .int .i64 (Hi.pre c k) ∧ i = .int .i64 (k : Int) ∧ Hid (∀ j, j < k → 0 ≤ c.getD j 0 ∧ c.getD j 0 ≤ 1073741824) ∧ W0 = wr) (fun _ i _ => 100 - (intOf i).toNat)
    case atStart => exact ⟨0, Nat.zero_le _, rfl, rfl, hidD (fun j hj => by omega), rfl⟩
    case round =>
      obtain ⟨k, hk, rfl, rfl, hr, rfl⟩ := hrel
      by_cases hlt : k < 81
      · obtain ⟨b, off, rfl, hb, Q⟩ := Seg.atE HSW.out k (by have := HN.out; omega)
        by_cases hx : c.getD k 0 < 0 ∨ 1073741824 < c.getD k 0
        · have hz := HB.out (Hi.ranged_not (by have := HN.out; omega) hx)
          subst hz
          clear HB HC hr
          generalize c.getD k 0 = x at *
          rcases hx with hx | hx
          · go_wp2_with fail
            go_ret
            exact ⟨rfl, HW.out⟩
          · have hx0 : ¬ x < 0 := by omega
            go_wp2_with fail
            go_ret
            exact ⟨rfl, HW.out⟩
        · have hr2 : Hid (∀ j, j < k + 1 → 0 ≤ c.getD j 0 ∧ c.getD j 0 ≤ 1073741824) := hidD (fun j hj => by
            by_cases e : j = k
            · subst e; omega
            · exact hr.out j (by omega))
          obtain ⟨s0, s1⟩ := Hi.pre_part (c := c) (k := k) hr.out
          have hw : IntKind.i64.wrap (Hi.pre c k + c.getD k 0) = Hi.pre c k + c.getD k 0 := wrap_ok (by omega) (by omega)
          have HX : Hid (Hi.pre c (k + 1) = Hi.pre c k + c.getD k 0) := hidD rfl
          have hx0 : ¬ c.getD k 0 < 0 := by omega
          have hx1 : ¬ 1073741824 < c.getD k 0 := by omega
          clear hr HB HC hx s0 s1
          generalize c.getD k 0 = x at *
          generalize Hi.pre c k = s at *
          go_wp2_with fail
          exact ⟨⟨k + 1, by omega, by rw [HX.out], by go_num, hr2, (by first | rfl | trivial)⟩, by simp [intOf]; omega⟩
      · have hke : k = 81 := by omega
        subst hke
        have hz := HC.out HL.out (Hi.ranged_all (fun j hj => hr.out j (by have := HN.out; omega)))
        clear HB HC hr
        generalize Hi.pre c 81 = s at *
        by_cases e1 : s = t
        · subst e1
          by_cases e2 : 1073741824 < s
          · rw [if_pos (.inr e2)] at hz
            subst hz
            go_wp2_with fail
            go_ret
            exact ⟨rfl, HW.out⟩
          · rw [if_neg (by omega)] at hz
            subst hz
            go_wp2_with fail
            go_ret
            exact ⟨rfl, HW.out⟩
        · rw [if_pos (.inl e1)] at hz
          subst hz
          have d : (s != t) = true := by simp [e1]
          go_wp2_with fail
          go_ret
          exact ⟨rfl, HW.out⟩
set_option maxHeartbeats 4000000 in
theorem rcheck_any (row : Value) (h : Hi.H) (w : World) (hs : Seg .i64 w row h.c) : Calls Try.prog 23 #[vH row h.t] w fun e w' => e = .returned (.int .i64 (Hi.chk h)) ∧ Below w.heap.size w w' := by
  have HS := hidD hs
  obtain ⟨a, cap, rfl, h1, h2, h3, h4⟩ := id hs
  unfold maxLen at h2
  have HA : Hid (h.c.length ≠ 0 ∧ h.c.length ≠ 81 → Hi.chk h = 9) := hidD Hi.chk_len
  have HB : Hid (Hi.ranged h.c = false → Hi.chk h = 9) := hidD Hi.chk_bad
  have HC : Hid (¬ (h.c.length ≠ 0 ∧ h.c.length ≠ 81) → Hi.ranged h.c = true → Hi.chk h = if Hi.pre h.c h.c.length ≠ h.t ∨ 1073741824 < Hi.pre h.c h.c.length then 9 else 0) := hidD Hi.chk_sum
  generalize Hi.chk h = z at *
  obtain ⟨c, t⟩ := h
  dsimp only at *
  obtain ⟨N, hN⟩ : ∃ N, N = c.length := ⟨_, rfl⟩
  rw [← hN] at h1 HA HC ⊢
  have HN := hidD hN
  have X0 := hidD (Bo.new w (hL (.slice a N cap) t) 24)
  have HW := hidD ((Below.refl w.heap.size w).alloc (Nat.le_refl _) (.cells (hL (.slice a N cap) t).toArray 24))
  obtain ⟨W0, hW0⟩ : ∃ W0, W0 = w.alloc (.cells (hL (.slice a N cap) t).toArray 24) := ⟨_, rfl⟩
  obtain ⟨B, hB⟩ : ∃ B, B = w.heap.size := ⟨_, rfl⟩
  rw [← hW0] at X0 HW
  have HSW := hidD (hs.below HW.out)
  rw [← hB] at X0 HW ⊢
  simp only [hL] at hW0
  clear hs hN h3 h4 HS
  have p0 := X0.out.cell 0 rfl
  have p1 := X0.out.cell 1 rfl
  by_cases hl : N ≠ 0 ∧ N ≠ 81
  · have hz := HA.out hl
    subst hz
    obtain ⟨hl0, hl1⟩ := hl
    have d0 : ((N : Int) != 0) = true := by simp; omega
    have d1 : ((N : Int) != 81) = true := by simp; omega
    clear HA HB HC
    go_enter Try.func23, Try.ntmps23
    go_wp2_with fail
    rw [← hB, ← hW0]
    clear hB hW0
    go_ret
    exact ⟨rfl, HW.out⟩
  have HL := hidD hl
  by_cases h0 : N = 0
  · subst h0
    have hc : c = [] := List.length_eq_zero_iff.1 HN.out.symm
    subst hc
    have hz := HC.out hl rfl
    have hp : Hi.pre [] 0 = 0 := rfl
    rw [hp] at hz
    clear HA HB HC hl
    by_cases ht : t = 0
    · subst ht
      rw [if_neg (by omega)] at hz
      subst hz
      go_enter Try.func23, Try.ntmps23
      go_wp2_with fail
      rw [← hB, ← hW0]
      clear hB hW0
      go_loopw [3, 4] (fun s i wr => s = .int .i64 0 ∧ i = .int .i64 0 ∧ W0 = wr) (fun _ i _ => 100 - (intOf i).toNat)
      case atStart => exact ⟨rfl, rfl, rfl⟩
      case round =>
        obtain ⟨rfl, rfl, rfl⟩ := hrel
        go_wp2_with fail
        go_ret
        exact ⟨rfl, HW.out⟩
    · rw [if_pos (.inl (by omega))] at hz
      subst hz
      go_enter Try.func23, Try.ntmps23
      go_wp2_with fail
      rw [← hB, ← hW0]
      clear hB hW0
      go_loopw [3, 4] (fun s i wr => s = .int .i64 0 ∧ i = .int .i64 0 ∧ W0 = wr) (fun _ i _ => 100 - (intOf i).toNat)
      case atStart => exact ⟨rfl, rfl, rfl⟩
      case round =>
        obtain ⟨rfl, rfl, rfl⟩ := hrel
        go_wp2_with fail
        go_ret
        exact ⟨rfl, HW.out⟩
  · have h81 : N = 81 := by omega
    subst h81
    clear HA h0 hl
    go_enter Try.func23, Try.ntmps23
    go_wp2_with fail
    rw [← hB, ← hW0]
    clear hB hW0
    go_loopw [3, 4] (fun s i wr => ∃ k : Nat, k ≤ 81 ∧ s = .int .i64 (Hi.pre c k) ∧ i = .int .i64 (k : Int) ∧ Hid (∀ j, j < k → 0 ≤ c.getD j 0 ∧ c.getD j 0 ≤ 1073741824) ∧ W0 = wr) (fun _ i _ => 100 - (intOf i).toNat)
    case atStart => exact ⟨0, Nat.zero_le _, rfl, rfl, hidD (fun j hj => by omega), rfl⟩
    case round =>
      obtain ⟨k, hk, rfl, rfl, hr, rfl⟩ := hrel
      by_cases hlt : k < 81
      · obtain ⟨b, off, rfl, hb, Q⟩ := Seg.atE HSW.out k (by have := HN.out; omega)
        by_cases hx : c.getD k 0 < 0 ∨ 1073741824 < c.getD k 0
        · have hz := HB.out (Hi.ranged_not (by have := HN.out; omega) hx)
          subst hz
          clear HB HC hr
          generalize c.getD k 0 = x at *
          rcases hx with hx | hx
          · go_wp2_with fail
            go_ret
            exact ⟨rfl, HW.out⟩
          · have hx0 : ¬ x < 0 := by omega
            go_wp2_with fail
            go_ret
            exact ⟨rfl, HW.out⟩
        · have hr2 : Hid (∀ j, j < k + 1 → 0 ≤ c.getD j 0 ∧ c.getD j 0 ≤ 1073741824) := hidD (fun j hj => by
            by_cases e : j = k
            · subst e; omega
            · exact hr.out j (by omega))
          obtain ⟨s0, s1⟩ := Hi.pre_part (c := c) (k := k) hr.out
          have hw : IntKind.i64.wrap (Hi.pre c k + c.getD k 0) = Hi.pre c k + c.getD k 0 := wrap_ok (by omega) (by omega)
          have HX : Hid (Hi.pre c (k + 1) = Hi.pre c k + c.getD k 0) := hidD rfl
          have hx0 : ¬ c.getD k 0 < 0 := by omega
          have hx1 : ¬ 1073741824 < c.getD k 0 := by omega
          clear hr HB HC hx s0 s1
          generalize c.getD k 0 = x at *
          generalize Hi.pre c k = s at *
          go_wp2_with fail
          exact ⟨⟨k + 1, by omega, by rw [HX.out], by go_num, hr2, (by first | rfl | trivial)⟩, by simp [intOf]; omega⟩
      · have hke : k = 81 := by omega
        subst hke
        have hz := HC.out HL.out (Hi.ranged_all (fun j hj => hr.out j (by have := HN.out; omega)))
        clear HB HC hr
        generalize Hi.pre c 81 = s at *
        by_cases e1 : s = t
        · subst e1
          by_cases e2 : 1073741824 < s
          · rw [if_pos (.inr e2)] at hz
            subst hz
            go_wp2_with fail
            go_ret
            exact ⟨rfl, HW.out⟩
          · rw [if_neg (by omega)] at hz
            subst hz
            go_wp2_with fail
            go_ret
            exact ⟨rfl, HW.out⟩
        · rw [if_pos (.inl e1)] at hz
          subst hz
          have d : (s != t) = true := by simp [e1]
          go_wp2_with fail
          go_ret
          exact ⟨rfl, HW.out⟩
end Go.Proofs.Ythdaldgmolhljaa
