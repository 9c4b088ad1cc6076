/- bucket: the reference's Sets, Check, Start. -/
import Derived.Test.YthhhpmjbohfpjaaIC
namespace Go.Proofs.Ythhhpmjbohfpjaa
open Go.RowKit
set_option linter.unusedVariables false
set_option maxRecDepth 20000

theorem Bu.sets_no {s : Bu.Se} (h : ¬ (0 ≤ s.c ∧ s.c ≤ 1000 ∧ 0 ≤ s.t ∧ s.t ≤ 1000 ∧ 0 ≤ s.r ∧ s.r ≤ 1000 ∧ s.r ≤ s.p ∧ s.p ≤ 1000)) : Bu.sets s = false := by
  cases hb : Bu.sets s with
  | false => rfl
  | true => exact absurd (Bu.sets_iff.1 hb) h

set_option maxHeartbeats 1000000 in
theorem rsets_any (s : Bu.Se) (w : World) : Calls Try.prog 25 #[vS s] w fun e w' => e = .returned (.bool (Bu.sets s)) ∧ Below w.heap.size w w' := by
  have hb : ∀ o, Below w.heap.size w (w.alloc o) := fun o => (Below.refl _ _).alloc (Nat.le_refl _) o
  have HN := hidD (@Bu.sets_no s)
  have HY := hidD (@Bu.sets_iff s)
  generalize Bu.sets s = z at *
  obtain ⟨C, K, R, P⟩ := s
  unfold vS
  dsimp only at *
  by_cases h0 : 0 ≤ C
  · skip
    by_cases h1 : C ≤ 1000
    · skip
      by_cases h2 : 0 ≤ K
      · skip
        by_cases h3 : K ≤ 1000
        · skip
          by_cases h4 : 0 ≤ R
          · skip
            by_cases h5 : R ≤ P
            · skip
              by_cases h6 : P ≤ 1000
              · skip
                have hz : z = true := HY.out.2 ⟨h0, h1, h2, h3, h4, by omega, h5, h6⟩
                subst hz
                clear HN HY
                go_enter Try.func25, Try.ntmps25
                go_wp2
                go_ret
                exact ⟨rfl, hb _⟩
              · have hz : z = false := HN.out (fun e => by omega)
                subst hz
                clear HN HY
                go_enter Try.func25, Try.ntmps25
                go_wp2
                go_ret
                exact ⟨rfl, hb _⟩
            · have hz : z = false := HN.out (fun e => by omega)
              subst hz
              clear HN HY
              go_enter Try.func25, Try.ntmps25
              go_wp2
              go_ret
              exact ⟨rfl, hb _⟩
          · have hz : z = false := HN.out (fun e => by omega)
            subst hz
            clear HN HY
            go_enter Try.func25, Try.ntmps25
            go_wp2
            go_ret
            exact ⟨rfl, hb _⟩
        · have hz : z = false := HN.out (fun e => by omega)
          subst hz
          clear HN HY
          go_enter Try.func25, Try.ntmps25
          go_wp2
          go_ret
          exact ⟨rfl, hb _⟩
      · have hz : z = false := HN.out (fun e => by omega)
        subst hz
        clear HN HY
        go_enter Try.func25, Try.ntmps25
        go_wp2
        go_ret
        exact ⟨rfl, hb _⟩
    · have hz : z = false := HN.out (fun e => by omega)
      subst hz
      clear HN HY
      go_enter Try.func25, Try.ntmps25
      go_wp2
      go_ret
      exact ⟨rfl, hb _⟩
  · have hz : z = false := HN.out (fun e => by omega)
    subst hz
    clear HN HY
    go_enter Try.func25, Try.ntmps25
    go_wp2
    go_ret
    exact ⟨rfl, hb _⟩

theorem Bu.chk_state {s : Bu.Se} {v : Int} (h1 : Bu.sets s = true) (h : ¬ (0 ≤ v ∧ v ≤ 1000 * s.p)) : Bu.chk s v = 9 := by
  unfold Bu.chk
  rw [if_pos h1, if_neg]
  rw [Bu.inn_iff]
  exact h
set_option maxHeartbeats 1000000 in
theorem rcheck_any (s : Bu.Se) (v : Int) (w : World) : Calls Try.prog 19 #[vS s, .int .i64 v] w fun e w' => e = .returned (.int .i64 (Bu.chk s v)) ∧ Below w.heap.size w w' := by
  have c1 := fun W => rsets_any s W
  have HW : Hid (Bu.sets s = true → IntKind.i64.wrap (1000 * s.p) = 1000 * s.p) := hidD (fun h => by have := Bu.sets_iff.1 h; exact wrap_ok (by omega) (by omega))
  have HR : Hid (Bu.sets s = false → Bu.chk s v = 4) := hidD (fun h => if_neg (by simp [h]))
  have HS9 := hidD (@Bu.chk_state s v)
  have HG := hidD (@Bu.chk_good s v)
  generalize Bu.chk s v = k at *
  generalize Bu.sets s = b1 at *
  have HB := hidD ((Below.refl w.heap.size w).alloc (Nat.le_refl _) (.cells (sL s).toArray 23))
  have B0 := hidD (Bo.new w (sL s) 23)
  have HS : Hid (w.heap.size + 1 ≤ (w.alloc (.cells (sL s).toArray 23)).heap.size) := hidD (by rw [World.size_alloc]; omega)
  obtain ⟨W0, hW0⟩ : ∃ W0, W0 = w.alloc (.cells (sL s).toArray 23) := ⟨_, rfl⟩
  obtain ⟨N, hN⟩ : ∃ N, N = w.heap.size := ⟨_, rfl⟩
  rw [← hW0] at HB B0 HS
  rw [← hN] at HB B0 HS ⊢
  simp only [sL] at hW0
  go_enter Try.func19, Try.ntmps19
  go_wp2_with fail
  rw [← hN, ← hW0]
  clear hW0 hN
  with_reducible refine (c1 _).mono ?_
  rintro e w1 ⟨rfl, h1⟩
  have X0 := B0.out.below h1
  have hb1 := hidD (below_on HB.out (Nat.le_of_succ_le HS.out) h1)
  have p0 := X0.cell 0 rfl
  have p1 := X0.cell 1 rfl
  have p2 := X0.cell 2 rfl
  have p3 := X0.cell 3 rfl
  clear B0 HB HS h1 c1 X0
  cases b1
  · have hk := HR.out rfl
    subst hk
    clear HR HS9 HG HW
    go_wp2_with fail
    go_ret
    exact ⟨rfl, hb1.out⟩
  have hw := HW.out (by first | trivial | rfl)
  by_cases t0 : v < 0
  · have hk := HS9.out rfl (fun e => by omega)
    subst hk
    clear HR HS9 HG HW
    go_wp2_with fail
    go_ret
    exact ⟨rfl, hb1.out⟩
  by_cases t1 : 1000 * s.p < v
  · have hk := HS9.out rfl (fun e => by omega)
    subst hk
    clear HR HS9 HG HW
    go_wp2_with fail
    go_ret
    exact ⟨rfl, hb1.out⟩
  · have hk := HG.out rfl (by omega) (by omega)
    subst hk
    clear HR HS9 HG HW
    go_wp2_with fail
    go_ret
    exact ⟨rfl, hb1.out⟩

set_option maxHeartbeats 1000000 in
theorem rstart_any (s : Bu.Se) (w : World) : Calls Try.prog 10 #[vS s] w fun e w' => e = .returned (.tuple #[.int .i64 (Bu.startR s), .int .i64 (Bu.startE s)]) ∧ Below w.heap.size w w' := by
  have c1 := fun W => rsets_any s W
  have HW : Hid (Bu.sets s = true → IntKind.i64.wrap (1000 * s.r) = 1000 * s.r) := hidD (fun h => by have := Bu.sets_iff.1 h; exact wrap_ok (by omega) (by omega))
  unfold Bu.startR Bu.startE
  generalize Bu.sets s = b1 at *
  have HB := hidD ((Below.refl w.heap.size w).alloc (Nat.le_refl _) (.cells (sL s).toArray 23))
  have B0 := hidD (Bo.new w (sL s) 23)
  have HS : Hid (w.heap.size + 1 ≤ (w.alloc (.cells (sL s).toArray 23)).heap.size) := hidD (by rw [World.size_alloc]; omega)
  obtain ⟨W0, hW0⟩ : ∃ W0, W0 = w.alloc (.cells (sL s).toArray 23) := ⟨_, rfl⟩
  obtain ⟨N, hN⟩ : ∃ N, N = w.heap.size := ⟨_, rfl⟩
  rw [← hW0] at HB B0 HS
  rw [← hN] at HB B0 HS ⊢
  simp only [sL] at hW0
  go_enter Try.func10, Try.ntmps10
  go_wp2_with fail
  rw [← hN, ← hW0]
  clear hW0 hN
  with_reducible refine (c1 _).mono ?_
  rintro e w1 ⟨rfl, h1⟩
  have X0 := B0.out.below h1
  have hb1 := hidD (below_on HB.out (Nat.le_of_succ_le HS.out) h1)
  have p0 := X0.cell 0 rfl
  have p1 := X0.cell 1 rfl
  have p2 := X0.cell 2 rfl
  have p3 := X0.cell 3 rfl
  clear B0 HB HS h1 c1 X0
  cases b1
  · clear HW
    go_wp2_with fail
    go_ret2
    exact ⟨rfl, hb1.out⟩
  · have hw := HW.out rfl
    clear HW
    go_wp2_with fail
    go_ret2
    exact ⟨rfl, hb1.out⟩
end Go.Proofs.Ythhhpmjbohfpjaa
