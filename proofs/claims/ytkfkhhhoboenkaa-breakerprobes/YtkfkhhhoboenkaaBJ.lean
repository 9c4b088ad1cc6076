/- breaker: the reference's Sets, Check. -/
import Derived.Test.YtkfkhhhoboenkaaBG
namespace Go.Proofs.Ytkfkhhhoboenkaa
open Go.RowKit
set_option maxRecDepth 20000
set_option linter.unusedVariables false

theorem Br.sets_no {s : Br.Se} (h : ¬ (1 ≤ s.f ∧ s.f ≤ 1000 ∧ 1 ≤ s.o ∧ s.o ≤ 1048576 ∧ 1 ≤ s.p ∧ s.p ≤ 64)) : Br.sets s = false := by
  cases hb : Br.sets s with
  | false => rfl
  | true => exact absurd (Br.sets_iff.1 hb) h
theorem Br.may_no {b : Br.St} (h : ¬ (0 ≤ b.m ∧ b.m ≤ 2 ∧ 0 ≤ b.f ∧ b.f ≤ 1000 ∧ 0 ≤ b.u ∧ b.u ≤ 1073741824 ∧ 0 ≤ b.p ∧ b.p ≤ 1000 ∧ 0 ≤ b.w ∧ b.w ≤ 1000)) : Br.may b = false := by
  cases hb : Br.may b with
  | false => rfl
  | true => exact absurd (Br.may_iff.1 hb) h
theorem Br.chk_range {b : Br.St} {s : Br.Se} {t : Int} (h : Br.sets s = false ∨ t < 0 ∨ 536870912 < t) : Br.chk b s t = 4 := by
  unfold Br.chk
  rw [if_neg]
  rw [Bool.and_eq_true, Br.inn_iff]
  rintro ⟨h1, h2, h3⟩
  rcases h with h | h | h
  · rw [h] at h1; cases h1
  · omega
  · omega
theorem Br.chk_state {b : Br.St} {s : Br.Se} {t : Int} (h1 : Br.sets s = true) (h2 : 0 ≤ t) (h3 : t ≤ 536870912) (h4 : Br.may b = false) : Br.chk b s t = 9 := by
  unfold Br.chk
  rw [if_pos (by rw [h1, Br.inn_iff.2 ⟨h2, h3⟩]; rfl), h4]
  rfl

set_option maxHeartbeats 1000000 in
theorem rsets_any (s : Br.Se) (w : World) : Calls Try.prog 31 #[vS s] w fun e w' => e = .returned (.bool (Br.sets s)) ∧ Below w.heap.size w w' := by
  have hb : ∀ o, Below w.heap.size w (w.alloc o) := fun o => (Below.refl _ _).alloc (Nat.le_refl _) o
  have HN := hidD (@Br.sets_no s)
  have HY := hidD (@Br.sets_iff s)
  generalize Br.sets s = z at *
  obtain ⟨F, O, P⟩ := s
  unfold vS
  dsimp only at *
  by_cases h0 : 1 ≤ F
  · skip
    by_cases h1 : F ≤ 1000
    · skip
      by_cases h2 : 1 ≤ O
      · skip
        by_cases h3 : O ≤ 1048576
        · skip
          by_cases h4 : 1 ≤ P
          · skip
            by_cases h5 : P ≤ 64
            · skip
              have hz : z = true := HY.out.2 ⟨h0, h1, h2, h3, h4, h5⟩
              subst hz
              clear HN HY
              go_enter Try.func31, Try.ntmps31
              go_wp2
              go_ret
              exact ⟨rfl, hb _⟩
            · have hz : z = false := HN.out (fun e => by omega)
              subst hz
              clear HN HY
              go_enter Try.func31, Try.ntmps31
              go_wp2
              go_ret
              exact ⟨rfl, hb _⟩
          · have hz : z = false := HN.out (fun e => by omega)
            subst hz
            clear HN HY
            go_enter Try.func31, Try.ntmps31
            go_wp2
            go_ret
            exact ⟨rfl, hb _⟩
        · have hz : z = false := HN.out (fun e => by omega)
          subst hz
          clear HN HY
          go_enter Try.func31, Try.ntmps31
          go_wp2
          go_ret
          exact ⟨rfl, hb _⟩
      · have hz : z = false := HN.out (fun e => by omega)
        subst hz
        clear HN HY
        go_enter Try.func31, Try.ntmps31
        go_wp2
        go_ret
        exact ⟨rfl, hb _⟩
    · have hz : z = false := HN.out (fun e => by omega)
      subst hz
      clear HN HY
      go_enter Try.func31, Try.ntmps31
      go_wp2
      go_ret
      exact ⟨rfl, hb _⟩
  · have hz : z = false := HN.out (fun e => by omega)
    subst hz
    clear HN HY
    go_enter Try.func31, Try.ntmps31
    go_wp2
    go_ret
    exact ⟨rfl, hb _⟩
end Go.Proofs.Ytkfkhhhoboenkaa
