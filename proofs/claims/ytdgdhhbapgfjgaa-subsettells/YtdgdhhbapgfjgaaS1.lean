/- subset: Round, check; the reference's Round, rising, has. -/
import Derived.Test.YtdgdhhbapgfjgaaSP
namespace Go.Proofs.Ytdgdhhbapgfjgaa
open Go.RowKit
set_option maxRecDepth 20000

theorem bad_or {n c k : Int} (h : ¬ Sp.bad n c k) : 0 ≤ n ∧ n ≤ 32 ∧ 0 ≤ c ∧ c ≤ 1048576 ∧ 1 ≤ k ∧ k ≤ 32 := by unfold Sp.bad at h; omega

set_option maxHeartbeats 2000000 in
theorem round_any (n c k : Int) (w : World) :
    Calls Try.prog 12 #[.int .i64 n, .int .i64 c, .int .i64 k] w fun e w' => e = .returned (.tuple #[.int .i64 (Sp.rR n c k), .int .i64 (Sp.rP n c k), .int .i64 (Sp.rE n c k)]) ∧ Below w.heap.size w w' := by
  by_cases hb : Sp.bad n c k
  · unfold Sp.rR Sp.rP Sp.rE
    rw [if_pos hb, if_pos hb, if_pos hb]
    unfold Sp.bad at hb
    go_enter Try.func12, Try.ntmps12
    by_cases h1 : n < 0
    · go_wp2
      go_ret3
      exact ⟨rfl, Below.refl _ _⟩
    by_cases h2 : 32 < n
    · go_wp2
      go_ret3
      exact ⟨rfl, Below.refl _ _⟩
    by_cases h3 : c < 0
    · go_wp2
      go_ret3
      exact ⟨rfl, Below.refl _ _⟩
    by_cases h4 : 1048576 < c
    · go_wp2
      go_ret3
      exact ⟨rfl, Below.refl _ _⟩
    by_cases h5 : k < 1
    · go_wp2
      go_ret3
      exact ⟨rfl, Below.refl _ _⟩
    have h6 : 32 < k := by omega
    go_wp2
    go_ret3
    exact ⟨rfl, Below.refl _ _⟩
  · obtain ⟨b1, b2, b3, b4, b5, b6⟩ := bad_or hb
    unfold Sp.rR Sp.rP Sp.rE
    rw [if_neg hb, if_neg hb, if_neg hb]
    clear hb
    by_cases hk : n ≤ k
    · rw [if_pos hk, if_pos hk]
      go_enter Try.func12, Try.ntmps12
      go_wp2
      go_ret3
      exact ⟨rfl, Below.refl _ _⟩
    · rw [if_neg hk, if_neg hk]
      obtain ⟨q, hq, q1⟩ : ∃ q, n / k = q ∧ 1 ≤ q := ⟨_, rfl, (Int.le_ediv_iff_mul_le (by omega)).2 (by omega)⟩
      have hqt : n.tdiv k = q := by rw [Int.tdiv_eq_ediv_of_nonneg b1, hq]
      have ct : c.tdiv q = c / q := Int.tdiv_eq_ediv_of_nonneg b3
      have cm : c.tmod q = c % q := Int.tmod_eq_emod_of_nonneg b3
      have q0 : q ≠ 0 := by omega
      have k0 : k ≠ 0 := by omega
      rw [hq]
      have d0 : 0 ≤ c / q := Int.ediv_nonneg b3 (by omega)
      have d1 : c / q ≤ c := Int.ediv_le_self _ b3
      have m0 := Int.emod_nonneg c q0
      have m1 := Int.emod_lt_of_pos c (show 0 < q by omega)
      have qn : q ≤ 32 := by have : n / k ≤ n := Int.ediv_le_self _ b1; omega
      clear hq
      go_enter Try.func12, Try.ntmps12
      go_wp2
      go_region
      all_goals (go_wp2; go_ret3; exact ⟨rfl, belowD_drew (Below.refl _ _)⟩)

set_option maxHeartbeats 2000000 in
theorem rround_any (n c k : Int) (w : World) :
    Calls Try.prog 13 #[.int .i64 n, .int .i64 c, .int .i64 k] w fun e w' => e = .returned (.tuple #[.int .i64 (Sp.rR n c k), .int .i64 (Sp.rP n c k), .int .i64 (Sp.rE n c k)]) ∧ Below w.heap.size w w' := by
  by_cases hb : Sp.bad n c k
  · unfold Sp.rR Sp.rP Sp.rE
    rw [if_pos hb, if_pos hb, if_pos hb]
    unfold Sp.bad at hb
    go_enter Try.func13, Try.ntmps13
    by_cases h1 : n < 0
    · go_wp2
      go_ret3
      exact ⟨rfl, Below.refl _ _⟩
    by_cases h2 : 32 < n
    · go_wp2
      go_ret3
      exact ⟨rfl, Below.refl _ _⟩
    by_cases h3 : c < 0
    · go_wp2
      go_ret3
      exact ⟨rfl, Below.refl _ _⟩
    by_cases h4 : 1048576 < c
    · go_wp2
      go_ret3
      exact ⟨rfl, Below.refl _ _⟩
    by_cases h5 : k < 1
    · go_wp2
      go_ret3
      exact ⟨rfl, Below.refl _ _⟩
    have h6 : 32 < k := by omega
    go_wp2
    go_ret3
    exact ⟨rfl, Below.refl _ _⟩
  · obtain ⟨b1, b2, b3, b4, b5, b6⟩ := bad_or hb
    unfold Sp.rR Sp.rP Sp.rE
    rw [if_neg hb, if_neg hb, if_neg hb]
    clear hb
    by_cases hk : n ≤ k
    · rw [if_pos hk, if_pos hk]
      go_enter Try.func13, Try.ntmps13
      go_wp2
      go_ret3
      exact ⟨rfl, Below.refl _ _⟩
    · rw [if_neg hk, if_neg hk]
      obtain ⟨q, hq, q1⟩ : ∃ q, n / k = q ∧ 1 ≤ q := ⟨_, rfl, (Int.le_ediv_iff_mul_le (by omega)).2 (by omega)⟩
      have hqt : n.tdiv k = q := by rw [Int.tdiv_eq_ediv_of_nonneg b1, hq]
      have ct : c.tdiv q = c / q := Int.tdiv_eq_ediv_of_nonneg b3
      have cm : c.tmod q = c % q := Int.tmod_eq_emod_of_nonneg b3
      have q0 : q ≠ 0 := by omega
      have k0 : k ≠ 0 := by omega
      rw [hq]
      have d0 : 0 ≤ c / q := Int.ediv_nonneg b3 (by omega)
      have d1 : c / q ≤ c := Int.ediv_le_self _ b3
      have m0 := Int.emod_nonneg c q0
      have m1 := Int.emod_lt_of_pos c (show 0 < q by omega)
      have qn : q ≤ 32 := by have : n / k ≤ n := Int.ediv_le_self _ b1; omega
      clear hq
      go_enter Try.func13, Try.ntmps13
      go_wp2
      go_region
      all_goals (go_wp2; go_ret3; exact ⟨rfl, belowD_drew (Below.refl _ _)⟩)
end Go.Proofs.Ytdgdhhbapgfjgaa
