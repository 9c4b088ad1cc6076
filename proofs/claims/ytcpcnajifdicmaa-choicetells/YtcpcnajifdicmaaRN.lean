/- ring: the reference's Build of any backends; SamePoints. -/
import Derived.Test.YtcpcnajifdicmaaRM
import Derived.Laws.StructEq
namespace Go.Proofs.Ytcpcnajifdicmaa
open Go.RowKit Go.Sort Go.Shelf

theorem rbuild_bad1 (pn : Int) (v : Value) (l : List Rp.Pt) (w : World) (hv : PSeg .i64 w v l) (hc0 : Rp.checkE l ≠ 0) :
    Calls Try.prog 24 #[.int .i64 pn, v] w fun e w' => e = .returned (.tuple #[.slice none 0 0, .int .i64 (Rp.checkE l)]) ∧ Below w.heap.size w w' := by
  have c := rcheck_any v l w hv
  have hb : (Rp.checkE l != 0) = true := by simpa using hc0
  obtain ⟨a, cap, rfl, -⟩ := hv
  generalize Rp.checkE l = E at *
  generalize l.length = N at *
  go_enter Try.func24, Try.ntmps24
  go_wp2_with fail
  with_reducible refine c.mono ?_
  rintro e w1 ⟨rfl, b1⟩
  go_wp2
  refine bodyPost_ret (results_tmp2 rfl _ _ _) rfl ?_
  exact ⟨rfl, b1⟩
theorem rbuild_bad2 (pn : Int) (v : Value) (l : List Rp.Pt) (w : World) (hv : PSeg .i64 w v l) (hc0 : Rp.checkE l = 0) (hp : pn < 1 ∨ 64 < pn) :
    Calls Try.prog 24 #[.int .i64 pn, v] w fun e w' => e = .returned (.tuple #[.slice none 0 0, .int .i64 4]) ∧ Below w.heap.size w w' := by
  have c := rcheck_any v l w hv
  rw [hc0] at c
  clear hc0
  obtain ⟨a, cap, rfl, -⟩ := hv
  generalize l.length = N at *
  by_cases h1 : pn < 1
  · clear hp
    go_enter Try.func24, Try.ntmps24
    go_wp2_with fail
    with_reducible refine c.mono ?_
    rintro e w1 ⟨rfl, b1⟩
    go_wp2
    refine bodyPost_ret (results_tmp2 rfl _ _ _) rfl ?_
    exact ⟨rfl, b1⟩
  · have h2 : 64 < pn := by omega
    clear hp
    go_enter Try.func24, Try.ntmps24
    go_wp2_with fail
    with_reducible refine c.mono ?_
    rintro e w1 ⟨rfl, b1⟩
    go_wp2
    refine bodyPost_ret (results_tmp2 rfl _ _ _) rfl ?_
    exact ⟨rfl, b1⟩

set_option maxHeartbeats 1000000 in
theorem rbuild_bad3 (pn : Int) (v : Value) (l : List Rp.Pt) (w : World) (hv : PSeg .i64 w v l) (hc0 : Rp.checkE l = 0) (hp1 : 1 ≤ pn) (hp2 : pn ≤ 64) (hsz : 1024 < Rp.size pn l) :
    Calls Try.prog 24 #[.int .i64 pn, v] w fun e w' => e = .returned (.tuple #[.slice none 0 0, .int .i64 5]) ∧ Below w.heap.size w w' := by
  obtain ⟨k1, k2, _⟩ := Rp.check_ok hc0
  have c := rcheck_any v l w hv
  rw [hc0] at c
  obtain ⟨a, cap, rfl, h1, h2, h3, h4⟩ := id hv
  obtain ⟨N, hN⟩ : ∃ N, N = l.length := ⟨_, rfl⟩
  rw [← hN] at h1 c k1 ⊢
  unfold maxLen at h2
  have HN := hidD hN
  have HV := hidD hv
  have HE : Hid (∀ k, k < l.length → IntKind.i64.wrap (pn * (l.getD k (0, 0)).2) = (Rp.each pn (l.getD k (0, 0)) : Nat) ∧ Rp.each pn (l.getD k (0, 0)) ≤ 1024) := hidD (fun k hk => by
    have hm := k2 (l.getD k (0, 0)) (by rw [pgetD_at hk]; exact List.getElem_mem _)
    have e0 : 0 ≤ (l.getD k (0, 0)).2 * pn := Int.mul_nonneg (by omega) (by omega)
    have e1 : (l.getD k (0, 0)).2 * pn ≤ 16 * 64 := Int.mul_le_mul (by omega) hp2 (by omega) (by omega)
    rw [Int.mul_comm]
    unfold Rp.each
    refine ⟨?_, by omega⟩
    rw [Int.toNat_of_nonneg e0, IntKind.wrap_i64]
    omega)
  have HS := hidD (Rp.size_take pn l)
  have HSZ := hidD hsz
  clear hN hv h3 h4 k2 hsz hc0
  go_enter Try.func24, Try.ntmps24
  go_wp2_with fail
  with_reducible refine c.mono ?_
  rintro e w1 ⟨rfl, b1⟩
  clear c
  go_wp2_with fail
  go_loopw [7, 8] (fun s i wr => ∃ k : Nat, k ≤ N ∧ i = .int .i64 k ∧ s = .int .i64 (Rp.size pn (l.take k) : Nat) ∧ Rp.size pn (l.take k) ≤ 1024 * k ∧ Below w.heap.size w wr) (fun _ i _ => N - (intOf i).toNat)
  case atStart => exact ⟨0, Nat.zero_le _, rfl, by simp [Rp.size], by simp [Rp.size], b1⟩
  case round =>
    obtain ⟨k, hk, rfl, rfl, hle, hbl⟩ := hrel
    by_cases hlt : k < N
    · obtain ⟨a', cap', e1, _, _, h3, h4⟩ := HV.out.below hbl
      rw [← HN.out] at e1
      cases e1
      obtain ⟨g, off, rfl, hg, hcell⟩ := pseg_at (l := l) (by have := HN.out; omega) h3 h4
      obtain ⟨Q1, Q2⟩ := hcell k (by have := HN.out; omega)
      obtain ⟨y1, y2⟩ := HE.out k (by have := HN.out; omega)
      have y4 := HS.out k (by have := HN.out; omega)
      have y7 : IntKind.i64.wrap ((Rp.size pn (l.take k) : Int) + (Rp.each pn (l.getD k (0, 0)) : Int)) = (Rp.size pn (l.take (k + 1)) : Nat) := by rw [IntKind.wrap_i64, y4]; omega
      have y8 : Rp.size pn (l.take (k + 1)) ≤ 1024 * (k + 1) := by omega
      have HY8 := hidD y8
      clear hcell h3 h4 y2 y4 b1 hle y8
      obtain ⟨S', hS'⟩ : ∃ S', S' = Rp.size pn (l.take (k + 1)) := ⟨_, rfl⟩
      rw [← hS'] at y7
      have HS' := hidD hS'
      clear hS'
      generalize Rp.size pn (l.take k) = S at *
      generalize Rp.each pn (l.getD k (0, 0)) = E at *
      generalize l.getD k (0, 0) = x at *
      have i1 : (k : Int) < (N : Int) := by omega
      go_wp2
      exact ⟨⟨k + 1, by omega, by go_num, by rw [← HS'.out], HY8.out, hbl⟩, by simp [intOf]; omega⟩
    · have hke : l.take k = l := List.take_of_length_le (by have := HN.out; omega)
      rw [hke]
      have hS := HSZ.out
      clear hke b1 hle
      generalize Rp.size pn l = SZ at *
      go_wp2
      refine bodyPost_ret (results_tmp2 rfl _ _ _) rfl ?_
      exact ⟨rfl, hbl⟩

theorem rbuild_any (pn : Int) (v : Value) (l : List Rp.Pt) (w : World) (hv : PSeg .i64 w v l) :
    Calls Try.prog 24 #[.int .i64 pn, v] w fun e w' => ∃ v', e = .returned (.tuple #[v', .int .i64 (Rp.buildE pn l)]) ∧ PSeg .u64 w' v' (Rp.ring pn l) ∧ Below w.heap.size w w' := by
  have hnil : ∀ w' : World, Rp.buildE pn l ≠ 0 → Below w.heap.size w w' → ∃ v', Ending.returned (.tuple #[.slice none 0 0, .int .i64 (Rp.buildE pn l)]) = .returned (.tuple #[v', .int .i64 (Rp.buildE pn l)]) ∧ PSeg .u64 w' v' (Rp.ring pn l) ∧ Below w.heap.size w w' := by
    intro w' hne hb
    have hr : Rp.ring pn l = [] := if_neg hne
    rw [hr]
    exact ⟨_, rfl, PSeg.nil _ _, hb⟩
  by_cases h1 : Rp.checkE l = 0
  · by_cases h2 : pn < 1 ∨ 64 < pn
    · have hE : Rp.buildE pn l = 4 := by unfold Rp.buildE; rw [if_neg (by omega), if_pos h2]
      refine (rbuild_bad2 pn v l w hv h1 h2).mono ?_
      rintro e w' ⟨rfl, hb⟩
      have := hnil w' (by omega) hb
      rw [hE] at this ⊢
      exact this
    · by_cases h3 : 1024 < Rp.size pn l
      · have hE : Rp.buildE pn l = 5 := by unfold Rp.buildE; rw [if_neg (by omega), if_neg h2, if_pos h3]
        refine (rbuild_bad3 pn v l w hv h1 (by omega) (by omega) h3).mono ?_
        rintro e w' ⟨rfl, hb⟩
        have := hnil w' (by omega) hb
        rw [hE] at this ⊢
        exact this
      · have hE : Rp.buildE pn l = 0 := by unfold Rp.buildE; rw [if_neg (by omega), if_neg h2, if_neg h3]
        refine (rbuild_good pn v l w hv h1 (by omega) (by omega) (by omega)).mono ?_
        rintro e w' ⟨v', rfl, h4, hb⟩
        rw [Rp.all_ring hE, ← (Rp.ring_perm hE).length_eq] at h4
        rw [hE]
        exact ⟨v', rfl, pseg_of_row h4, hb⟩
  · have hE : Rp.buildE pn l = Rp.checkE l := by unfold Rp.buildE; rw [if_pos h1]
    refine (rbuild_bad1 pn v l w hv h1).mono ?_
    rintro e w' ⟨rfl, hb⟩
    have := hnil w' (by rw [hE]; exact h1) hb
    rw [hE] at this ⊢
    exact this

end Go.Proofs.Ytcpcnajifdicmaa
