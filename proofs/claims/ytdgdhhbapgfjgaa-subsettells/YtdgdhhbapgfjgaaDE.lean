/- draw: Shuffle, of the program. -/
import Derived.Test.YtdgdhhbapgfjgaaDD
namespace Go.Proofs.Ytdgdhhbapgfjgaa
open Go.RowKit
set_option maxRecDepth 20000

/-- Natural numbers as cells. -/
abbrev nrow (l : List Nat) : List Value := l.map (fun n : Nat => Value.int .i64 (n : Int))
theorem nrow_ints (l : List Nat) : nrow l = i64s (l.map Int.ofNat) := by simp [nrow, i64s]
theorem nrow_get {l : List Nat} {i : Nat} (h : i < l.length) : (nrow l)[i]? = some (.int .i64 (l.getD i 0 : Nat)) := by simp [nrow, List.getD, h]
theorem nrow_swp (l : List Nat) (i k : Nat) : ((nrow l).set i (.int .i64 (l.getD k 0 : Nat))).set k (.int .i64 (l.getD i 0 : Nat)) = nrow (Hp.swp l i k) := by
  unfold Hp.swp nrow
  rw [List.map_set, List.map_set]
theorem nrow_range (n : Nat) (ys : List Value) (hy : ys.length = n) (h : ∀ j, j < n → ys[j]? = some (.int .i64 (j : Int))) : ys = nrow (List.range n) := by
  apply List.ext_getElem?
  intro j
  by_cases hj : j < n
  · rw [h j hj]; simp [nrow, hj]
  · rw [List.getElem?_eq_none (by omega), List.getElem?_eq_none (by simp; omega)]
theorem shuf_pos {p t : Nat} {l : List Nat} (h : 0 < p) : Hp.shuf p t l = Hp.shuf (p - 1) (Hp.nx t) (Hp.swp l p (Hp.one t (p + 1))) := by
  obtain ⟨q, rfl⟩ : ∃ q, p = q + 1 := ⟨p - 1, by omega⟩
  rfl

set_option maxHeartbeats 1000000 in
theorem shuffle_bad (s : Nat) (n : Int) (w : World) (h : ¬(0 ≤ n ∧ n ≤ 1024)) :
    Calls Try.prog 31 #[.int .u64 s, .int .i64 n] w fun e w' => e = .returned (.tuple #[.int .u64 0, .slice none 0 0, .int .i64 4]) ∧ w = w' := by
  rcases Int.lt_or_le n 0 with h2 | h2
  · go_enter Try.func31, Try.ntmps31
    go_wp2
    go_ret3
    exact ⟨rfl, rfl⟩
  · have h3 : 1024 < n := by omega
    go_enter Try.func31, Try.ntmps31
    go_wp2
    go_ret3
    exact ⟨rfl, rfl⟩

set_option maxHeartbeats 4000000 in
theorem shuffle_good (s N : Nat) (w : World) (hs : s < 18446744073709551616) (hN : N ≤ 1024) :
    Calls Try.prog 31 #[.int .u64 s, .int .i64 N] w fun e w' => ∃ v', e = .returned (.tuple #[.int .u64 (Hp.skip s (N - 1) : Nat), v', .int .i64 0]) ∧ w'.ownsRow w.heap.size 3 1 v' N (nrow (Hp.order s N)) ∧ Below w.heap.size w w' := by
  have HK := hidD (Hp.skip_zero hs)
  obtain ⟨R, hR⟩ : ∃ R, R = Hp.skip s (N - 1) := ⟨_, rfl⟩
  rw [← hR]
  have HR := hidD hR
  obtain ⟨O, hO⟩ : ∃ O, O = Hp.order s N := ⟨_, rfl⟩
  rw [← hO]
  have HO := hidD hO
  clear hR hO
  obtain ⟨i0, hi, hz0, hz1, hz2⟩ := info_parts Try.info3
  obtain ⟨w2, hmk, hown2, hg2⟩ := run_make_full (P := Try.prog) w w.heap.size 22 3 i0 (.int .i64 0) 1 Try.underlying22 hi hz0 hz1 .i64 .i64 N (by rw [hz2]; omega) (by unfold maxLen; omega) (Nat.le_refl _)
  have hb2 : Below w.heap.size w w2 := (Below.refl _ _).grown hg2 (Nat.le_refl _) (fun k hk => by cases hk)
  clear hg2 hz0 hz1 hz2 hi
  generalize hgw : w.heap.size = g at *
  go_enter Try.func31, Try.ntmps31
  go_wp2
  go_loopw [21] (fun i wr => ∃ (k : Nat) (ys : List Value), k ≤ N ∧ i = .int .i64 k ∧ wr.ownsRow g 3 1 (.slice (some ⟨g, 0, none⟩) N N) N ys ∧ Hid (∀ j, j < k → ys[j]? = some (.int .i64 (j : Int))) ∧ Below g w wr) (fun i _ => N - (intOf i).toNat)
  case atStart => exact ⟨0, _, Nat.zero_le _, rfl, hown2, fun j hj => absurd hj (Nat.not_lt_zero _), hb2⟩
  case round =>
    obtain ⟨k, ys, hk, rfl, hr, HY, hbel⟩ := hrel
    clear hown2 hb2
    by_cases hlt : k < N
    · have hys : ys.length = N := by have := hr.1; omega
      obtain ⟨z, hc⟩ : ∃ z, wr.cell? ⟨g, k, none⟩ = some z := ⟨ys[k]'(by omega), by rw [hr.cellAt k (by omega), List.getElem?_eq_getElem (by omega)]⟩
      have hf := hr.frozenAt k
      have HY2 : Hid (∀ j, j < k + 1 → (ys.set k (.int .i64 (k : Int)))[j]? = some (.int .i64 (j : Int))) := by
        intro j hj
        by_cases hjk : j = k
        · subst hjk
          rw [List.getElem?_set_self (by omega)]
        · rw [List.getElem?_set_ne (by omega)]
          exact HY.out j (by omega)
      have hst := hr.stored k (.int .i64 k)
      have HO2 := hst.1
      have hgr : Below g w (wr.setCell ⟨g, k, none⟩ (.int .i64 k)) := hbel.grown hst.2 (by have := hbel.size; omega) (fun j hj => by cases hj; exact Nat.le_refl _)
      clear hst hys hr HY
      go_wp2
      exact ⟨⟨k + 1, _, by omega, by go_num, HO2, HY2, hgr⟩, by simp [intOf]; omega⟩
    · have hys : ys = nrow (List.range N) := nrow_range N ys (by have := hr.1; omega) (fun j hj => HY.out j (by omega))
      subst hys
      clear HY
      go_wp2
      go_loopw [0, 31] (fun st i wr => ∃ (k t : Nat) (cur : List Nat), (k = 0 ∨ k + 1 ≤ N) ∧ i = .int .i64 k ∧ st = .int .u64 t ∧ Hid (t = Hp.skip s k) ∧ Hid (cur.length = N) ∧ wr.ownsRow g 3 1 (.slice (some ⟨g, 0, none⟩) N N) N (nrow cur) ∧ Hid (Hp.shuf (N - 1 - k) t cur = O) ∧ Below g w wr) (fun _ i _ => N - (intOf i).toNat)
      case atStart => exact ⟨0, s, _, .inl rfl, rfl, rfl, HK.out.symm, List.length_range, hr, HO.out.symm, hbel⟩
      case round =>
        clear hr hbel hk hlt
        obtain ⟨k, t, cur, hk, rfl, rfl, HT, HL, hr, HH, hbel⟩ := hrel
        by_cases hlt : k + 1 < N
        · obtain ⟨p, hp, hp0⟩ : ∃ p, N - 1 - k = p ∧ 0 < p := ⟨_, rfl, by omega⟩
          have hh := HH.out
          rw [hp, shuf_pos hp0] at hh
          have HH2 := hidD hh
          have hone := Hp.one_lt t (n := p + 1) (by omega)
          have c2 := one_any t (p + 1) wr (by omega) (by omega)
          have HT2 : Hid (Hp.nx t = Hp.skip s (k + 1)) := by
            show _ = _
            rw [Hp.skip_succ, HT.out]
          clear hh HH
          rw [show ((p + 1 : Nat) : Int) = (p : Int) + 1 by omega] at c2
          generalize Hp.one t (p + 1) = q at *
          generalize Hp.nx t = t2 at *
          have hpI : (N : Int) - 1 - k = (p : Int) := by omega
          have hpN : p < N := by omega
          have hqN : q < N := by omega
          have d1 : wr.cell? ⟨g, p, none⟩ = some (.int .i64 (cur.getD p 0 : Nat)) := by
            rw [hr.cellAt p (by omega)]; exact nrow_get (by rw [HL.out]; omega)
          have d2 : wr.cell? ⟨g, q, none⟩ = some (.int .i64 (cur.getD q 0 : Nat)) := by
            rw [hr.cellAt q (by omega)]; exact nrow_get (by rw [HL.out]; omega)
          have f1 := hr.frozenAt p
          have s1 := hr.stored p (.int .i64 (cur.getD q 0 : Nat))
          have f2 := hr.frozenAt q
          obtain ⟨z, d3⟩ : ∃ z, (wr.setCell ⟨g, p, none⟩ (.int .i64 (cur.getD q 0 : Nat))).cell? ⟨g, q, none⟩ = some z := ⟨((nrow cur).set p (.int .i64 (cur.getD q 0 : Nat)))[q]'(by simp; rw [HL.out]; omega), by rw [s1.1.cellAt q (by omega), List.getElem?_eq_getElem]⟩
          have s2 := s1.1.stored q (.int .i64 (cur.getD p 0 : Nat))
          have HOW := s2.1
          rw [nrow_swp] at HOW
          replace HOW := HOW.drew
          have hB1 := hbel.grown s1.2 (by have := hbel.size; omega) (fun j hj => by cases hj; exact Nat.le_refl _)
          have hB2 := belowD_drew (hB1.grown s2.2 (by have := hB1.size; omega) (fun j hj => by cases hj; exact Nat.le_refl _))
          have HL2 : Hid ((Hp.swp cur p q).length = N) := by show _ = _; rw [Hp.swp_length]; exact HL.out
          have hpk : p - 1 = N - 1 - (k + 1) := by omega
          rw [hpk] at HH2
          clear hp hpk s1 s2 hr HL HT hB1
          generalize Hp.swp cur p q = cur2 at *
          generalize cur.getD p 0 = y1 at *
          generalize cur.getD q 0 = y2 at *
          go_wp2_with (go_at_call 40; with_reducible refine c2.mono ?_; rintro e w1 ⟨rfl, rfl⟩)
          as_aux_lemma =>
           go_region
           all_goals
            go_wp2
            exact ⟨⟨k + 1, t2, cur2, .inr (by omega), by go_num, rfl, HT2, HL2, HOW, HH2, hB2⟩, by simp [intOf]; omega⟩
        · have hz : N - 1 - k = 0 := by omega
          have hh := HH.out
          rw [hz, Hp.shuf_zero] at hh
          subst hh
          have ht := HT.out
          rw [show k = N - 1 by omega, ← HR.out] at ht
          subst ht
          clear HH HT hz
          go_wp2
          go_ret3
          exact ⟨_, rfl, hr, hbel⟩
end Go.Proofs.Ytdgdhhbapgfjgaa
