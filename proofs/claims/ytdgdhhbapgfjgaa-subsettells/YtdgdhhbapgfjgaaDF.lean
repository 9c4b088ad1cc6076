/- draw: Shuffle, of the reference. -/
import Derived.Test.YtdgdhhbapgfjgaaDE
namespace Go.Proofs.Ytdgdhhbapgfjgaa
open Go.RowKit
set_option maxRecDepth 20000

set_option maxHeartbeats 1000000 in
theorem rshuffle_bad (s : Nat) (n : Int) (w : World) (h : ¬(0 ≤ n ∧ n ≤ 1024)) :
    Calls Try.prog 25 #[.int .u64 s, .int .i64 n] w fun e w' => e = .returned (.tuple #[.int .u64 0, .slice none 0 0, .int .i64 4]) ∧ w = w' := by
  rcases Int.lt_or_le n 0 with h2 | h2
  · go_enter Try.func25, Try.ntmps25
    go_wp2
    go_ret3
    exact ⟨rfl, rfl⟩
  · have h3 : 1024 < n := by omega
    go_enter Try.func25, Try.ntmps25
    go_wp2
    go_ret3
    exact ⟨rfl, rfl⟩


theorem range_snoc (k : Nat) : i64s ((List.range k).map Int.ofNat ++ [(k : Int)]) = i64s ((List.range (k + 1)).map Int.ofNat) := by
  rw [List.range_succ, List.map_append]; rfl

set_option maxHeartbeats 4000000 in
theorem rshuffle_good (s N : Nat) (w : World) (hs : s < 18446744073709551616) (hN : N ≤ 1024) :
    Calls Try.prog 25 #[.int .u64 s, .int .i64 N] w fun e w' => ∃ v', e = .returned (.tuple #[.int .u64 (Hp.skip s (N - 1) : Nat), v', .int .i64 0]) ∧ w'.ownsRow w.heap.size 3 1 v' N (nrow (Hp.order s N)) ∧ Below w.heap.size w w' := by
  have HK := hidD (Hp.skip_zero hs)
  obtain ⟨R, hR⟩ : ∃ R, R = Hp.skip s (N - 1) := ⟨_, rfl⟩
  rw [← hR]
  have HR := hidD hR
  obtain ⟨O, hO⟩ : ∃ O, O = Hp.order s N := ⟨_, rfl⟩
  rw [← hO]
  have HO := hidD hO
  clear hR hO
  generalize hgw : w.heap.size = g at *
  go_enter Try.func25, Try.ntmps25
  go_wp2
  go_loopw [7, 8] (fun o i wr => ∃ (k : Nat), k ≤ N ∧ i = .int .i64 k ∧ wr.ownsRow g 3 1 o k (i64s ((List.range k).map Int.ofNat)) ∧ Below g w wr) (fun _ i _ => N - (intOf i).toNat)
  case atStart => exact ⟨0, Nat.zero_le _, rfl, World.ownsRow_nil _ _ _ _, Below.refl _ _⟩
  case round =>
    obtain ⟨k, hk, rfl, hr, hbel⟩ := hrel
    by_cases hlt : k < N
    · have hsz := hbel.size
      have HS := hidD (range_snoc k)
      have hlk : ((List.range k).map Int.ofNat).length = k := by simp
      have hr2 : wr.ownsRow g 3 1 u7 ((List.range k).map Int.ofNat).length (i64s ((List.range k).map Int.ofNat)) := by rw [hlk]; exact hr
      have HLK := hidD hlk
      clear hlk hr
      generalize (List.range k).map Int.ofNat = L at *
      go_wp2_with (at_builtin; refine wpList_append_ints _ rfl _ _ rfl g _ _ L [(k : Int)] rfl (hr2.alloc _) rfl (seg_one _ _) (by have := HLK.out; simp; omega) (by simp; omega) ?_; intro v' w1 hown1 hb1 _)
      have HO2 : w1.ownsRow g 3 1 v' (k + 1) (i64s ((List.range (k + 1)).map Int.ofNat)) := by
        rw [← HS.out]
        rw [List.length_append, HLK.out] at hown1
        exact hown1
      have hbd : Below g w w1 := (hbel.alloc (by omega) _).trans hb1
      clear hown1 hb1 hr2 hbel HS
      go_wp2
      exact ⟨⟨k + 1, by omega, by go_num, HO2, hbd⟩, by simp [intOf]; omega⟩
    · have hke : k = N := by omega
      subst hke
      rw [← nrow_ints] at hr
      have hb0 : Hid True := trivial
      go_wp2
      clear hk hlt
      go_loopw [0, 9] (fun st i wr2 => ∃ (j t : Nat) (cur : List Nat), (j = 0 ∨ j + 1 ≤ k) ∧ i = .int .i64 ((k : Int) - 1 - j) ∧ st = .int .u64 t ∧ Hid (t = Hp.skip s j) ∧ Hid (cur.length = k) ∧ wr2.ownsRow g 3 1 u7 k (nrow cur) ∧ Hid (Hp.shuf (k - 1 - j) t cur = O) ∧ Below g w wr2) (fun _ i _ => (intOf i + 1).toNat)
      case atStart => exact ⟨0, s, _, .inl rfl, by simp, rfl, HK.out.symm, List.length_range, hr, HO.out.symm, hbel⟩
      case round =>
        clear hr hbel hb0
        obtain ⟨j, t, cur, hj, rfl, rfl, HT, HL, hr, HH, hbel⟩ := hrel
        by_cases hlt : j + 1 < k
        · obtain ⟨p, hp, hp0⟩ : ∃ p, k - 1 - j = p ∧ 0 < p := ⟨_, rfl, by omega⟩
          rcases id hr.2 with ⟨_, h0⟩ | ⟨b, cap, _, hv, hb, _, hcap, hcm, _⟩
          · omega
          subst hv
          unfold maxLen at hcm
          have hh := HH.out
          rw [hp, shuf_pos hp0] at hh
          have HH2 := hidD hh
          have hone := Hp.one_lt t (n := p + 1) (by omega)
          have c2 := rone_any t (p + 1) wr (by omega) (by omega)
          have HT2 : Hid (Hp.nx t = Hp.skip s (j + 1)) := by
            show _ = _
            rw [Hp.skip_succ, HT.out]
          clear hh HH
          rw [show ((p + 1 : Nat) : Int) = (p : Int) + 1 by omega] at c2
          generalize Hp.one t (p + 1) = q at *
          generalize Hp.nx t = t2 at *
          have hpI : (k : Int) - 1 - j = (p : Int) := by omega
          have hpN : p < k := by omega
          have hqN : q < k := by omega
          have d1 : wr.cell? ⟨b, p, none⟩ = some (.int .i64 (cur.getD p 0 : Nat)) := by
            rw [hr.cellAt p (by omega)]; exact nrow_get (by rw [HL.out]; omega)
          have d2 : wr.cell? ⟨b, q, none⟩ = some (.int .i64 (cur.getD q 0 : Nat)) := by
            rw [hr.cellAt q (by omega)]; exact nrow_get (by rw [HL.out]; omega)
          have f1 := hr.frozenAt p
          have s1 := hr.stored p (.int .i64 (cur.getD q 0 : Nat))
          have f2 := hr.frozenAt q
          obtain ⟨z, d3⟩ : ∃ z, (wr.setCell ⟨b, p, none⟩ (.int .i64 (cur.getD q 0 : Nat))).cell? ⟨b, q, none⟩ = some z := ⟨((nrow cur).set p (.int .i64 (cur.getD q 0 : Nat)))[q]'(by simp; rw [HL.out]; omega), by rw [s1.1.cellAt q (by omega), List.getElem?_eq_getElem]⟩
          have s2 := s1.1.stored q (.int .i64 (cur.getD p 0 : Nat))
          have HOW := s2.1
          rw [nrow_swp] at HOW
          replace HOW := HOW.drew
          have hB1 := hbel.grown s1.2 (by have := hbel.size; omega) (fun i hi => by cases hi; exact hb)
          have hB2 := belowD_drew (hB1.grown s2.2 (by have := hB1.size; omega) (fun i hi => by cases hi; exact hb))
          have HL2 : Hid ((Hp.swp cur p q).length = k) := by show _ = _; rw [Hp.swp_length]; exact HL.out
          have hpk : p - 1 = k - 1 - (j + 1) := by omega
          rw [hpk] at HH2
          clear hp hpk s1 s2 hr HL HT hB1
          generalize Hp.swp cur p q = cur2 at *
          generalize cur.getD p 0 = y1 at *
          generalize cur.getD q 0 = y2 at *
          rw [hpI]
          go_wp2_with (go_at_call 34; with_reducible refine c2.mono ?_; rintro e w1 ⟨rfl, rfl⟩)
          as_aux_lemma =>
           go_region
           all_goals
            go_wp2
            exact ⟨⟨j + 1, t2, cur2, .inr (by omega), (by first | (congr 1; done) | (congr 1; omega)), rfl, HT2, HL2, HOW, HH2, hB2⟩, (by first | (simp [intOf]; done) | (simp [intOf]; omega))⟩
        · have hz : k - 1 - j = 0 := by omega
          have hh := HH.out
          rw [hz, Hp.shuf_zero] at hh
          subst hh
          have ht := HT.out
          rw [show j = k - 1 by omega, ← HR.out] at ht
          subst ht
          clear HH HT hz
          go_wp2
          go_ret3
          exact ⟨_, rfl, hr, hbel⟩
end Go.Proofs.Ytdgdhhbapgfjgaa
