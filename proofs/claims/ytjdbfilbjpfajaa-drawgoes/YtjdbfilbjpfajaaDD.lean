/- draw: Below, of both. -/
import Derived.Test.YtjdbfilbjpfajaaDC
namespace Go.Proofs.Ytjdbfilbjpfajaa
open Go.RowKit
set_option maxRecDepth 20000

/-- append of numbers onto a row of the call's own. -/
theorem wpList_append_ints {ops : Array Oper} {rest : List Oper} {o : Oper} {a : Act} {Q : Exit → Act → World → Prop} (w : World) (hgd : o.guard = none) (s x : Operand)
    (ho : o.op = .call { callee := .builtin .append, args := #[s, x], argTypes := #[25, 25] }) (B : Nat) (v u : Value) (l m : List Int) (hs : a.eval s = v) (hown : w.ownsRow B 3 1 v l.length (i64s l)) (hx : a.eval x = u) (hu : Seg .i64 w u m)
    (hlen : l.length + m.length ≤ 17592186044416) (hB : B ≤ w.heap.size)
    (h : ∀ v' w', w'.ownsRow B 3 1 v' (l ++ m).length (i64s (l ++ m)) → Below B w w' → w.grownBy w' v.ownBlock → wpList Try.prog ops Q rest (a.put o.dst v') w') : wpList Try.prog ops Q (o :: rest) a w := by
  obtain ⟨i0, hi, hz0, hz1, hz2⟩ := info_parts Try.info3
  obtain ⟨ao, cap, rfl, h1, h2, h3, h4⟩ := hu
  rcases ao with _ | y
  · obtain ⟨rfl, rfl⟩ := h3 rfl
    refine wpList_append_own_none hgd s x 25 ho B 3 i0 1 Try.underlying25 hi v l.length (i64s l) hs hown hx ?_
    refine h v w ?_ (Below.refl _ _) (grownBy_refl _ _)
    rw [List.append_nil]
    exact hown
  · refine wpList_append_own w hgd s x 25 ho B 3 i0 (.int .i64 0) 1 8 Try.underlying25 hi hz0 hz1 hz2 rfl (by decide) v l.length (i64s l) hs hown y m.length cap (i64s m) hx (by simp) (map_cells fun i hi => h4 y rfl i hi) map_one (by unfold maxLen; omega) (by omega) hB ?_
    intro v' w' ho' hg _
    refine h v' w' ?_ ((Below.refl _ _).grown hg hB (fun k hk => (hown.lt k hk).1)) hg
    rw [← List.map_append] at ho'
    rw [List.length_append]
    exact ho'
theorem seg_one (w : World) (z : Int) : Seg .i64 (w.alloc (.cells #[.int .i64 z] 3)) (.slice (some ⟨w.heap.size, 0, none⟩) 1 1) [z] := seg_new w [z] 3 (by simp)

/-- Numbers drawn below those of a list. -/
def bel (s : Nat) (l : List Int) : List Int := (Hp.belows s (l.map Int.toNat)).map Int.ofNat
theorem bel_length (s : Nat) (l : List Int) : (bel s l).length = l.length := by unfold bel; rw [List.length_map, Hp.belows_length, List.length_map]
theorem bel_get (s : Nat) (l : List Int) (hs : s < 18446744073709551616) (i : Nat) (h : i < l.length) : (bel s l)[i]? = some (Hp.one (Hp.skip s i) (l.getD i 0).toNat : Int) := by
  unfold bel
  rw [List.getElem?_map, Hp.belows_get _ _ _ (by simpa using h) hs]
  simp [List.getD, h]
theorem bel_rows (s : Nat) (l : List Int) (hs : s < 18446744073709551616) (ys : List Value) (hy : ys.length = l.length) (h : ∀ j, j < l.length → ys[j]? = some (.int .i64 (Hp.one (Hp.skip s j) (l.getD j 0).toNat : Nat))) : ys = i64s (bel s l) := by
  apply List.ext_getElem?
  intro j
  by_cases hj : j < l.length
  · rw [h j hj, List.getElem?_map, bel_get s l hs j hj]
    rfl
  · rw [List.getElem?_eq_none (by omega), List.getElem?_eq_none (by rw [List.length_map, bel_length]; omega)]
theorem good_at {l : List Int} (h : l.any badB = false) (k : Nat) (hk : k < l.length) : 1 ≤ l.getD k 0 ∧ l.getD k 0 ≤ 1048576 := by
  rw [List.any_eq_false] at h
  have := h (l.getD k 0) (by rw [dgetD_at hk]; exact List.getElem_mem _)
  unfold badB at this
  generalize l.getD k 0 = x at *
  simp at this
  omega

set_option maxHeartbeats 1000000 in
theorem below_bad (s : Nat) (v : Value) (l : List Int) (w : World) (hv : Seg .i64 w v l) (hg : l.any badB = true) :
    Calls Try.prog 11 #[.int .u64 s, v] w fun e w' => e = .returned (.tuple #[.int .u64 0, .slice none 0 0, .int .i64 4]) ∧ w = w' := by
  have c1 := containsInts_any 26 (fun _ _ => rfl) badB v l w hv (fun z => wrong_any z w)
  rw [hg] at c1
  obtain ⟨a, cap, rfl, _⟩ := hv
  clear hg
  go_enter Try.func11, Try.ntmps11
  go_wp2_with (go_at_call 27; refine c1.mono ?_; rintro e w1 ⟨rfl, rfl⟩)
  go_ret3
  exact ⟨rfl, rfl⟩

set_option maxHeartbeats 1000000 in
theorem below_good (s : Nat) (v : Value) (l : List Int) (w : World) (hs : s < 18446744073709551616) (hv : Seg .i64 w v l) (hlen : l.length ≤ 1000000) (hg : l.any badB = false) :
    Calls Try.prog 11 #[.int .u64 s, v] w fun e w' => ∃ v', e = .returned (.tuple #[.int .u64 (Hp.skip s l.length : Nat), v', .int .i64 0]) ∧ w'.ownsRow w.heap.size 3 1 v' l.length (i64s (bel s l)) ∧ Below w.heap.size w w' := by
  have c1 := containsInts_any 26 (fun _ _ => rfl) badB v l w hv (fun z => wrong_any z w)
  rw [hg] at c1
  have HG := hidD (good_at hg)
  have HS := hidD hv
  have HB := hidD (bel_rows s l hs)
  have HK := hidD (Hp.skip_zero hs)
  obtain ⟨a, cap, rfl, h1, h2, _, _⟩ := hv
  obtain ⟨N, hN⟩ : ∃ N, N = l.length := ⟨_, rfl⟩
  rw [← hN] at h1 hlen c1 ⊢
  have HN := hidD hN
  obtain ⟨R, hR⟩ : ∃ R, R = Hp.skip s N := ⟨_, rfl⟩
  rw [← hR]
  have HR := hidD hR
  clear hR
  unfold maxLen at h2
  obtain ⟨i0, hi, hz0, hz1, hz2⟩ := info_parts Try.info3
  obtain ⟨w2, hmk, hown2, hg2⟩ := run_make_full (P := Try.prog) w w.heap.size 25 3 i0 (.int .i64 0) 1 Try.underlying25 hi hz0 hz1 .i64 .i64 N (by rw [hz2]; omega) (by unfold maxLen; omega) (Nat.le_refl _)
  have hb2 : Below w.heap.size w w2 := (Below.refl _ _).grown hg2 (Nat.le_refl _) (fun k hk => by cases hk)
  clear hg2 hz0 hz1 hz2 hi hg hN
  generalize hgw : w.heap.size = g at *
  go_enter Try.func11, Try.ntmps11
  go_wp2_with (go_at_call 27; refine c1.mono ?_; rintro e w1 ⟨rfl, rfl⟩)
  go_loopw [0, 19] (fun st i wr => ∃ (k t : Nat) (ys : List Value), k ≤ N ∧ i = .int .i64 k ∧ st = .int .u64 t ∧ Hid (t = Hp.skip s k) ∧ wr.ownsRow g 3 1 (.slice (some ⟨g, 0, none⟩) N N) N ys ∧ Hid (∀ j, j < k → ys[j]? = some (.int .i64 (Hp.one (Hp.skip s j) (l.getD j 0).toNat : Nat))) ∧ Below g w wr) (fun _ i _ => N - (intOf i).toNat)
  case atStart => exact ⟨0, s, _, Nat.zero_le _, rfl, rfl, HK.out.symm, hown2, fun j hj => absurd hj (Nat.not_lt_zero _), hb2⟩
  case round =>
    obtain ⟨k, t, ys, hk, rfl, rfl, HT, hr, HY, hbel⟩ := hrel
    clear hown2 hb2
    by_cases hlt : k < N
    · obtain ⟨a', cap', he, _, _, h13, h14⟩ := HS.out.below (by rw [hgw]; exact hbel)
      injection he with e1 e2 e3
      subst e1 e3
      clear e2
      obtain ⟨b, off, rfl, hb, hcell⟩ := seg_at (l := l) (by have := HN.out; omega) h13 h14
      have Q1 := hcell k (by have := HN.out; omega)
      obtain ⟨g1, g2⟩ := HG.out k (by have := HN.out; omega)
      have hys : ys.length = N := by have := hr.1; omega
      obtain ⟨z, hc⟩ : ∃ z, wr.cell? ⟨g, k, none⟩ = some z := ⟨ys[k]'(by omega), by rw [hr.cellAt k (by omega), List.getElem?_eq_getElem (by omega)]⟩
      have hf := hr.frozenAt k
      have HY' := hidD (HY.out)
      have hat : Hid (l.getD k 0 = l.getD k 0) := rfl
      clear hcell h13 h14 HY hat
      obtain ⟨x, hx⟩ : ∃ x : Nat, (x : Int) = l.getD k 0 := ⟨(l.getD k 0).toNat, by omega⟩
      rw [← hx] at Q1 g1 g2
      have c2 := one_any t x wr (by omega) (by omega)
      have HX := hidD hx
      clear hx
      have HY2 : Hid (∀ j, j < k + 1 → (ys.set k (.int .i64 (Hp.one t x : Nat)))[j]? = some (.int .i64 (Hp.one (Hp.skip s j) (l.getD j 0).toNat : Nat))) := by
        intro j hj
        by_cases hjk : j = k
        · subst hjk
          rw [List.getElem?_set_self (by omega), ← HX.out, ← HT.out]
          rfl
        · rw [List.getElem?_set_ne (by omega)]
          exact HY'.out j (by omega)
      have HT2 : Hid (Hp.nx t = Hp.skip s (k + 1)) := by
        show _ = _
        rw [Hp.skip_succ, HT.out]
      generalize Hp.one t x = o at *
      generalize Hp.nx t = t2 at *
      have hst := hr.stored k (.int .i64 o)
      have HO := hst.1
      have hgr : Below g w (wr.setCell ⟨g, k, none⟩ (.int .i64 o)) := hbel.grown hst.2 (by have := hbel.size; omega) (fun j hj => by cases hj; exact Nat.le_refl _)
      clear hst hys hr HY' c1
      go_wp2_with (go_at_call 28; refine c2.mono ?_; rintro e w1 ⟨rfl, rfl⟩)
      exact ⟨⟨k + 1, t2, _, by omega, by go_num, rfl, HT2, HO, HY2, hgr⟩, by simp [intOf]; omega⟩
    · have hke : k = N := by omega
      subst hke
      have hys : Hid (ys = i64s (bel s l)) := HB.out ys (by have := hr.1; have := HN.out; omega) (fun j hj => HY.out j (by have := HN.out; omega))
      have ht := HT.out
      rw [← HR.out] at ht
      subst ht
      clear HY HT HB HK HG
      go_wp2
      go_ret3
      refine ⟨_, rfl, ?_, hbel⟩
      rw [← hys.out]
      exact hr

theorem bel_snoc (s : Nat) (l : List Int) (hs : s < 18446744073709551616) (k : Nat) (h : k < l.length) : bel s (l.take (k + 1)) = bel s (l.take k) ++ [(Hp.one (Hp.skip s k) (l.getD k 0).toNat : Int)] := by
  unfold bel
  rw [List.take_succ_eq_append_getElem h, List.map_append, List.map_cons, List.map_nil, Hp.belows_snoc _ _ _ hs, List.map_append, dgetD_at h, List.length_map, List.length_take, Nat.min_eq_left (by omega)]
  rfl

set_option maxHeartbeats 1000000 in
/-- Where one is bad. -/
theorem rbelow_bad (s : Nat) (v : Value) (l : List Int) (w : World) (hv : Seg .i64 w v l) (hg : l.any badB = true) :
    Calls Try.prog 12 #[.int .u64 s, v] w fun e w' => e = .returned (.tuple #[.int .u64 0, .slice none 0 0, .int .i64 4]) ∧ w = w' := by
  obtain ⟨a, cap, rfl, h1, h2, h3, h4⟩ := hv
  obtain ⟨N, hN⟩ : ∃ N, N = l.length := ⟨_, rfl⟩
  have HG := hidD hg
  rw [← hN] at h1 ⊢
  have HN := hidD hN
  unfold maxLen at h2
  clear hN hg
  go_enter Try.func12, Try.ntmps12
  go_wp2
  go_loopw [7] (fun i wr => ∃ k : Nat, k ≤ N ∧ i = .int .i64 k ∧ Hid ((l.take k).any badB = false) ∧ w = wr) (fun i _ => N - (intOf i).toNat)
  case atStart => exact ⟨0, Nat.zero_le _, rfl, by simp [Hid], rfl⟩
  case round =>
    obtain ⟨k, hk, rfl, hc, rfl⟩ := hrel
    by_cases hlt : k < N
    · obtain ⟨b, off, rfl, hb, hcell⟩ := seg_at (l := l) (by have := HN.out; omega) h3 h4
      have Q1 := hcell k (by have := HN.out; omega)
      have HT := hidD (dany_take badB l k (by have := HN.out; omega))
      clear hcell h3 h4
      generalize l.getD k 0 = x at *
      by_cases hx1 : x < 1
      · go_wp2
        go_ret3
        exact ⟨rfl, rfl⟩
      · by_cases hx2 : 1048576 < x
        · go_wp2
          go_ret3
          exact ⟨rfl, rfl⟩
        · have hc2 : Hid ((l.take (k + 1)).any badB = false) := by
            show _ = _
            rw [HT.out, hc.out, badB, decide_eq_false hx1, decide_eq_false hx2]
            rfl
          go_wp2
          exact ⟨⟨k + 1, by omega, by go_num, hc2, (by first | rfl | trivial)⟩, by simp [intOf]; omega⟩
    · exfalso
      have h1 := hc.out
      rw [List.take_of_length_le (by have := HN.out; omega), HG.out] at h1
      cases h1

set_option maxHeartbeats 1000000 in
theorem rbelow_good (s : Nat) (v : Value) (l : List Int) (w : World) (hs : s < 18446744073709551616) (hv : Seg .i64 w v l) (hlen : l.length ≤ 1000000) (hg : l.any badB = false) :
    Calls Try.prog 12 #[.int .u64 s, v] w fun e w' => ∃ v', e = .returned (.tuple #[.int .u64 (Hp.skip s l.length : Nat), v', .int .i64 0]) ∧ w'.ownsRow w.heap.size 3 1 v' l.length (i64s (bel s l)) ∧ Below w.heap.size w w' := by
  have HG := hidD (good_at hg)
  have HS := hidD hv
  have HB := hidD (bel_snoc s l hs)
  have HK := hidD (Hp.skip_zero hs)
  obtain ⟨a, cap, rfl, h1, h2, h3, h4⟩ := hv
  obtain ⟨N, hN⟩ : ∃ N, N = l.length := ⟨_, rfl⟩
  rw [← hN] at h1 hlen ⊢
  have HN := hidD hN
  obtain ⟨R, hR⟩ : ∃ R, R = Hp.skip s N := ⟨_, rfl⟩
  rw [← hR]
  have HR := hidD hR
  unfold maxLen at h2
  clear hg hN hR
  generalize hgw : w.heap.size = g at *
  go_enter Try.func12, Try.ntmps12
  go_wp2
  go_loopw [7] (fun i wr => ∃ k : Nat, k ≤ N ∧ i = .int .i64 k ∧ w = wr) (fun i _ => N - (intOf i).toNat)
  case atStart => exact ⟨0, Nat.zero_le _, rfl, rfl⟩
  case round =>
    obtain ⟨k, hk, rfl, rfl⟩ := hrel
    by_cases hlt : k < N
    · obtain ⟨b, off, rfl, hb, hcell⟩ := seg_at (l := l) (by have := HN.out; omega) h3 h4
      have Q1 := hcell k (by have := HN.out; omega)
      obtain ⟨g1, g2⟩ := HG.out k (by have := HN.out; omega)
      clear hcell h3 h4
      generalize l.getD k 0 = x at *
      go_wp2
      exact ⟨⟨k + 1, by omega, by go_num, (by first | rfl | trivial)⟩, by simp [intOf]; omega⟩
    · go_wp2
      clear hlt hk
      go_loopw [0, 8, 9] (fun st o i wr => ∃ (k t : Nat), k ≤ N ∧ i = .int .i64 k ∧ st = .int .u64 t ∧ Hid (t = Hp.skip s k) ∧ wr.ownsRow g 3 1 o (bel s (l.take k)).length (i64s (bel s (l.take k))) ∧ Below g w wr) (fun _ _ i _ => N - (intOf i).toNat)
      case atStart => exact ⟨0, s, Nat.zero_le _, rfl, rfl, HK.out.symm, World.ownsRow_nil _ _ _ _, Below.refl _ _⟩
      case round =>
        obtain ⟨k, t, hk, rfl, rfl, HT, hr, hbel⟩ := hrel
        by_cases hlt : k < N
        · obtain ⟨a', cap', he, _, _, h13, h14⟩ := HS.out.below (by rw [hgw]; exact hbel)
          injection he with e1 e2 e3
          subst e1 e3
          clear e2 h3 h4
          obtain ⟨b, off, rfl, hb, hcell⟩ := seg_at (l := l) (by have := HN.out; omega) h13 h14
          have Q1 := hcell k (by have := HN.out; omega)
          obtain ⟨g1, g2⟩ := HG.out k (by have := HN.out; omega)
          have HBB := hidD (HB.out k (by have := HN.out; omega))
          have hbl : Hid ((bel s (l.take k)).length = k) := by
            show _ = _
            rw [bel_length, List.length_take, Nat.min_eq_left (by have := HN.out; omega)]
          clear hcell h13 h14
          obtain ⟨x, hx⟩ : ∃ x : Nat, (x : Int) = l.getD k 0 := ⟨(l.getD k 0).toNat, by omega⟩
          rw [← hx] at Q1 g1 g2 HBB
          rw [Int.toNat_natCast, ← HT.out] at HBB
          have c2 := rone_any t x wr (by omega) (by omega)
          have HT2 : Hid (Hp.nx t = Hp.skip s (k + 1)) := by
            show _ = _
            rw [Hp.skip_succ, HT.out]
          clear hx
          generalize Hp.one t x = z at *
          generalize Hp.nx t = t2 at *
          generalize bel s (l.take k) = L at *
          have hsz := hbel.size
          go_wp2_with (first | (go_at_call 29; refine c2.mono ?_; rintro e w1 ⟨rfl, rfl⟩) | (at_builtin; refine wpList_append_ints _ rfl _ _ rfl g _ _ L [(z : Int)] rfl (hr.alloc _) rfl (seg_one _ _) (by have := hbl.out; simp; omega) (by simp; omega) ?_; intro v' w1 hown1 hb1 _))
          have HO : w1.ownsRow g 3 1 v' (bel s (l.take (k + 1))).length (i64s (bel s (l.take (k + 1)))) := by rw [HBB.out]; exact hown1
          have hbd : Below g w w1 := (hbel.alloc (by omega) _).trans hb1
          clear hown1 hb1 hr hbel HBB c2
          go_wp2
          exact ⟨⟨k + 1, t2, by omega, by go_num, rfl, HT2, HO, hbd⟩, by simp [intOf]; omega⟩
        · have hke : k = N := by omega
          subst hke
          have htk : l.take k = l := List.take_of_length_le (by have := HN.out; omega)
          rw [htk, bel_length, ← HN.out] at hr
          have ht := HT.out
          rw [← HR.out] at ht
          subst ht
          clear HT HB HK HG htk h3 h4
          go_wp2
          go_ret3
          exact ⟨_, rfl, hr, hbel⟩
end Go.Proofs.Ytjdbfilbjpfajaa
