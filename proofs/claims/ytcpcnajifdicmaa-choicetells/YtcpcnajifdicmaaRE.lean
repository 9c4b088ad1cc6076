/- ring: Whole, of both; peopled. -/
import Derived.Test.YtcpcnajifdicmaaRC
import Derived.BigQuiet
namespace Go.Proofs.Ytcpcnajifdicmaa
open Go.RowKit Go.Sort

theorem whole_any (v : Value) (l : List Rp.Pt) (w : World) (hv : PSeg .u64 w v l) :
    Calls Try.prog 54 #[v] w fun e w' => e = .returned (.int .i64 (Rp.wholeE l)) ∧ Below w.heap.size w w' := by
  obtain ⟨a, cap, rfl, h1, h2, h3, h4⟩ := id hv
  have c := containsP_any 60 (fun _ _ => rfl) (fun p => decide (p.2 < 0)) _ l w hv (fun x y w => neg_any x y w)
  have c2 := fun w' (b : Below w.heap.size w w') => isSorted_any _ l w' (hv.below b)
  have HE : Hid (Rp.wholeE l = if 1024 < l.length then 3 else if l.any (fun p => decide (p.2 < 0)) || !Rp.sorted l then 9 else 0) := hidD rfl
  obtain ⟨N, hN⟩ : ∃ N, N = l.length := ⟨_, rfl⟩
  rw [← hN] at h1 HE c c2 ⊢
  unfold maxLen at h2
  generalize Rp.wholeE l = E at *
  generalize l.any (fun p => decide (p.2 < 0)) = o at *
  generalize Rp.sorted l = B at *
  clear hN hv h3 h4
  by_cases hlen : 1024 < N
  · have hE : E = 3 := by rw [HE.out, if_pos hlen]
    subst hE
    clear c c2
    go_enter Try.func54, Try.ntmps54
    go_wp2
    go_ret
    exact ⟨rfl, Below.refl _ _⟩
  · have hE : Hid (E = if o || !B then 9 else 0) := by show E = _; rw [HE.out, if_neg hlen]
    clear HE
    cases o with
    | true =>
      have hE2 : E = 9 := hE.out
      subst hE2
      clear c2
      go_enter Try.func54, Try.ntmps54
      go_wp2_with fail
      with_reducible refine c.mono ?_
      rintro e w' ⟨rfl, b1⟩
      go_wp2
      go_ret
      exact ⟨rfl, b1⟩
    | false =>
      cases B with
      | true =>
        have hE2 : E = 0 := hE.out
        subst hE2
        go_enter Try.func54, Try.ntmps54
        go_wp2_with fail
        with_reducible refine c.mono ?_
        rintro e w1 ⟨rfl, b1⟩
        have c3 := c2 w1 b1
        clear c2
        go_wp2_with fail
        with_reducible refine c3.mono ?_
        rintro e w2 ⟨rfl, b2⟩
        go_wp2
        go_ret
        exact ⟨rfl, Below.step b1 b2⟩
      | false =>
        have hE2 : E = 9 := hE.out
        subst hE2
        go_enter Try.func54, Try.ntmps54
        go_wp2_with fail
        with_reducible refine c.mono ?_
        rintro e w1 ⟨rfl, b1⟩
        have c3 := c2 w1 b1
        clear c2
        go_wp2_with fail
        with_reducible refine c3.mono ?_
        rintro e w2 ⟨rfl, b2⟩
        go_wp2
        go_ret
        exact ⟨rfl, Below.step b1 b2⟩

theorem peopled_any (v : Value) (l : List Rp.Pt) (w : World) (hv : PSeg .u64 w v l) :
    Calls Try.prog 47 #[v] w fun e w' => e = .returned (.int .i64 (Rp.peopledE l)) ∧ Below w.heap.size w w' := by
  obtain ⟨a, cap, rfl, h1, h2, h3, h4⟩ := id hv
  have c := whole_any _ l w hv
  have HE : Hid (Rp.peopledE l = if Rp.wholeE l ≠ 0 then Rp.wholeE l else if l.length = 0 then 71 else 0) := hidD rfl
  obtain ⟨N, hN⟩ : ∃ N, N = l.length := ⟨_, rfl⟩
  rw [← hN] at h1 HE c ⊢
  unfold maxLen at h2
  generalize Rp.peopledE l = E at *
  generalize Rp.wholeE l = W at *
  clear hN hv h3 h4
  by_cases hW : W = 0
  · subst hW
    by_cases hl : N = 0
    · have hE : E = 71 := by rw [HE.out, if_neg (by omega), if_pos hl]
      subst hE hl
      go_enter Try.func47, Try.ntmps47
      go_wp2_with fail
      with_reducible refine c.mono ?_
      rintro e w1 ⟨rfl, b1⟩
      go_wp2
      go_ret
      exact ⟨rfl, b1⟩
    · have hE : E = 0 := by rw [HE.out, if_neg (by omega), if_neg hl]
      have hb : ((N : Int) == 0) = false := by simp; omega
      subst hE
      go_enter Try.func47, Try.ntmps47
      go_wp2_with fail
      with_reducible refine c.mono ?_
      rintro e w1 ⟨rfl, b1⟩
      go_wp2
      go_ret
      exact ⟨rfl, b1⟩
  · have hE : E = W := by rw [HE.out, if_pos hW]
    have hb : (W != 0) = true := by simpa using hW
    subst hE
    go_enter Try.func47, Try.ntmps47
    go_wp2_with fail
    with_reducible refine c.mono ?_
    rintro e w1 ⟨rfl, b1⟩
    go_wp2
    go_ret
    exact ⟨rfl, b1⟩

theorem whole_iff (l : List Rp.Pt) : (l.any (fun p => decide (p.2 < 0)) || !Rp.sorted l) = false ↔ ∀ i, i < l.length → 0 ≤ (l.getD i (0, 0)).2 ∧ (0 < i → Rp.lt (l.getD i (0, 0)) (l.getD (i - 1) (0, 0)) = false) := by
  constructor
  · intro h i hi
    rw [Bool.or_eq_false_iff] at h
    refine ⟨Int.not_lt.1 fun hc => ?_, fun h0 => ?_⟩
    · rw [pany_at (fun p => decide (p.2 < 0)) l i hi (decide_eq_true hc)] at h
      cases h.1
    · rw [← Bool.not_eq_true]
      intro hc
      rw [psorted_not i h0 hi hc] at h
      cases h.2
  · intro h
    rw [Bool.or_eq_false_iff]
    refine ⟨?_, ?_⟩
    · rw [← Bool.not_eq_true, List.any_eq_true]
      rintro ⟨x, hx, hc⟩
      obtain ⟨i, hi, rfl⟩ := List.mem_iff_getElem.1 hx
      have := (h i hi).1
      rw [pgetD_at hi] at this
      have hc' : l[i].2 < 0 := by simpa using hc
      omega
    · rw [psorted_all (fun i h0 hi => (h i hi).2 h0)]
      rfl

set_option maxHeartbeats 1000000 in
theorem rwhole_any (v : Value) (l : List Rp.Pt) (w : World) (hv : PSeg .u64 w v l) :
    Calls Try.prog 37 #[v] w fun e w' => e = .returned (.int .i64 (Rp.wholeE l)) ∧ Below w.heap.size w w' := by
  obtain ⟨a, cap, rfl, h1, h2, h3, h4⟩ := id hv
  have HE : Hid (Rp.wholeE l = if 1024 < l.length then 3 else if l.any (fun p => decide (p.2 < 0)) || !Rp.sorted l then 9 else 0) := hidD rfl
  have HI := hidD (whole_iff l)
  obtain ⟨N, hN⟩ : ∃ N, N = l.length := ⟨_, rfl⟩
  have HN := hidD hN
  have HV := hidD hv
  rw [← hN] at h1 HE ⊢
  unfold maxLen at h2
  generalize Rp.wholeE l = E at *
  generalize (l.any (fun p => decide (p.2 < 0)) || !Rp.sorted l) = o at *
  clear hN hv h3 h4
  by_cases hlen : 1024 < N
  · have hE : E = 3 := by rw [HE.out, if_pos hlen]
    subst hE
    go_enter Try.func37, Try.ntmps37
    go_wp2
    go_ret
    exact ⟨rfl, Below.refl _ _⟩
  · have hE : Hid (E = if o then 9 else 0) := by show E = _; rw [HE.out, if_neg hlen]
    have HO : Hid (∀ i, i < l.length → ((l.getD i (0, 0)).2 < 0 ∨ (0 < i ∧ Rp.lt (l.getD i (0, 0)) (l.getD (i - 1) (0, 0)) = true)) → E = 9) := hidD (fun i hi h => by
      rw [hE.out]
      cases o with
      | true => rfl
      | false =>
        have := HI.out.1 rfl i hi
        rcases h with h | ⟨h0, h⟩
        · exact absurd h (Int.not_lt.2 this.1)
        · rw [this.2 h0] at h; cases h)
    have HP : Hid ((∀ i, i < l.length → 0 ≤ (l.getD i (0, 0)).2 ∧ (0 < i → Rp.lt (l.getD i (0, 0)) (l.getD (i - 1) (0, 0)) = false)) → E = 0) := hidD (fun h => by
      rw [hE.out, HI.out.2 h]; rfl)
    clear HE HI hE
    have mixed : Try.prog.follows .mixedOrders = true := by kernel_rfl
    go_enter Try.func37, Try.ntmps37
    go_wp2_with fail
    go_loopw [3] (fun i wr => ∃ k : Nat, k ≤ N ∧ i = .int .i64 k ∧ Hid (∀ i, i < k → 0 ≤ (l.getD i (0, 0)).2 ∧ (0 < i → Rp.lt (l.getD i (0, 0)) (l.getD (i - 1) (0, 0)) = false)) ∧ Below w.heap.size w wr) (fun i _ => N - (intOf i).toNat)
    case atStart => exact ⟨0, Nat.zero_le _, rfl, hidD (fun i hi => by omega), Below.refl _ _⟩
    case round =>
      obtain ⟨k, hk, rfl, hc, hbl⟩ := hrel
      by_cases hlt : k < N
      · obtain ⟨a', cap', e1, _, _, h3, h4⟩ := HV.out.below hbl
        rw [← HN.out] at e1
        cases e1
        obtain ⟨g, off, rfl, hg, hcell⟩ := pseg_at (l := l) (by have := HN.out; omega) h3 h4
        obtain ⟨J, hJ⟩ : ∃ J, J = k - 1 := ⟨_, rfl⟩
        obtain ⟨Q1, Q2⟩ := hcell k (by have := HN.out; omega)
        obtain ⟨Q3, Q4⟩ := hcell J (by have := HN.out; omega)
        have HO2 := hidD (HO.out k (by have := HN.out; omega))
        have HC2 : Hid (0 ≤ (l.getD k (0, 0)).2 ∧ (0 < k → Rp.lt (l.getD k (0, 0)) (l.getD J (0, 0)) = false) → ∀ i, i < k + 1 → 0 ≤ (l.getD i (0, 0)).2 ∧ (0 < i → Rp.lt (l.getD i (0, 0)) (l.getD (i - 1) (0, 0)) = false)) := hidD (fun h i hi => by
          by_cases hj : i = k
          · subst hj; rw [← hJ]; exact h
          · exact hc.out i (by omega))
        rw [← hJ] at HO2
        have Q1' : ∀ n os, (grow (wr.drewN n) os).cell? ⟨g, off + k * 2, none⟩ = some (.int .u64 (l.getD k (0, 0)).1) := fun n os => cell_grown hg Q1 n os
        have Q2' : ∀ n os, (grow (wr.drewN n) os).cell? ⟨g, off + k * 2 + 1, none⟩ = some (.int .i64 (l.getD k (0, 0)).2) := fun n os => cell_grown hg Q2 n os
        have Q3' : ∀ n os, (grow (wr.drewN n) os).cell? ⟨g, off + J * 2, none⟩ = some (.int .u64 (l.getD J (0, 0)).1) := fun n os => cell_grown hg Q3 n os
        have Q4' : ∀ n os, (grow (wr.drewN n) os).cell? ⟨g, off + J * 2 + 1, none⟩ = some (.int .i64 (l.getD J (0, 0)).2) := fun n os => cell_grown hg Q4 n os
        have hb := fun W : World => behind_any (l.getD J (0, 0)).1 (l.getD J (0, 0)).2 (l.getD k (0, 0)).1 (l.getD k (0, 0)).2 W
        simp only [Prod.eta] at hb
        clear hcell h3 h4 HO HP Q1 Q2 Q3 Q4 hc
        generalize l.getD k (0, 0) = x at *
        generalize l.getD J (0, 0) = y at *
        have i1 : (k : Int) < (N : Int) := by omega
        have i3 : (J : Int) < (N : Int) := by omega
        by_cases hz : x.2 < 0
        · have HE2 := HO2.out (.inl hz)
          subst HE2
          clear hb HC2
          go_wp2_with fail
          refine wp_region_quiet_grown (by assumption) (by kernel_rfl) ?_
          repeat (go_big_quiet_step (fail))
          refine wpQuiet_nil ?_
          intro _ hw'
          obtain ⟨⟨nq, osq⟩, hw''⟩ := hw'
          subst hw''
          go_wp2
          go_ret
          exact ⟨rfl, Below.step hbl (pbelow_grown _ _ _)⟩
        · have hz' : decide (x.2 < 0) = false := decide_eq_false hz
          by_cases h0 : 0 < k
          · have i4 : IntKind.i64.wrap ((k : Int) - 1) = (J : Int) := by rw [IntKind.wrap_i64]; omega
            have i5 : (0 : Int) < (k : Int) := by omega
            have hb2 : ∀ W : World, Calls Try.prog 43 #[.agg #[.int .u64 y.1, .int .i64 y.2], .agg #[.int .u64 x.1, .int .i64 x.2]] W fun e w' => e = .returned (.bool (Rp.lt x y)) ∧ ∃ q os', w' = grow (W.drewN q) os' := fun W => (hb W).mono fun _ _ ⟨h1, os', h2⟩ => ⟨h1, 0, os', h2⟩
            clear hb
            cases hL : Rp.lt x y with
            | true =>
              have HE2 := HO2.out (.inr ⟨h0, hL⟩)
              subst HE2
              rw [hL] at hb2
              have HJ := hidD hJ
              clear hJ hL HC2
              go_wp2_with fail
              refine wp_region_quiet_grown (by assumption) (by kernel_rfl) ?_
              repeat (go_big_quiet_step (first | (go_at_call 43; exact Calls.grown_of (hb2 _))))
              refine wpQuiet_nil ?_
              intro _ hw'
              obtain ⟨⟨nq, osq⟩, hw''⟩ := hw'
              subst hw''
              go_wp2
              go_ret
              exact ⟨rfl, Below.step hbl (pbelow_grown _ _ _)⟩
            | false =>
              have hc2 := hidD (HC2.out ⟨Int.not_lt.1 hz, fun _ => hL⟩)
              rw [hL] at hb2
              have HJ := hidD hJ
              clear hJ hL HC2 HO2
              go_wp2_with fail
              refine wp_region_quiet_grown (by assumption) (by kernel_rfl) ?_
              repeat (go_big_quiet_step (first | (go_at_call 43; exact Calls.grown_of (hb2 _))))
              refine wpQuiet_nil ?_
              intro _ hw'
              obtain ⟨⟨nq, osq⟩, hw''⟩ := hw'
              subst hw''
              have b3 := Below.step hbl (pbelow_grown wr nq osq)
              clear hb2 hbl Q1' Q2' Q3' Q4'
              generalize grow (wr.drewN nq) osq = w3 at *
              go_wp2
              exact ⟨⟨k + 1, by omega, by go_num, hc2, b3⟩, by simp [intOf]; omega⟩
          · obtain rfl : k = 0 := by omega
            have hc2 := hidD (HC2.out ⟨Int.not_lt.1 hz, fun h => absurd h h0⟩)
            have hd : decide ((0 : Int) < ((0 : Nat) : Int)) = false := rfl
            clear hb HC2 HO2 hJ
            go_wp2_with fail
            refine wp_region_quiet_grown (by assumption) (by kernel_rfl) ?_
            repeat (go_big_quiet_step (fail))
            refine wpQuiet_nil ?_
            intro _ hw'
            obtain ⟨⟨nq, osq⟩, hw''⟩ := hw'
            subst hw''
            have b3 := Below.step hbl (pbelow_grown wr nq osq)
            clear hbl Q1' Q2' Q3' Q4'
            generalize grow (wr.drewN nq) osq = w3 at *
            go_wp2
            exact ⟨⟨0 + 1, by omega, by go_num, hc2, b3⟩, by simp [intOf]; omega⟩
      · have HE2 := HP.out (fun i hi => hc.out i (by have := HN.out; omega))
        subst HE2
        go_wp2
        go_ret
        exact ⟨rfl, hbl⟩
end Go.Proofs.Ytcpcnajifdicmaa
