/- choice: slices of loads; IndexFunc, ContainsFunc; Check and peopled. -/
import Derived.Test.YtcpcnajifdicmaaC0
import Derived.Test.YtcpcnajifdicmaaRD
namespace Go.Proofs.Ytcpcnajifdicmaa
open Go.RowKit Go.Sort

theorem loutside_any (x y : Int) (w : World) : Calls Try.prog 40 #[.agg #[.int .i64 x, .int .i64 y]] w fun e w' => e = .returned (.bool (Lo.outside (x, y))) ∧ Below w.heap.size w w' := by
  have hb : Below w.heap.size w (w.alloc (.cells #[.int .i64 x, .int .i64 y] 49)) := (Below.refl _ _).alloc (Nat.le_refl _) _
  have hd : Lo.outside (x, y) = (decide (x < 0) || decide (2147483647 < x) || decide (y < 0) || decide (1048576 < y)) := rfl
  rw [hd]
  clear hd
  by_cases h1 : x < 0
  · have hr : (decide (x < 0) || decide (2147483647 < x) || decide (y < 0) || decide (1048576 < y)) = true := by simp [h1]
    rw [hr]
    clear hr
    go_enter Try.func40, Try.ntmps40
    go_wp2
    go_ret
    exact ⟨rfl, hb⟩
  · by_cases h2 : 2147483647 < x
    · have hr : (decide (x < 0) || decide (2147483647 < x) || decide (y < 0) || decide (1048576 < y)) = true := by simp [h2]
      rw [hr]
      clear hr
      go_enter Try.func40, Try.ntmps40
      go_wp2
      go_ret
      exact ⟨rfl, hb⟩
    · by_cases h3 : y < 0
      · have hr : (decide (x < 0) || decide (2147483647 < x) || decide (y < 0) || decide (1048576 < y)) = true := by simp [h3]
        rw [hr]
        clear hr
        go_enter Try.func40, Try.ntmps40
        go_wp2
        go_ret
        exact ⟨rfl, hb⟩
      · have hr : (decide (x < 0) || decide (2147483647 < x) || decide (y < 0) || decide (1048576 < y)) = decide (1048576 < y) := by simp [h1, h2, h3]
        rw [hr]
        clear hr
        go_enter Try.func40, Try.ntmps40
        go_wp2
        go_ret
        exact ⟨rfl, hb⟩

theorem indexL0 (ft : Nat) (hen : ∀ (args : Array Value) (w' : World), (callFunc ft args).run Try.prog w' = .ok (.enter ft args) w') (P : Rp.Pt → Bool) (v : Value) (l : List Rp.Pt) (w : World) (hv : PSeg .i64 w v l)
    (ht : ∀ (x y : Int) (W : World), Below w.heap.size w W → Calls Try.prog ft #[.agg #[.int .i64 x, .int .i64 y]] W fun e w' => e = .returned (.bool (P (x, y))) ∧ Below W.heap.size W w') :
    Calls Try.prog 49 #[v, .func (.func ft) #[] #[]] w fun e w' => ∃ r : Int, e = .returned (.int .i64 r) ∧ (decide (0 ≤ r) = l.any P) ∧ Below w.heap.size w w' := by
  obtain ⟨a, cap, rfl, h1, h2, h3, h4⟩ := id hv
  obtain ⟨N, hN⟩ : ∃ N, N = l.length := ⟨_, rfl⟩
  rw [← hN] at h1 ⊢
  unfold maxLen at h2
  have HN : Hid (N = l.length) := hN
  have HV := hidD hv
  have HTT := hidD ht
  clear hN hv h3 h4 ht
  go_enter Try.func49, Try.ntmps49
  go_wp2_with fail
  go_loopw [8] (fun i wr => ∃ k : Nat, k ≤ N ∧ i = .int .i64 k ∧ Hid ((l.take k).any P = false) ∧ Below w.heap.size w wr) (fun i _ => N - (intOf i).toNat)
  case atStart => exact ⟨0, Nat.zero_le _, rfl, by simp [Hid], Below.refl _ _⟩
  case round =>
    obtain ⟨k, hk, rfl, hc, hbl⟩ := hrel
    by_cases hlt : k < N
    · obtain ⟨a', cap', e1, _, _, h3, h4⟩ := HV.out.below hbl
      rw [← HN.out] at e1
      cases e1
      obtain ⟨g, off, rfl, hg, hcell⟩ := pseg_at (l := l) (by have := HN.out; omega) h3 h4
      obtain ⟨Q1, Q2⟩ := hcell k (by have := HN.out; omega)
      have hb := HTT.out (l.getD k (0, 0)).1 (l.getD k (0, 0)).2 wr hbl
      have HT := hidD (pany_take P l k (by have := HN.out; omega))
      have HA := hidD (pany_at P l k (by have := HN.out; omega))
      rw [Prod.eta] at hb
      clear hcell h3 h4
      generalize l.getD k (0, 0) = x at *
      by_cases hq : P x = true
      · rw [hq] at hb
        go_wp2_with fail
        with_reducible refine hb.mono ?_
        rintro e w2 ⟨rfl, b2⟩
        go_wp2
        go_ret
        exact ⟨_, rfl, by rw [HA.out hq]; exact decide_eq_true (by omega), Below.step hbl b2⟩
      · rw [Bool.not_eq_true] at hq
        rw [hq] at hb
        go_wp2_with fail
        with_reducible refine hb.mono ?_
        rintro e w2 ⟨rfl, b2⟩
        have hc2 : Hid ((l.take (k + 1)).any P = false) := by
          show (l.take (k + 1)).any P = false
          rw [HT.out, hc.out, hq]
          rfl
        have b3 := Below.step hbl b2
        clear hb hq hbl b2
        go_wp2
        exact ⟨⟨k + 1, by omega, by go_num, hc2, b3⟩, by simp [intOf]; omega⟩
    · have hke : l.take k = l := List.take_of_length_le (by have := HN.out; omega)
      rw [hke] at hc
      clear hke
      go_wp2
      go_ret
      exact ⟨_, rfl, by rw [hc.out]; rfl, hbl⟩

theorem containsL0 (ft : Nat) (hen : ∀ (args : Array Value) (w' : World), (callFunc ft args).run Try.prog w' = .ok (.enter ft args) w') (P : Rp.Pt → Bool) (v : Value) (l : List Rp.Pt) (w : World) (hv : PSeg .i64 w v l)
    (ht : ∀ (x y : Int) (W : World), Below w.heap.size w W → Calls Try.prog ft #[.agg #[.int .i64 x, .int .i64 y]] W fun e w' => e = .returned (.bool (P (x, y))) ∧ Below W.heap.size W w') :
    Calls Try.prog 34 #[v, .func (.func ft) #[] #[]] w fun e w' => e = .returned (.bool (l.any P)) ∧ Below w.heap.size w w' := by
  have c := indexL0 ft hen P v l w hv ht
  clear ht hv
  generalize l.any P = b at *
  go_enter Try.func34, Try.ntmps34
  go_wp2_with fail
  with_reducible refine c.mono ?_
  rintro e w' ⟨r, rfl, hr, b1⟩
  subst hr
  go_wp2
  go_ret
  exact ⟨rfl, b1⟩

theorem indexL1 (ft : Nat) (p : Addr) (hen : ∀ (args : Array Value) (w' : World), (callFunc ft args).run Try.prog w' = .ok (.enter ft args) w') (P : Rp.Pt → Bool) (v : Value) (l : List Rp.Pt) (w : World) (hv : PSeg .i64 w v l)
    (ht : ∀ (x y : Int) (W : World), Below w.heap.size w W → Calls Try.prog ft #[.agg #[.int .i64 x, .int .i64 y], .pointer (some p)] W fun e w' => e = .returned (.bool (P (x, y))) ∧ Below W.heap.size W w') :
    Calls Try.prog 49 #[v, .func (.func ft) #[] #[.pointer (some p)]] w fun e w' => ∃ r : Int, e = .returned (.int .i64 r) ∧ (decide (0 ≤ r) = l.any P) ∧ Below w.heap.size w w' := by
  obtain ⟨a, cap, rfl, h1, h2, h3, h4⟩ := id hv
  obtain ⟨N, hN⟩ : ∃ N, N = l.length := ⟨_, rfl⟩
  rw [← hN] at h1 ⊢
  unfold maxLen at h2
  have HN : Hid (N = l.length) := hN
  have HV := hidD hv
  have HTT := hidD ht
  clear hN hv h3 h4 ht
  go_enter Try.func49, Try.ntmps49
  go_wp2_with fail
  go_loopw [8] (fun i wr => ∃ k : Nat, k ≤ N ∧ i = .int .i64 k ∧ Hid ((l.take k).any P = false) ∧ Below w.heap.size w wr) (fun i _ => N - (intOf i).toNat)
  case atStart => exact ⟨0, Nat.zero_le _, rfl, by simp [Hid], Below.refl _ _⟩
  case round =>
    obtain ⟨k, hk, rfl, hc, hbl⟩ := hrel
    by_cases hlt : k < N
    · obtain ⟨a', cap', e1, _, _, h3, h4⟩ := HV.out.below hbl
      rw [← HN.out] at e1
      cases e1
      obtain ⟨g, off, rfl, hg, hcell⟩ := pseg_at (l := l) (by have := HN.out; omega) h3 h4
      obtain ⟨Q1, Q2⟩ := hcell k (by have := HN.out; omega)
      have hb := HTT.out (l.getD k (0, 0)).1 (l.getD k (0, 0)).2 wr hbl
      have HT := hidD (pany_take P l k (by have := HN.out; omega))
      have HA := hidD (pany_at P l k (by have := HN.out; omega))
      rw [Prod.eta] at hb
      clear hcell h3 h4
      generalize l.getD k (0, 0) = x at *
      by_cases hq : P x = true
      · rw [hq] at hb
        go_wp2_with fail
        with_reducible refine hb.mono ?_
        rintro e w2 ⟨rfl, b2⟩
        go_wp2
        go_ret
        exact ⟨_, rfl, by rw [HA.out hq]; exact decide_eq_true (by omega), Below.step hbl b2⟩
      · rw [Bool.not_eq_true] at hq
        rw [hq] at hb
        go_wp2_with fail
        with_reducible refine hb.mono ?_
        rintro e w2 ⟨rfl, b2⟩
        have hc2 : Hid ((l.take (k + 1)).any P = false) := by
          show (l.take (k + 1)).any P = false
          rw [HT.out, hc.out, hq]
          rfl
        have b3 := Below.step hbl b2
        clear hb hq hbl b2
        go_wp2
        exact ⟨⟨k + 1, by omega, by go_num, hc2, b3⟩, by simp [intOf]; omega⟩
    · have hke : l.take k = l := List.take_of_length_le (by have := HN.out; omega)
      rw [hke] at hc
      clear hke
      go_wp2
      go_ret
      exact ⟨_, rfl, by rw [hc.out]; rfl, hbl⟩

theorem containsL1 (ft : Nat) (p : Addr) (hen : ∀ (args : Array Value) (w' : World), (callFunc ft args).run Try.prog w' = .ok (.enter ft args) w') (P : Rp.Pt → Bool) (v : Value) (l : List Rp.Pt) (w : World) (hv : PSeg .i64 w v l)
    (ht : ∀ (x y : Int) (W : World), Below w.heap.size w W → Calls Try.prog ft #[.agg #[.int .i64 x, .int .i64 y], .pointer (some p)] W fun e w' => e = .returned (.bool (P (x, y))) ∧ Below W.heap.size W w') :
    Calls Try.prog 34 #[v, .func (.func ft) #[] #[.pointer (some p)]] w fun e w' => e = .returned (.bool (l.any P)) ∧ Below w.heap.size w w' := by
  have c := indexL1 ft p hen P v l w hv ht
  clear ht hv
  generalize l.any P = b at *
  go_enter Try.func34, Try.ntmps34
  go_wp2_with fail
  with_reducible refine c.mono ?_
  rintro e w' ⟨r, rfl, hr, b1⟩
  subst hr
  go_wp2
  go_ret
  exact ⟨rfl, b1⟩

theorem lcheck_any (v : Value) (l : List Rp.Pt) (w : World) (hv : PSeg .i64 w v l) :
    Calls Try.prog 20 #[v] w fun e w' => e = .returned (.int .i64 (Lo.checkE l)) ∧ Below w.heap.size w w' := by
  obtain ⟨a, cap, rfl, h1, h2, h3, h4⟩ := id hv
  have c := containsL0 40 (fun _ _ => rfl) Lo.outside _ l w hv (fun x y W _ => loutside_any x y W)
  have HE : Hid (Lo.checkE l = if 32 < l.length then 3 else if l.any Lo.outside then 4 else if Rp.rises l then 0 else 6) := hidD rfl
  have HS1 := hidD (@rises_all l)
  have HS2 := hidD (@rises_not l)
  obtain ⟨N, hN⟩ : ∃ N, N = l.length := ⟨_, rfl⟩
  rw [← hN] at h1 c ⊢
  unfold maxLen at h2
  have HN : Hid (N = l.length) := hN
  have HV := hidD hv
  generalize Lo.checkE l = E at *
  generalize l.any Lo.outside = o at *
  generalize Rp.rises l = B at *
  clear hN hv h3 h4
  by_cases hlen : 32 < N
  · have hE : E = 3 := by rw [HE.out, if_pos (by rw [← HN.out]; exact hlen)]
    subst hE
    clear c
    go_enter Try.func20, Try.ntmps20
    go_wp2
    go_ret
    exact ⟨rfl, Below.refl _ _⟩
  · cases ho : o with
    | true =>
      subst ho
      have hE : E = 4 := by rw [HE.out, if_neg (by rw [← HN.out]; exact hlen)]; rfl
      subst hE
      go_enter Try.func20, Try.ntmps20
      go_wp2_with fail
      with_reducible refine c.mono ?_
      rintro e w' ⟨rfl, b1⟩
      go_wp2
      go_ret
      exact ⟨rfl, b1⟩
    | false =>
      subst ho
      have hE : Hid (E = if B then 0 else 6) := by show E = _; rw [HE.out, if_neg (by rw [← HN.out]; exact hlen)]; rfl
      go_enter Try.func20, Try.ntmps20
      go_wp2_with fail
      with_reducible refine c.mono ?_
      rintro e w' ⟨rfl, b1⟩
      go_wp2_with fail
      go_loopw [3] (fun i wr => ∃ k : Nat, 1 ≤ k ∧ (k ≤ N ∨ k = 1) ∧ i = .int .i64 k ∧ Hid (∀ j : Nat, j < k → 0 < j → (l.getD (j - 1) (0, 0)).1 < (l.getD j (0, 0)).1) ∧ Below w.heap.size w wr) (fun i _ => N - (intOf i).toNat)
      case atStart => exact ⟨1, by omega, .inr rfl, rfl, hidD (fun j h1 h2 => by omega), b1⟩
      case round =>
        obtain ⟨k, hk1, hk2, rfl, hc, hbl⟩ := hrel
        by_cases hlt : k < N
        · obtain ⟨a', cap', e1, _, _, h3, h4⟩ := HV.out.below hbl
          rw [← HN.out] at e1
          cases e1
          obtain ⟨g, off, rfl, hg, hcell⟩ := pseg_at (l := l) (by have := HN.out; omega) h3 h4
          obtain ⟨J, hJ⟩ : ∃ J, J = k - 1 := ⟨_, rfl⟩
          have Q1 := (hcell k (by have := HN.out; omega)).1
          have Q3 := (hcell J (by have := HN.out; omega)).1
          have HU : Hid (¬ (l.getD J (0, 0)).1 < (l.getD k (0, 0)).1 → B = false) := hidD (fun h => HS2.out k (by omega) (by have := HN.out; omega) (by rw [← hJ]; omega))
          have HN2 : Hid ((l.getD J (0, 0)).1 < (l.getD k (0, 0)).1 → ∀ j : Nat, j < k + 1 → 0 < j → (l.getD (j - 1) (0, 0)).1 < (l.getD j (0, 0)).1) := hidD (fun h j h1 h2 => by
            by_cases hj : j = k
            · subst hj; rw [← hJ]; exact h
            · exact hc.out j (by omega) h2)
          clear hcell h3 h4 HS1 HS2 c
          generalize (l.getD k (0, 0)).1 = x at *
          generalize (l.getD J (0, 0)).1 = y at *
          have i1 : (k : Int) < (N : Int) := by omega
          have i3 : (J : Int) < (N : Int) := by omega
          have i4 : IntKind.i64.wrap ((k : Int) - 1) = (J : Int) := by rw [IntKind.wrap_i64]; omega
          have HJ := hidD hJ
          clear hJ
          by_cases hz : y < x
          · have hc2 := hidD (HN2.out hz)
            have hd : decide (x ≤ y) = false := decide_eq_false (by omega)
            go_wp2_with fail
            go_quiet (fail)
            go_wp2
            exact ⟨⟨k + 1, by omega, .inl (by omega), by go_num, hc2, belowD_drewN hbl _⟩, by simp [intOf]; omega⟩
          · have HB := HU.out hz
            subst HB
            have HE2 : E = 6 := hE.out
            subst HE2
            have hd : x ≤ y := by omega
            go_wp2_with fail
            go_quiet (fail)
            go_wp2
            go_ret
            exact ⟨rfl, belowD_drewN hbl _⟩
        · have HB : B = true := HS1.out (fun i h0 h1 => hc.out i (by have := HN.out; omega) h0)
          subst HB
          have HE2 : E = 0 := hE.out
          subst HE2
          clear c
          go_wp2
          go_ret
          exact ⟨rfl, hbl⟩

set_option maxHeartbeats 1000000 in
theorem lrcheck_any (v : Value) (l : List Rp.Pt) (w : World) (hv : PSeg .i64 w v l) :
    Calls Try.prog 21 #[v] w fun e w' => e = .returned (.int .i64 (Lo.checkE l)) ∧ Below w.heap.size w w' := by
  obtain ⟨a, cap, rfl, h1, h2, h3, h4⟩ := id hv
  have HE : Hid (Lo.checkE l = if 32 < l.length then 3 else if l.any Lo.outside then 4 else if Rp.rises l then 0 else 6) := hidD rfl
  have HS1 := hidD (@rises_all l)
  have HS2 := hidD (@rises_not l)
  have HA := hidD (pany_take Lo.outside l)
  have HB := hidD (pany_at Lo.outside l)
  obtain ⟨N, hN⟩ : ∃ N, N = l.length := ⟨_, rfl⟩
  rw [← hN] at h1 ⊢
  unfold maxLen at h2
  have HN : Hid (N = l.length) := hN
  have HV := hidD hv
  generalize Lo.checkE l = E at *
  generalize hq : l.any Lo.outside = o at *
  generalize Rp.rises l = B at *
  have HQ := hidD hq
  clear hN hv h3 h4 hq
  by_cases hlen : 32 < N
  · have hE : E = 3 := by rw [HE.out, if_pos (by rw [← HN.out]; exact hlen)]
    subst hE
    go_enter Try.func21, Try.ntmps21
    go_wp2
    go_ret
    exact ⟨rfl, Below.refl _ _⟩
  · have hE : Hid (E = if o then 4 else if B then 0 else 6) := by show E = _; rw [HE.out, if_neg (by rw [← HN.out]; exact hlen)]
    clear HE
    go_enter Try.func21, Try.ntmps21
    go_wp2_with fail
    go_loopw [3] (fun i wr => ∃ k : Nat, k ≤ N ∧ i = .int .i64 k ∧ Hid ((l.take k).any Lo.outside = false) ∧ Below w.heap.size w wr) (fun i _ => N - (intOf i).toNat)
    case atStart => exact ⟨0, Nat.zero_le _, rfl, hidD rfl, Below.refl _ _⟩
    case round =>
      obtain ⟨k, hk, rfl, hc, hbl⟩ := hrel
      by_cases hlt : k < N
      · obtain ⟨a', cap', e1, _, _, h3, h4⟩ := HV.out.below hbl
        rw [← HN.out] at e1
        cases e1
        obtain ⟨g, off, rfl, hg, hcell⟩ := pseg_at (l := l) (by have := HN.out; omega) h3 h4
        obtain ⟨Q1, Q2⟩ := hcell k (by have := HN.out; omega)
        have HA2 := hidD (HA.out k (by have := HN.out; omega))
        have HB2 := hidD (HB.out k (by have := HN.out; omega))
        have HO := hidD (Lo.out_iff (l.getD k (0, 0)))
        clear hcell h3 h4 HS1 HS2 HA HB
        generalize l.getD k (0, 0) = x at *
        obtain ⟨x1, x2⟩ := x
        by_cases hx : x1 < 0 ∨ 2147483647 < x1 ∨ x2 < 0 ∨ 1048576 < x2
        · have ho : o = true := HB2.out (HO.out.2 hx)
          subst ho
          have HE2 : E = 4 := hE.out
          subst HE2
          by_cases d1 : x1 < 0
          · go_wp2
            go_ret
            exact ⟨rfl, hbl⟩
          · by_cases d2 : 2147483647 < x1
            · go_wp2
              go_ret
              exact ⟨rfl, hbl⟩
            · by_cases d3 : x2 < 0
              · go_wp2
                go_ret
                exact ⟨rfl, hbl⟩
              · have d4 : 1048576 < x2 := by omega
                go_wp2
                go_ret
                exact ⟨rfl, hbl⟩
        · have hc2 : Hid ((l.take (k + 1)).any Lo.outside = false) := by
            show (l.take (k + 1)).any Lo.outside = false
            rw [HA2.out, hc.out]
            rw [← Bool.not_eq_true]
            intro h
            exact hx (HO.out.1 (by simpa using h))
          have d1 : ¬ x1 < 0 := by omega
          have d2 : ¬ 2147483647 < x1 := by omega
          have d3 : ¬ x2 < 0 := by omega
          have d4 : ¬ 1048576 < x2 := by omega
          go_wp2
          exact ⟨⟨k + 1, by omega, by go_num, hc2, hbl⟩, by simp [intOf]; omega⟩
      · have hke : l.take k = l := List.take_of_length_le (by have := HN.out; omega)
        rw [hke, HQ.out] at hc
        have ho : o = false := hc.out
        subst ho
        have hE3 : Hid (E = if B then 0 else 6) := by show E = _; rw [hE.out]; rfl
        clear hE hke HA HB HQ hc
        go_wp2_with fail
        go_loopw [4] (fun i wr => ∃ k : Nat, 1 ≤ k ∧ (k ≤ N ∨ k = 1) ∧ i = .int .i64 k ∧ Hid (∀ j : Nat, j < k → 0 < j → (l.getD (j - 1) (0, 0)).1 < (l.getD j (0, 0)).1) ∧ Below w.heap.size w wr) (fun i _ => N - (intOf i).toNat)
        case atStart => exact ⟨1, by omega, .inr rfl, rfl, hidD (fun j h1 h2 => by omega), hbl⟩
        case round =>
          clear hbl
          obtain ⟨k, hk1, hk2, rfl, hc, hbl⟩ := hrel
          by_cases hlt : k < N
          · obtain ⟨a', cap', e1, _, _, h3, h4⟩ := HV.out.below hbl
            rw [← HN.out] at e1
            cases e1
            obtain ⟨g, off, rfl, hg, hcell⟩ := pseg_at (l := l) (by have := HN.out; omega) h3 h4
            obtain ⟨J, hJ⟩ : ∃ J, J = k - 1 := ⟨_, rfl⟩
            have Q1 := (hcell k (by have := HN.out; omega)).1
            have Q3 := (hcell J (by have := HN.out; omega)).1
            have HU : Hid (¬ (l.getD J (0, 0)).1 < (l.getD k (0, 0)).1 → B = false) := hidD (fun h => HS2.out k (by omega) (by have := HN.out; omega) (by rw [← hJ]; omega))
            have HN2 : Hid ((l.getD J (0, 0)).1 < (l.getD k (0, 0)).1 → ∀ j : Nat, j < k + 1 → 0 < j → (l.getD (j - 1) (0, 0)).1 < (l.getD j (0, 0)).1) := hidD (fun h j h1 h2 => by
              by_cases hj : j = k
              · subst hj; rw [← hJ]; exact h
              · exact hc.out j (by omega) h2)
            clear hcell h3 h4 HS1 HS2
            generalize (l.getD k (0, 0)).1 = x at *
            generalize (l.getD J (0, 0)).1 = y at *
            have i1 : (k : Int) < (N : Int) := by omega
            have i3 : (J : Int) < (N : Int) := by omega
            have i4 : IntKind.i64.wrap ((k : Int) - 1) = (J : Int) := by rw [IntKind.wrap_i64]; omega
            have HJ := hidD hJ
            clear hJ
            by_cases hz : y < x
            · have hc2 := hidD (HN2.out hz)
              have hd : decide (x ≤ y) = false := decide_eq_false (by omega)
              go_wp2_with fail
              go_quiet (fail)
              go_wp2
              exact ⟨⟨k + 1, by omega, .inl (by omega), by go_num, hc2, belowD_drewN hbl _⟩, by simp [intOf]; omega⟩
            · have HB := HU.out hz
              subst HB
              have HE2 : E = 6 := hE3.out
              subst HE2
              have hd : x ≤ y := by omega
              go_wp2_with fail
              go_quiet (fail)
              go_wp2
              go_ret
              exact ⟨rfl, belowD_drewN hbl _⟩
          · have HB : B = true := HS1.out (fun i h0 h1 => hc.out i (by have := HN.out; omega) h0)
            subst HB
            have HE2 : E = 0 := hE3.out
            subst HE2
            go_wp2
            go_ret
            exact ⟨rfl, hbl⟩

theorem lpeopled_any (v : Value) (l : List Rp.Pt) (w : World) (hv : PSeg .i64 w v l) :
    Calls Try.prog 26 #[v] w fun e w' => e = .returned (.int .i64 (Lo.peopledE l)) ∧ Below w.heap.size w w' := by
  have c := lcheck_any v l w hv
  obtain ⟨a, cap, rfl, h1, h2, h3, h4⟩ := id hv
  have HE : Hid (Lo.peopledE l = if Lo.checkE l ≠ 0 then Lo.checkE l else if l.length = 0 then 71 else 0) := hidD rfl
  obtain ⟨N, hN⟩ : ∃ N, N = l.length := ⟨_, rfl⟩
  rw [← hN] at h1 c HE ⊢
  unfold maxLen at h2
  generalize Lo.peopledE l = E at *
  generalize Lo.checkE l = C at *
  clear hN hv h3 h4
  by_cases hc : C = 0
  · subst hc
    have HE2 : Hid (E = if N = 0 then 71 else 0) := hidD (by rw [HE.out, if_neg (by simp)])
    clear HE
    by_cases h0 : N = 0
    · have hE : E = 71 := by rw [HE2.out, if_pos h0]
      subst hE
      subst h0
      go_enter Try.func26, Try.ntmps26
      go_wp2_with fail
      with_reducible refine c.mono ?_
      rintro e w' ⟨rfl, b1⟩
      go_wp2
      go_ret
      exact ⟨rfl, b1⟩
    · have hE : E = 0 := by rw [HE2.out, if_neg h0]
      subst hE
      have hb0 : ((N : Int) == 0) = false := by simp; omega
      go_enter Try.func26, Try.ntmps26
      go_wp2_with fail
      with_reducible refine c.mono ?_
      rintro e w' ⟨rfl, b1⟩
      go_wp2
      go_ret
      exact ⟨rfl, b1⟩
  · have hE : E = C := by rw [HE.out, if_pos hc]
    subst hE
    have hb0 : (E == 0) = false := by simp; omega
    clear HE
    go_enter Try.func26, Try.ntmps26
    go_wp2_with fail
    with_reducible refine c.mono ?_
    rintro e w' ⟨rfl, b1⟩
    go_wp2
    go_ret
    exact ⟨rfl, b1⟩
end Go.Proofs.Ytcpcnajifdicmaa
