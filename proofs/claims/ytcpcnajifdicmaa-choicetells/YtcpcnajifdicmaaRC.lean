/- ring: slices of backends and of points; what is outside, what stands behind; ContainsFunc, IsSortedFunc. -/
import Derived.Test.YtcpcnajifdicmaaRB
import Derived.Shelf.SlSorted.Search
namespace Go.Proofs.Ytcpcnajifdicmaa
open Go.RowKit Go.Sort

def PSeg (k : IntKind) (w : World) (v : Value) (l : List Rp.Pt) : Prop :=
  ∃ (a : Option Addr) (cap : Nat), v = .slice a l.length cap ∧ l.length ≤ cap ∧ cap ≤ maxLen ∧ (a = none → l = [] ∧ cap = 0) ∧
    ∀ g off ar, a = some ⟨g, off, ar⟩ → 0 < l.length → ar = none ∧ g < w.heap.size ∧ ∀ i, i < l.length → w.cell? ⟨g, off + i * 2, none⟩ = some (.int k (l.getD i (0, 0)).1) ∧ w.cell? ⟨g, off + i * 2 + 1, none⟩ = some (.int .i64 (l.getD i (0, 0)).2)

theorem PSeg.below {k : IntKind} {w w' : World} {v : Value} {l : List Rp.Pt} (h : PSeg k w v l) (hb : Below w.heap.size w w') : PSeg k w' v l := by
  obtain ⟨a, cap, h1, h2, h3, h4, h5⟩ := h
  refine ⟨a, cap, h1, h2, h3, h4, fun g off ar ha h0 => ?_⟩
  obtain ⟨k1, k2, k3⟩ := h5 g off ar ha h0
  refine ⟨k1, Nat.lt_of_lt_of_le k2 hb.size, fun i hi => ?_⟩
  obtain ⟨q1, q2⟩ := k3 i hi
  exact ⟨(hb.cell k2).trans q1, (hb.cell k2).trans q2⟩
theorem PSeg.nil (k : IntKind) (w : World) : PSeg k w (.slice none 0 0) [] := ⟨none, 0, rfl, Nat.le_refl _, Nat.zero_le _, fun _ => ⟨rfl, rfl⟩, fun g off ar ha => by cases ha⟩

/-- Where there is one, where they lie. -/
theorem pseg_at {k : IntKind} {w : World} {a : Option Addr} {cap : Nat} {l : List Rp.Pt} (h0 : 0 < l.length) (h3 : a = none → l = [] ∧ cap = 0)
    (h4 : ∀ g off ar, a = some ⟨g, off, ar⟩ → 0 < l.length → ar = none ∧ g < w.heap.size ∧ ∀ i, i < l.length → w.cell? ⟨g, off + i * 2, none⟩ = some (.int k (l.getD i (0, 0)).1) ∧ w.cell? ⟨g, off + i * 2 + 1, none⟩ = some (.int .i64 (l.getD i (0, 0)).2)) :
    ∃ g off, a = some ⟨g, off, none⟩ ∧ g < w.heap.size ∧ ∀ i, i < l.length → w.cell? ⟨g, off + i * 2, none⟩ = some (.int k (l.getD i (0, 0)).1) ∧ w.cell? ⟨g, off + i * 2 + 1, none⟩ = some (.int .i64 (l.getD i (0, 0)).2) := by
  rcases a with _ | ⟨g, off, ar⟩
  · have := (h3 rfl).1; subst this; simp at h0
  · obtain ⟨rfl, q2, q3⟩ := h4 g off ar rfl h0
    exact ⟨g, off, rfl, q2, q3⟩

theorem pgetD_at {l : List Rp.Pt} {i : Nat} (h : i < l.length) : l.getD i (0, 0) = l[i] := by simp [List.getD, h]
theorem pany_take (f : Rp.Pt → Bool) (l : List Rp.Pt) (k : Nat) (h : k < l.length) : (l.take (k + 1)).any f = ((l.take k).any f || f (l.getD k (0, 0))) := by
  rw [List.take_succ_eq_append_getElem h]
  simp only [List.any_append, List.any_cons, List.any_nil, Bool.or_false, pgetD_at h]
theorem pany_at (f : Rp.Pt → Bool) (l : List Rp.Pt) (k : Nat) (h : k < l.length) (hf : f (l.getD k (0, 0)) = true) : l.any f = true := by
  rw [List.any_eq_true]
  exact ⟨l.getD k (0, 0), by rw [pgetD_at h]; exact List.getElem_mem _, hf⟩

theorem neg_any (x y : Int) (w : World) : Calls Try.prog 60 #[.agg #[.int .u64 x, .int .i64 y]] w fun e w' => e = .returned (.bool (decide (y < 0))) ∧ Below w.heap.size w w' := by
  have hb : Below w.heap.size w (w.alloc (.cells #[.int .u64 x, .int .i64 y] 79)) := (Below.refl _ _).alloc (Nat.le_refl _) _
  go_enter Try.func60, Try.ntmps60
  go_wp2
  go_ret
  exact ⟨rfl, hb⟩
/-- Does a point stand behind another one? -/
theorem behind_any (x1 x2 y1 y2 : Int) (w : World) : Calls Try.prog 43 #[.agg #[.int .u64 x1, .int .i64 x2], .agg #[.int .u64 y1, .int .i64 y2]] w fun e w' => e = .returned (.bool (Rp.lt (y1, y2) (x1, x2))) ∧ ∃ os', w' = grow w os' := by
  have hd : Rp.lt (y1, y2) (x1, x2) = (decide (y1 < x1) || (decide (y1 = x1) && decide (y2 < x2))) := rfl
  rw [hd]
  have hb : ∀ o o', ∃ os', (w.alloc o).alloc o' = grow w os' := fun o o' => ⟨#[o, o'], by rw [alloc_eq_grow, alloc_eq_grow, grow_grow]; rfl⟩
  clear hd
  by_cases h1 : y1 < x1
  · have hr : (decide (y1 < x1) || (decide (y1 = x1) && decide (y2 < x2))) = true := by simp [h1]
    rw [hr]
    clear hr
    go_enter Try.func43, Try.ntmps43
    go_wp2
    go_ret
    exact ⟨rfl, hb _ _⟩
  · by_cases h2 : y1 = x1
    · subst h2
      have hr : (decide (y1 < y1) || (decide (y1 = y1) && decide (y2 < x2))) = decide (y2 < x2) := by simp
      rw [hr]
      clear hr h1
      go_enter Try.func43, Try.ntmps43
      go_wp2
      go_ret
      exact ⟨rfl, hb _ _⟩
    · have hr : (decide (y1 < x1) || (decide (y1 = x1) && decide (y2 < x2))) = false := by simp [h1, h2]
      have h3 : (x1 == y1) = false := by simp; omega
      rw [hr]
      clear hr
      go_enter Try.func43, Try.ntmps43
      go_wp2
      go_ret
      exact ⟨rfl, hb _ _⟩

theorem indexP_any (ft : Nat) (hen : ∀ (args : Array Value) (w' : World), (callFunc ft args).run Try.prog w' = .ok (.enter ft args) w') (P : Rp.Pt → Bool) (v : Value) (l : List Rp.Pt) (w : World) (hv : PSeg .u64 w v l)
    (ht : ∀ (x y : Int) (w : World), Calls Try.prog ft #[.agg #[.int .u64 x, .int .i64 y]] w fun e w' => e = .returned (.bool (P (x, y))) ∧ Below w.heap.size w w') :
    Calls Try.prog 67 #[v, .func (.func ft) #[] #[]] w fun e w' => ∃ r : Int, e = .returned (.int .i64 r) ∧ (decide (0 ≤ r) = l.any P) ∧ Below w.heap.size w w' := by
  obtain ⟨a, cap, rfl, h1, h2, h3, h4⟩ := id hv
  obtain ⟨N, hN⟩ : ∃ N, N = l.length := ⟨_, rfl⟩
  rw [← hN] at h1 ⊢
  unfold maxLen at h2
  have HN : Hid (N = l.length) := hN
  have HV := hidD hv
  clear hN hv h3 h4
  go_enter Try.func67, Try.ntmps67
  go_wp2_with fail
  go_loopw [8] (fun i wr => ∃ k : Nat, k ≤ N ∧ i = .int .i64 k ∧ Hid ((l.take k).any P = false) ∧ Below w.heap.size w wr) (fun i _ => N - (intOf i).toNat)
  case atStart => exact ⟨0, Nat.zero_le _, rfl, by simp [Hid], Below.refl _ _⟩
  case round =>
    obtain ⟨k, hk, rfl, hc, hbl⟩ := hrel
    by_cases hlt : k < N
    · obtain ⟨a', cap', e1, _, _, h3, h4⟩ := HV.out.below hbl
      rw [← HN.out] at e1
      cases e1
      obtain ⟨g, off, rfl, hg, hcell⟩ := pseg_at (l := l) (by have := HN.out; omega) h3 h4
      obtain ⟨Q1, Q2⟩ := hcell k (by have := HN.out; omega)
      have hb := ht (l.getD k (0, 0)).1 (l.getD k (0, 0)).2 wr
      have HT := hidD (pany_take P l k (by have := HN.out; omega))
      have HA := hidD (pany_at P l k (by have := HN.out; omega))
      rw [Prod.eta] at hb
      clear hcell h3 h4 ht
      generalize l.getD k (0, 0) = x at *
      by_cases hq : P x = true
      · rw [hq] at hb
        go_wp2_with fail
        refine hb.mono ?_
        rintro e w2 ⟨rfl, b2⟩
        go_wp2
        go_ret
        exact ⟨_, rfl, by rw [HA.out hq]; exact decide_eq_true (by omega), Below.step hbl b2⟩
      · rw [Bool.not_eq_true] at hq
        rw [hq] at hb
        go_wp2_with fail
        refine hb.mono ?_
        rintro e w2 ⟨rfl, b2⟩
        have hc2 : Hid ((l.take (k + 1)).any P = false) := by
          show (l.take (k + 1)).any P = false
          rw [HT.out, hc.out, hq]
          rfl
        have b3 := Below.step hbl b2
        clear hb hq hbl b2
        go_wp2
        exact ⟨⟨k + 1, by omega, by go_num, hc2, b3⟩, by simp [intOf]; omega⟩
    · have hke : l.take k = l := List.take_of_length_le (by have := HN.out; omega)
      rw [hke] at hc
      clear hke ht
      go_wp2
      go_ret
      exact ⟨_, rfl, by rw [hc.out]; rfl, hbl⟩

theorem containsP_any (ft : Nat) (hen : ∀ (args : Array Value) (w' : World), (callFunc ft args).run Try.prog w' = .ok (.enter ft args) w') (P : Rp.Pt → Bool) (v : Value) (l : List Rp.Pt) (w : World) (hv : PSeg .u64 w v l)
    (ht : ∀ (x y : Int) (w : World), Calls Try.prog ft #[.agg #[.int .u64 x, .int .i64 y]] w fun e w' => e = .returned (.bool (P (x, y))) ∧ Below w.heap.size w w') :
    Calls Try.prog 61 #[v, .func (.func ft) #[] #[]] w fun e w' => e = .returned (.bool (l.any P)) ∧ Below w.heap.size w w' := by
  have c := indexP_any ft hen P v l w hv ht
  clear ht hv
  generalize l.any P = b at *
  go_enter Try.func61, Try.ntmps61
  go_wp2_with fail
  refine c.mono ?_
  rintro e w' ⟨r, rfl, hr, b1⟩
  subst hr
  go_wp2
  go_ret
  exact ⟨rfl, b1⟩

theorem pbelow_grown (w : World) (n : Nat) (os : Array Obj) : Below w.heap.size w (grow (w.drewN n) os) := by
  exact below_grown_sl _ w n os (Nat.le_refl _)

theorem psorted_take (l : List Rp.Pt) (k : Nat) (hs : ∀ i, k + 1 < i → i < l.length → Rp.lt (l.getD i (0, 0)) (l.getD (i - 1) (0, 0)) = false) (h : Rp.lt (l.getD (k + 1) (0, 0)) (l.getD k (0, 0)) = false) :
    ∀ i, k < i → i < l.length → Rp.lt (l.getD i (0, 0)) (l.getD (i - 1) (0, 0)) = false := by
  intro i h1 h2
  by_cases hi : i = k + 1
  · subst hi; exact h
  · exact hs i (by omega) h2
theorem psorted_all {l : List Rp.Pt} (hs : ∀ i, 0 < i → i < l.length → Rp.lt (l.getD i (0, 0)) (l.getD (i - 1) (0, 0)) = false) : Rp.sorted l = true := by
  unfold Rp.sorted
  rw [List.all_eq_true]
  intro i hi
  rw [List.mem_range] at hi
  rcases Nat.eq_zero_or_pos i with rfl | h0
  · simp
  · rw [hs i h0 hi]; simp
theorem psorted_not {l : List Rp.Pt} (i : Nat) (h0 : 0 < i) (h1 : i < l.length) (h : Rp.lt (l.getD i (0, 0)) (l.getD (i - 1) (0, 0)) = true) : Rp.sorted l = false := by
  rw [← Bool.not_eq_true]
  intro hs
  unfold Rp.sorted at hs
  rw [List.all_eq_true] at hs
  have := hs i (List.mem_range.2 h1)
  rw [h] at this
  simp at this
  omega

theorem isSorted_any (v : Value) (l : List Rp.Pt) (w : World) (hv : PSeg .u64 w v l) :
    Calls Try.prog 62 #[v, .func (.func 63) #[] #[]] w fun e w' => e = .returned (.bool (Rp.sorted l)) ∧ Below w.heap.size w w' := by
  obtain ⟨a, cap, rfl, h1, h2, h3, h4⟩ := id hv
  obtain ⟨N, hN⟩ : ∃ N, N = l.length := ⟨_, rfl⟩
  rw [← hN] at h1 ⊢
  unfold maxLen at h2
  have HN : Hid (N = l.length) := hN
  have HV := hidD hv
  have HS1 := hidD (@psorted_all l)
  have HS2 := hidD (@psorted_not l)
  have HT := hidD (psorted_take l)
  obtain ⟨B, hB⟩ : ∃ B, B = Rp.sorted l := ⟨_, rfl⟩
  rw [← hB] at HS1 HS2 ⊢
  clear hN hv h3 h4 hB
  go_enter Try.func62, Try.ntmps62
  go_wp2_with fail
  go_loopw [5] (fun i wr => ∃ k : Int, -1 ≤ k ∧ k < N ∧ i = .int .i64 k ∧ Hid (∀ j : Nat, k < (j : Int) → j < l.length → 0 < j → Rp.lt (l.getD j (0, 0)) (l.getD (j - 1) (0, 0)) = false) ∧ Below w.heap.size w wr) (fun i _ => (intOf i).toNat)
  case atStart => exact ⟨(N : Int) - 1, by omega, by omega, by go_num, hidD (fun j h1 h2 => by have := HN.out; omega), Below.refl _ _⟩
  case round =>
    obtain ⟨k, hk1, hk2, rfl, hc, hbl⟩ := hrel
    by_cases hlt : 0 < k
    · obtain ⟨K, rfl⟩ : ∃ K : Nat, k = (K : Int) := ⟨k.toNat, by omega⟩
      obtain ⟨a', cap', e1, _, _, h3, h4⟩ := HV.out.below hbl
      rw [← HN.out] at e1
      cases e1
      obtain ⟨g, off, rfl, hg, hcell⟩ := pseg_at (l := l) (by have := HN.out; omega) h3 h4
      obtain ⟨Q1, Q2⟩ := hcell K (by have := HN.out; omega)
      obtain ⟨Q3, Q4⟩ := hcell (K - 1) (by have := HN.out; omega)
      have hb := fun W => order_any (l.getD K (0, 0)) (l.getD (K - 1) (0, 0)) W
      have HL := hidD (Rp.cf_lt (l.getD K (0, 0)) (l.getD (K - 1) (0, 0)))
      have HU : Hid (Rp.lt (l.getD K (0, 0)) (l.getD (K - 1) (0, 0)) = true → B = false) := hidD (fun h => HS2.out K (by omega) (by have := HN.out; omega) h)
      have HN2 : Hid (Rp.lt (l.getD K (0, 0)) (l.getD (K - 1) (0, 0)) = false → (∀ j : Nat, (K : Int) - 1 < (j : Int) → j < l.length → 0 < j → Rp.lt (l.getD j (0, 0)) (l.getD (j - 1) (0, 0)) = false)) := hidD (fun h j h1 h2 h3 => by
        by_cases hj : j = K
        · subst hj; exact h
        · exact hc.out j (by omega) h2 h3)
      clear hcell h3 h4
      generalize l.getD K (0, 0) = x at *
      generalize l.getD (K - 1) (0, 0) = y at *
      generalize Rp.cf x y = z at *
      have mixed : Try.prog.follows .mixedOrders = true := by kernel_rfl
      obtain ⟨J, hJ⟩ : ∃ J, J = K - 1 := ⟨_, rfl⟩
      rw [← hJ] at Q3 Q4
      have Q1' : ∀ n os, (grow (wr.drewN n) os).cell? ⟨g, off + K * 2, none⟩ = some (.int .u64 x.1) := fun n os => cell_grown hg Q1 n os
      have Q2' : ∀ n os, (grow (wr.drewN n) os).cell? ⟨g, off + K * 2 + 1, none⟩ = some (.int .i64 x.2) := fun n os => cell_grown hg Q2 n os
      have Q3' : ∀ n os, (grow (wr.drewN n) os).cell? ⟨g, off + J * 2, none⟩ = some (.int .u64 y.1) := fun n os => cell_grown hg Q3 n os
      have Q4' : ∀ n os, (grow (wr.drewN n) os).cell? ⟨g, off + J * 2 + 1, none⟩ = some (.int .i64 y.2) := fun n os => cell_grown hg Q4 n os
      have i1 : (K : Int) < (N : Int) := hk2
      have i3 : (J : Int) < (N : Int) := by omega
      have i4 : IntKind.i64.wrap ((K : Int) - 1) = (J : Int) := by rw [IntKind.wrap_i64]; omega
      have HJ := hidD hJ
      clear hJ
      by_cases hz : z < 0
      · have HB := HU.out (by rw [← HL.out]; simpa using hz)
        subst HB
        go_wp2_with fail
        go_quiet_grown (first | (go_at_call 63; exact Calls.grown_of (hb _)) | exact Calls.grown_of (hb _))
        go_wp2
        go_ret
        exact ⟨rfl, Below.step hbl (pbelow_grown _ _ _)⟩
      · have hc2 := hidD (HN2.out (by rw [← HL.out]; simpa using hz))
        go_wp2_with fail
        go_quiet_grown (first | (go_at_call 63; exact Calls.grown_of (hb _)) | exact Calls.grown_of (hb _))
        have b3 := Below.step hbl (pbelow_grown wr nq osq)
        clear hb hbl Q1 Q2 Q3 Q4 Q1' Q2' Q3' Q4'
        generalize grow (wr.drewN nq) osq = w3 at *
        go_wp2
        have hJ := HJ.out
        exact ⟨⟨(J : Int), by omega, by omega, by go_num, hidD (fun j h1 => hc2.out j (by omega)), b3⟩, by simp [intOf]; omega⟩
    · have HB : B = true := HS1.out (fun i h0 h1 => hc.out i (by omega) h1 h0)
      subst HB
      go_wp2
      go_ret
      exact ⟨rfl, hbl⟩
end Go.Proofs.Ytcpcnajifdicmaa
