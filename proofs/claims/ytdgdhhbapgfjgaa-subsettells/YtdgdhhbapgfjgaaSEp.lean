/- subset: whole rounds are even, plainly. -/
import Derived.Test.YtdgdhhbapgfjgaaSC1
import Derived.Test.YtdgdhhbapgfjgaaSAp
namespace Go.Proofs.Ytdgdhhbapgfjgaa

def Sp.sm (f : Nat → Nat) (q : Nat) : Nat := ((List.range q).map f).sum
theorem Sp.sm_succ (f : Nat → Nat) (q : Nat) : Sp.sm f (q + 1) = Sp.sm f q + f q := by
  unfold Sp.sm
  rw [List.range_succ, List.map_append, List.sum_append]
  simp
theorem Sp.sm_add (f : Nat → Nat) (a b : Nat) : Sp.sm f (a + b) = Sp.sm f a + Sp.sm (fun d => f (a + d)) b := by
  induction b with
  | zero => simp [Sp.sm]
  | succ b ih => rw [← Nat.add_assoc, Sp.sm_succ, ih, Sp.sm_succ, Nat.add_assoc]
theorem Sp.sm_plus (f g : Nat → Nat) (q : Nat) : Sp.sm (fun i => f i + g i) q = Sp.sm f q + Sp.sm g q := by
  induction q with
  | zero => simp [Sp.sm]
  | succ q ih => rw [Sp.sm_succ, Sp.sm_succ, Sp.sm_succ, ih]; omega
theorem Sp.sm_none (f : Nat → Nat) (q : Nat) (h : ∀ d, d < q → f d = 0) : Sp.sm f q = 0 := by
  induction q with
  | zero => simp [Sp.sm]
  | succ q ih => rw [Sp.sm_succ, ih (fun d hd => h d (by omega)), h q (by omega)]
theorem Sp.sm_one (f : Nat → Nat) (q : Nat) (h1 : ∀ d, d < q → f d ≤ 1) (h2 : ∀ d e, d < e → e < q → f d = 0 ∨ f e = 0) : Sp.sm f q ≤ 1 := by
  induction q with
  | zero => simp [Sp.sm]
  | succ q ih =>
    rw [Sp.sm_succ]
    by_cases h : f q = 0
    · have := ih (fun d hd => h1 d (by omega)) (fun d e hd he => h2 d e hd (by omega))
      omega
    · rw [Sp.sm_none f q (fun d hd => by rcases h2 d q hd (by omega) with g | g; exact g; exact absurd g h)]
      have := h1 q (by omega)
      omega
theorem Sp.sm_at (a q : Nat) (ha : a < q) : Sp.sm (fun i => if (a : Int) = (i : Int) then 1 else 0) q = 1 := by
  induction q with
  | zero => omega
  | succ q ih =>
    rw [Sp.sm_succ]
    by_cases h : a = q
    · subst h
      rw [if_pos rfl, Sp.sm_none _ _ (fun d hd => by rw [if_neg (by omega)])]
    · rw [ih (by omega), if_neg (by omega)]
theorem Sp.up_count {l : List Int} (h : Sp.Up l) (x : Int) : l.count x ≤ 1 := by
  induction l with
  | nil => simp
  | cons a l ih =>
    have h' := List.pairwise_cons.1 h
    rw [List.count_cons]
    by_cases hx : a = x
    · subst hx
      rw [List.count_eq_zero.2 (fun hm => by have := h'.1 a hm; omega)]
      simp
    · have := ih h'.2
      simp [hx]
      exact this
theorem Sp.sm_count (n : Nat) (l : List Int) (h : ∀ z ∈ l, 0 ≤ z ∧ z < n) : Sp.sm (fun i => l.count (i : Int)) n = l.length := by
  induction l with
  | nil => exact Sp.sm_none _ _ (fun d hd => by simp)
  | cons a l ih =>
    have ha := h a (by simp)
    obtain ⟨b, rfl⟩ := Int.eq_ofNat_of_zero_le ha.1
    have e : (fun i : Nat => ((b : Int) :: l).count (i : Int)) = fun i : Nat => l.count (i : Int) + (if (b : Int) = (i : Int) then 1 else 0) := by
      funext i
      rw [List.count_cons]
      simp
    rw [e, Sp.sm_plus, ih (fun z hz => h z (List.mem_cons_of_mem _ hz)), Sp.sm_at b n (by omega), List.length_cons]
theorem Sp.cn_sm (P : Nat → List Int) (m i : Nat) : Sp.cn P m i = Sp.sm (fun c => (P c).count (i : Int)) m := rfl
theorem Sp.cn_all (P : Nat → List Int) (n k m : Nat) (h : ∀ c, c < m → (P c).length = k ∧ ∀ z ∈ P c, 0 ≤ z ∧ z < n) : Sp.sm (fun i => Sp.cn P m i) n = m * k := by
  induction m with
  | zero => rw [Sp.sm_none _ _ (fun d hd => by simp [Sp.cn])]; simp
  | succ m ih =>
    have e : (fun i : Nat => Sp.cn P (m + 1) i) = fun i => Sp.cn P m i + (P m).count (i : Int) := by
      funext i; exact Sp.cn_succ P m i
    rw [e, Sp.sm_plus, ih (fun c hc => h c (by omega)), Sp.sm_count n _ (h m (by omega)).2, (h m (by omega)).1, Nat.succ_mul]
theorem Sp.cn_even (P : Nat → List Int) (q R i : Nat) (h1 : ∀ c, c < R * q → (P c).count (i : Int) ≤ 1) (h2 : ∀ r d e, r < R → d < e → e < q → ¬ ((i : Int) ∈ P (r * q + d) ∧ (i : Int) ∈ P (r * q + e))) : Sp.cn P (R * q) i ≤ R := by
  induction R with
  | zero => simp [Sp.cn]
  | succ R ih =>
    have := ih (fun c hc => h1 c (by rw [Nat.succ_mul]; omega)) (fun r d e hr => h2 r d e (by omega))
    rw [Sp.cn_sm] at this ⊢
    rw [Nat.succ_mul, Sp.sm_add]
    have h3 : Sp.sm (fun d => (P (R * q + d)).count (i : Int)) q ≤ 1 := by
      refine Sp.sm_one _ _ (fun d hd => h1 _ (by rw [Nat.succ_mul]; omega)) (fun d e hd he => ?_)
      by_cases g : (i : Int) ∈ P (R * q + d)
      · right
        exact List.count_eq_zero.2 (fun g2 => h2 R d e (by omega) hd he ⟨g, g2⟩)
      · left
        exact List.count_eq_zero.2 g
    omega
theorem Sp.sm_list (f : Nat → Nat) (n : Nat) : ((List.range n).map fun i => (f i : Int)).sum = (Sp.sm f n : Nat) := by
  induction n with
  | zero => simp [Sp.sm]
  | succ n ih => rw [List.range_succ, List.map_append, List.sum_append, ih, Sp.sm_succ]; simp

theorem Sp.even {ids : List Int} {k : Nat} {R : Nat} (s : Nat) (hR : R ≤ 5) (hk : 1 ≤ k) (hkn : k < ids.length) (hn : ids.length ≤ 32) (h : Sp.cntE ids ((R * (ids.length / k) : Nat) : Int) (k : Int) = 0) :
    (∀ z ∈ Sp.cntL ids ((R * (ids.length / k) : Nat) : Int) k s, 0 ≤ z ∧ z ≤ R) ∧ (Sp.cntL ids ((R * (ids.length / k) : Nat) : Int) k s).sum = ((R * (ids.length / k) : Nat) : Int) * k := by
  have hq1 : 1 ≤ ids.length / k := (Nat.le_div_iff_mul_le (by omega)).2 (by omega)
  have hq2 : ids.length / k ≤ 32 := Nat.le_trans (Nat.div_le_self _ _) hn
  have hqi : ((ids.length : Nat) : Int) / (k : Int) = ((ids.length / k : Nat) : Int) := rfl
  obtain ⟨N, hN⟩ : ∃ N, N = ids.length := ⟨_, rfl⟩
  rw [← hN] at hq1 hq2 hqi hkn hn h ⊢
  obtain ⟨q, hq⟩ : ∃ q, q = N / k := ⟨_, rfl⟩
  rw [← hq] at hq1 hq2 hqi h ⊢
  have hm : R * q ≤ 160 := by
    have : R * q ≤ 5 * 32 := Nat.mul_le_mul hR hq2
    omega
  have hr : ∀ c : Nat, c < R * q → Sp.rE N c k = 0 := by
    intro c hc
    unfold Sp.rE
    rw [if_neg (by unfold Sp.bad; omega)]
  have hRR : ∀ r d : Nat, d < q → Sp.rE N ((r * q + d : Nat) : Int) k = 0 → Sp.rR N ((r * q + d : Nat) : Int) k = r := by
    intro r d hd h0
    unfold Sp.rE at h0
    split at h0
    · cases h0
    · rename_i hb
      unfold Sp.rR
      rw [if_neg hb, if_neg (by omega), hqi]
      have : (r * q + d) / q = r := by
        rw [Nat.mul_comm, Nat.mul_add_div (by omega), Nat.div_eq_of_lt hd, Nat.add_zero]
      exact congrArg Int.ofNat this
  have hL : Sp.cntL ids ((R * q : Nat) : Int) k s = (List.range N).map fun i => (Sp.cn (fun c => Sp.plc N c k s) (R * q) i : Int) := by
    unfold Sp.cntL; rw [if_pos h, ← hN]; rfl
  rw [hL]
  constructor
  · intro z hz
    obtain ⟨i, hi, rfl⟩ := List.mem_map.1 hz
    refine ⟨Int.natCast_nonneg _, Int.ofNat_le.2 (Sp.cn_even _ q R i (fun c hc => Sp.up_count (Sp.plc_up _ _ _ _) _) ?_)⟩
    rintro r d e hr' hd he ⟨g1, g2⟩
    have hb : r * q + q ≤ R * q := by
      have : (r + 1) * q ≤ R * q := Nat.mul_le_mul_right q hr'
      rw [Nat.succ_mul] at this
      exact this
    have e1 := hr (r * q + d) (by omega)
    have e2 := hr (r * q + e) (by omega)
    exact Sp.plc_apart s e1 e2 (by omega) (by omega) ((hRR r d (by omega) e1).trans (hRR r e he e2).symm) g1 g2
  · rw [Sp.sm_list, Sp.cn_all _ N k (R * q) (fun c hc => ⟨?_, fun z hz => Sp.plc_mem hz⟩)]
    · exact Int.natCast_mul _ _
    · rw [Sp.plc_length s (hr c hc)]
      omega
theorem Sp.sum_take {l : List Int} {t : Nat} (ht : t < l.length) : (l.take (t + 1)).sum = (l.take t).sum + l.getD t 0 := by
  rw [List.take_succ_eq_append_getElem ht, List.sum_append, dgetD_at ht]
  simp
theorem Sp.rounds6 (r : Int) : ∃ R : Nat, R ≤ 5 ∧ (r.tmod 6 + 6).tmod 6 = (R : Int) ∧ -5 ≤ r.tmod 6 ∧ r.tmod 6 ≤ 5 := by
  have h1 := Int.tmod_lt_of_pos r (show (0 : Int) < 6 by decide)
  have h2 := Int.lt_tmod_of_pos r (show (0 : Int) < 6 by decide)
  generalize r.tmod 6 = x at *
  rw [Int.tmod_eq_emod_of_nonneg (by omega)]
  exact ⟨((x + 6) % 6).toNat, by omega, by omega, by omega, by omega⟩
end Go.Proofs.Ytdgdhhbapgfjgaa
