/- histo, plainly: buckets, tops, counts, quantiles. -/
import Derived.Test.YthdaldgmolhljaaPlain
namespace Go.Proofs.Ythdaldgmolhljaa
set_option linter.unusedVariables false
set_option linter.unusedSimpArgs false

/-- The greatest number of a bucket. -/
def Hi.topN (b : Nat) : Nat := if b < 16 then b else if b = 80 then 1048576 else 2 ^ (4 + (b - 16) / 4) + ((b - 16) % 4 + 1) * 2 ^ (4 + (b - 16) / 4 - 2) - 1
/-- The bucket of a number up to 2^20. -/
def Hi.bkN (m : Nat) : Nat := if m < 16 then m else 16 + 4 * (Nat.log2 m - 4) + m / 2 ^ (Nat.log2 m - 2) % 4
theorem Hi.top_next : ∀ b : Fin 80, Hi.topN b.val < Hi.topN (b.val + 1) := by decide
theorem Hi.top_lt {a b : Nat} (h : a < b) (hb : b ≤ 80) : Hi.topN a < Hi.topN b := by
  induction b with
  | zero => omega
  | succ b ih =>
    have h1 := Hi.top_next ⟨b, by omega⟩
    dsimp only at h1
    by_cases e : a = b
    · subst e; exact h1
    · exact Nat.lt_trans (ih (by omega) (by omega)) h1
theorem Hi.top_le {a b : Nat} (h : a ≤ b) (hb : b ≤ 80) : Hi.topN a ≤ Hi.topN b := by
  by_cases e : a = b
  · subst e; exact Nat.le_refl _
  · exact Nat.le_of_lt (Hi.top_lt (by omega) hb)
set_option maxHeartbeats 2000000 in
/-- A number lies in its bucket. -/
theorem Hi.bk_in {m : Nat} (h : m ≤ 1048576) : Hi.bkN m ≤ 80 ∧ m ≤ Hi.topN (Hi.bkN m) ∧ (Hi.bkN m = 0 ∧ m = 0 ∨ 0 < Hi.bkN m ∧ Hi.topN (Hi.bkN m - 1) < m) ∧ (16 ≤ m ∨ Hi.topN (Hi.bkN m) = m) ∧ 4 * (Hi.topN (Hi.bkN m) - m) ≤ m := by
  by_cases h16 : m < 16
  · have e : Hi.bkN m = m := if_pos h16
    rw [e]
    have e2 : Hi.topN m = m := if_pos h16
    have e3 : Hi.topN (m - 1) = m - 1 := if_pos (by omega)
    rw [e2, e3]
    omega
  · have hm0 : m ≠ 0 := by omega
    have a1 := Nat.log2_self_le hm0
    have a2 : m < 2 ^ (m.log2 + 1) := Nat.lt_log2_self
    have k1 : 4 ≤ m.log2 := by
      by_cases hk : m.log2 < 4
      · have : 2 ^ (m.log2 + 1) ≤ 2 ^ 4 := Nat.pow_le_pow_right (by decide) (by omega)
        omega
      · omega
    have k2 : m.log2 ≤ 20 := by
      by_cases hk : 20 < m.log2
      · have : 2 ^ 21 ≤ 2 ^ m.log2 := Nat.pow_le_pow_right (by decide) (by omega)
        omega
      · omega
    have e : Hi.bkN m = 16 + 4 * (m.log2 - 4) + m / 2 ^ (m.log2 - 2) % 4 := if_neg h16
    rw [e]
    clear e
    generalize m.log2 = k at *
    have hp : m / 2 ^ (k - 2) % 4 = 0 ∨ m / 2 ^ (k - 2) % 4 = 1 ∨ m / 2 ^ (k - 2) % 4 = 2 ∨ m / 2 ^ (k - 2) % 4 = 3 := by omega
    have hk : k = 4 ∨ k = 5 ∨ k = 6 ∨ k = 7 ∨ k = 8 ∨ k = 9 ∨ k = 10 ∨ k = 11 ∨ k = 12 ∨ k = 13 ∨ k = 14 ∨ k = 15 ∨ k = 16 ∨ k = 17 ∨ k = 18 ∨ k = 19 ∨ k = 20 := by omega
    rcases hk with rfl | rfl | rfl | rfl | rfl | rfl | rfl | rfl | rfl | rfl | rfl | rfl | rfl | rfl | rfl | rfl | rfl <;> rcases hp with hp | hp | hp | hp <;> rw [hp] <;> simp only [Hi.topN, Nat.reduceSub, Nat.reducePow, Nat.reduceMul, Nat.reduceAdd, Nat.reduceDiv, Nat.reduceMod, Nat.reduceLT, Nat.reduceEqDiff, if_true, if_false, true_and, false_and, false_or] at * <;> omega
/-- There is but one bucket. -/
theorem Hi.bk_one {m b : Nat} (hm : m ≤ 1048576) (hb : b ≤ 80) (h1 : m ≤ Hi.topN b) (h2 : b = 0 ∨ Hi.topN (b - 1) < m) : Hi.bkN m = b := by
  obtain ⟨c1, c2, c3, _⟩ := Hi.bk_in hm
  rcases Nat.lt_trichotomy (Hi.bkN m) b with h | h | h
  · rcases h2 with h2 | h2
    · omega
    · have := Hi.top_le (a := Hi.bkN m) (b := b - 1) (by omega) (by omega)
      omega
  · exact h
  · rcases c3 with c3 | c3
    · omega
    · have := Hi.top_le (a := b) (b := Hi.bkN m - 1) (by omega) (by omega)
      omega
theorem Hi.top_max {b : Nat} (h : b ≤ 80) : Hi.topN b ≤ 1048576 := Hi.top_le h (Nat.le_refl 80)
theorem Hi.bk_top {b : Nat} (h : b ≤ 80) : Hi.bkN (Hi.topN b) = b := by
  refine Hi.bk_one (Hi.top_max h) h (Nat.le_refl _) ?_
  by_cases e : b = 0
  · exact .inl e
  · exact .inr (Hi.top_lt (by omega) h)
theorem Hi.bk_le {m b : Nat} (hm : m ≤ 1048576) (hb : b ≤ 80) : m ≤ Hi.topN b ↔ Hi.bkN m ≤ b := by
  obtain ⟨c1, c2, c3, _⟩ := Hi.bk_in hm
  constructor
  · intro h
    rcases Nat.lt_or_ge b (Hi.bkN m) with h2 | h2
    · rcases c3 with c3 | c3
      · omega
      · have := Hi.top_le (a := b) (b := Hi.bkN m - 1) (by omega) (by omega)
        omega
    · exact h2
  · intro h
    exact Nat.le_trans c2 (Hi.top_le h hb)

def Hi.most (n : Int) : Int := if n ≤ 1048576 then n else 1048576
/-- A number's bucket, a bucket's top, as numbers of Go. -/
def Hi.bn (n : Int) : Nat := Hi.bkN (Hi.most n).toNat
def Hi.top (b : Nat) : Int := (Hi.topN b : Nat)
theorem Hi.most_range (n : Int) : (Hi.most n).toNat ≤ 1048576 := by
  unfold Hi.most
  split <;> omega
theorem Hi.bn_le (n : Int) : Hi.bn n ≤ 80 := (Hi.bk_in (Hi.most_range n)).1
theorem Hi.top_range {b : Nat} (h : b ≤ 80) : 0 ≤ Hi.top b ∧ Hi.top b ≤ 1048576 := by
  have := Hi.top_max h
  unfold Hi.top
  omega
/-- P19.1: HistoBuckets. -/
theorem Hi.buckets {n : Int} (h : 0 ≤ n) : Hi.most n ≤ Hi.top (Hi.bn n) ∧ (16 ≤ Hi.most n ∨ Hi.top (Hi.bn n) = Hi.most n) ∧ 4 * (Hi.top (Hi.bn n) - Hi.most n) ≤ Hi.most n ∧ (Hi.bn n = 0 ∧ Hi.most n = 0 ∨ 0 < Hi.bn n ∧ Hi.top (Hi.bn n - 1) < Hi.most n) := by
  obtain ⟨_, h2, h3, h4, h5⟩ := Hi.bk_in (Hi.most_range n)
  have hm : 0 ≤ Hi.most n := by unfold Hi.most; split <;> omega
  have he : ((Hi.most n).toNat : Int) = Hi.most n := Int.toNat_of_nonneg hm
  unfold Hi.bn Hi.top
  generalize (Hi.most n).toNat = m at *
  generalize Hi.bkN m = b at *
  omega
theorem Hi.le_top {n : Int} {b : Nat} (h : 0 ≤ n) (hb : b ≤ 80) : Hi.most n ≤ Hi.top b ↔ Hi.bn n ≤ b := by
  have hm : 0 ≤ Hi.most n := by unfold Hi.most; split <;> omega
  have he : ((Hi.most n).toNat : Int) = Hi.most n := Int.toNat_of_nonneg hm
  have := Hi.bk_le (b := b) (Hi.most_range n) hb
  unfold Hi.bn Hi.top
  rw [← this]
  omega
theorem Hi.bn_top {b : Nat} (h : b ≤ 80) : Hi.bn (Hi.top b) = b := by
  obtain ⟨h0, h1⟩ := Hi.top_range h
  unfold Hi.bn Hi.most
  rw [if_pos h1]
  exact Hi.bk_top h
theorem Hi.top_up {a b : Nat} (h : a ≤ b) (hb : b ≤ 80) : Hi.top a ≤ Hi.top b := by
  have := Hi.top_le h hb
  unfold Hi.top
  omega

/-- One more in a bucket; of many numbers. -/
def Hi.bump (c : List Int) (b : Nat) : List Int := c.set b (c.getD b 0 + 1)
def Hi.adds (c : List Int) (l : List Int) : List Int := l.foldl (fun c x => Hi.bump c (Hi.bn x)) c
def Hi.zeros : List Int := List.replicate 81 0
def Hi.cntB (b : Nat) (l : List Int) : Int := ((l.filter (fun x => Hi.bn x == b)).length : Nat)
def Hi.cntLt (b : Nat) (l : List Int) : Int := ((l.filter (fun x => decide (Hi.bn x < b))).length : Nat)
theorem Hi.bump_len (c : List Int) (b : Nat) : (Hi.bump c b).length = c.length := by simp [Hi.bump]
theorem Hi.bump_at (c : List Int) (b k : Nat) (h : k < c.length) : (Hi.bump c b).getD k 0 = c.getD k 0 + (if b = k then 1 else 0) := by
  unfold Hi.bump
  by_cases e : b = k
  · subst e
    simp [List.getD, h]
  · simp [List.getD, List.getElem?_set_ne e, e]
theorem Hi.adds_cons (c : List Int) (x : Int) (l : List Int) : Hi.adds c (x :: l) = Hi.adds (Hi.bump c (Hi.bn x)) l := rfl
theorem Hi.adds_append (c a b : List Int) : Hi.adds c (a ++ b) = Hi.adds (Hi.adds c a) b := by unfold Hi.adds; rw [List.foldl_append]
theorem Hi.adds_len (c l : List Int) : (Hi.adds c l).length = c.length := by
  induction l generalizing c with
  | nil => rfl
  | cons x l ih => rw [Hi.adds_cons, ih, Hi.bump_len]
theorem Hi.adds_at (c l : List Int) (k : Nat) (h : k < c.length) : (Hi.adds c l).getD k 0 = c.getD k 0 + Hi.cntB k l := by
  induction l generalizing c with
  | nil => simp [Hi.adds, Hi.cntB]
  | cons x l ih =>
    rw [Hi.adds_cons, ih _ (by rw [Hi.bump_len]; exact h), Hi.bump_at c _ k h]
    unfold Hi.cntB
    by_cases e : Hi.bn x = k
    · rw [if_pos e, List.filter_cons_of_pos (by simp [e]), List.length_cons]
      omega
    · rw [if_neg e, List.filter_cons_of_neg (by simp [e])]
      omega
theorem Hi.adds_take (c l : List Int) (k : Nat) (h : k < l.length) : Hi.adds c (l.take (k + 1)) = Hi.bump (Hi.adds c (l.take k)) (Hi.bn (l.getD k 0)) := by
  unfold Hi.adds
  rw [List.take_add_one, List.foldl_append]
  simp [List.getD, h]
theorem Hi.cntLt_zero (l : List Int) : Hi.cntLt 0 l = 0 := by simp [Hi.cntLt]
theorem Hi.cntLt_next (b : Nat) (l : List Int) : Hi.cntLt (b + 1) l = Hi.cntLt b l + Hi.cntB b l := by
  unfold Hi.cntLt Hi.cntB
  induction l with
  | nil => rfl
  | cons x l ih =>
    simp only [List.filter_cons]
    by_cases h1 : Hi.bn x < b
    · have e1 : decide (Hi.bn x < b + 1) = true := by simp; omega
      have e2 : decide (Hi.bn x < b) = true := by simp [h1]
      have e3 : (Hi.bn x == b) = false := by simp; omega
      rw [e1, e2, e3]
      simp only [if_true, List.length_cons, Bool.false_eq_true, if_false]
      omega
    · by_cases h2 : Hi.bn x = b
      · have e1 : decide (Hi.bn x < b + 1) = true := by simp; omega
        have e2 : decide (Hi.bn x < b) = false := by simp; omega
        have e3 : (Hi.bn x == b) = true := by simp [h2]
        rw [e1, e2, e3]
        simp only [if_true, List.length_cons, Bool.false_eq_true, if_false]
        omega
      · have e1 : decide (Hi.bn x < b + 1) = false := by simp; omega
        have e2 : decide (Hi.bn x < b) = false := by simp; omega
        have e3 : (Hi.bn x == b) = false := by simp [h2]
        rw [e1, e2, e3]
        simp only [Bool.false_eq_true, if_false]
        exact ih
theorem Hi.cntLt_all (l : List Int) : Hi.cntLt 81 l = l.length := by
  unfold Hi.cntLt
  rw [List.filter_eq_self.2]
  intro x _
  have := Hi.bn_le x
  simp
  omega
theorem Hi.cntB_pos (b : Nat) (l : List Int) : 0 ≤ Hi.cntB b l := by unfold Hi.cntB; omega
theorem Hi.cntB_len (b : Nat) (l : List Int) : Hi.cntB b l ≤ l.length := by
  have := List.length_filter_le (fun x => Hi.bn x == b) l
  unfold Hi.cntB
  omega

/-- What the first k counts make. -/
def Hi.pre (c : List Int) : Nat → Int
  | 0 => 0
  | k + 1 => Hi.pre c k + c.getD k 0
theorem Hi.pre_up {c : List Int} (h : ∀ k, 0 ≤ c.getD k 0) {a b : Nat} (hab : a ≤ b) : Hi.pre c a ≤ Hi.pre c b := by
  induction b with
  | zero => have : a = 0 := by omega
            subst this; exact Int.le_refl _
  | succ b ih =>
    by_cases e : a = b + 1
    · subst e; exact Int.le_refl _
    · have := ih (by omega)
      have := h b
      show Hi.pre c a ≤ Hi.pre c b + c.getD b 0
      omega
theorem Hi.pre_pos {c : List Int} (h : ∀ k, 0 ≤ c.getD k 0) (b : Nat) : 0 ≤ Hi.pre c b := Hi.pre_up h (Nat.zero_le b)
theorem Hi.zeros_at (k : Nat) : Hi.zeros.getD k 0 = 0 := by
  unfold Hi.zeros
  rw [List.getD, List.getElem?_replicate]
  split <;> rfl
/-- Of numbers that were added, the first counts are those in the first buckets. -/
theorem Hi.pre_adds (l : List Int) (k : Nat) (h : k ≤ 81) : Hi.pre (Hi.adds Hi.zeros l) k = Hi.cntLt k l := by
  induction k with
  | zero => rw [Hi.cntLt_zero]; rfl
  | succ k ih =>
    show Hi.pre (Hi.adds Hi.zeros l) k + (Hi.adds Hi.zeros l).getD k 0 = _
    rw [ih (by omega), Hi.adds_at _ _ _ (by simp [Hi.zeros]; omega), Hi.zeros_at, Hi.cntLt_next]
    omega
/-- The first place at which so many are reached, from place k on, where n came ahead. -/
def Hi.at (c : List Int) (w : Int) (k : Nat) : Prop := Hi.pre c k < w ∧ w ≤ Hi.pre c (k + 1)
theorem Hi.at_up {c : List Int} (h : ∀ k, 0 ≤ c.getD k 0) {w v : Int} {a b : Nat} (ha : Hi.at c w a) (hb : Hi.at c v b) (hwv : w ≤ v) : a ≤ b := by
  rcases Nat.lt_or_ge b a with hl | hl
  · have := Hi.pre_up h (show b + 1 ≤ a from hl)
    obtain ⟨a1, a2⟩ := ha
    obtain ⟨b1, b2⟩ := hb
    omega
  · exact hl
theorem Hi.at_one {c : List Int} (h : ∀ k, 0 ≤ c.getD k 0) {w : Int} {a b : Nat} (ha : Hi.at c w a) (hb : Hi.at c w b) : a = b :=
  Nat.le_antisymm (Hi.at_up h ha hb (Int.le_refl _)) (Hi.at_up h hb ha (Int.le_refl _))
theorem Hi.at_some {c : List Int} {w : Int} (n : Nat) (h1 : 1 ≤ w) (h2 : w ≤ Hi.pre c n) : ∃ k, k < n ∧ Hi.at c w k := by
  induction n with
  | zero => exact absurd h2 (by show ¬ w ≤ 0; omega)
  | succ n ih =>
    by_cases e : w ≤ Hi.pre c n
    · obtain ⟨k, hk, ha⟩ := ih e
      exact ⟨k, by omega, ha⟩
    · exact ⟨n, by omega, by omega, h2⟩
def Hi.want (mille total : Int) : Int := (mille * total + 999) / 1000
theorem Hi.want_range {m t : Int} (h1 : 1 ≤ m) (h2 : m ≤ 1000) (h3 : 1 ≤ t) (h4 : t ≤ 1073741824) : 1 ≤ Hi.want m t ∧ Hi.want m t ≤ t ∧ 0 ≤ m * t ∧ m * t ≤ 1073741824000 := by
  have a1 : 1 * t ≤ m * t := Int.mul_le_mul_of_nonneg_right h1 (by omega)
  have a2 : m * t ≤ 1000 * t := Int.mul_le_mul_of_nonneg_right h2 (by omega)
  unfold Hi.want
  omega
theorem Hi.want_up {a b t : Int} (h : a ≤ b) (ht : 0 ≤ t) : Hi.want a t ≤ Hi.want b t := by
  have := Int.mul_le_mul_of_nonneg_right h ht
  unfold Hi.want
  omega
/-- P19.3: so many are not above a quantile, fewer below its bucket. -/
theorem Hi.quantiles {l : List Int} (hl : ∀ x ∈ l, 0 ≤ x) {w : Int} {i : Nat} (hi : i ≤ 80) (h : Hi.at (Hi.adds Hi.zeros l) w i) :
    w ≤ ((l.filter (fun x => decide (Hi.most x ≤ Hi.top i))).length : Nat) ∧ ((l.filter (fun x => decide (Hi.bn x < Hi.bn (Hi.top i)))).length : Nat) < w := by
  obtain ⟨h1, h2⟩ := h
  rw [Hi.pre_adds _ _ (by omega)] at h1 h2
  rw [Hi.bn_top hi]
  have e : l.filter (fun x => decide (Hi.most x ≤ Hi.top i)) = l.filter (fun x => decide (Hi.bn x < i + 1)) := by
    refine List.filter_congr (fun x hx => ?_)
    have := Hi.le_top (hl x hx) hi
    rw [Bool.eq_iff_iff, decide_eq_true_iff, decide_eq_true_iff, this]
    omega
  rw [e]
  exact ⟨h2, h1⟩
/-- Two put together. -/
def Hi.both (a b : List Int) : List Int := List.zipWith (· + ·) a b
theorem Hi.both_len (a b : List Int) (h : a.length = b.length) : (Hi.both a b).length = a.length := by simp [Hi.both, h]
theorem Hi.both_at (a b : List Int) (h : a.length = b.length) (k : Nat) (hk : k < a.length) : (Hi.both a b).getD k 0 = a.getD k 0 + b.getD k 0 := by
  have hb : k < b.length := by omega
  simp [Hi.both, List.getD, hk, hb, List.getElem?_zipWith]
theorem Hi.ext {a b : List Int} (h : a.length = b.length) (hk : ∀ k, k < a.length → a.getD k 0 = b.getD k 0) : a = b := by
  refine List.ext_getElem h (fun k h1 h2 => ?_)
  have := hk k h1
  simpa [List.getD, h1, h2] using this
theorem Hi.cntB_append (k : Nat) (a b : List Int) : Hi.cntB k (a ++ b) = Hi.cntB k a + Hi.cntB k b := by
  unfold Hi.cntB
  rw [List.filter_append, List.length_append]
  omega
/-- P19.2: added to one, or to two that are put together. -/
theorem Hi.merges (a b : List Int) : Hi.both (Hi.adds Hi.zeros a) (Hi.adds Hi.zeros b) = Hi.adds (Hi.adds Hi.zeros a) b := by
  have e1 : (Hi.adds Hi.zeros a).length = 81 := by rw [Hi.adds_len]; rfl
  have e2 : (Hi.adds Hi.zeros b).length = 81 := by rw [Hi.adds_len]; rfl
  refine Hi.ext (by rw [Hi.both_len _ _ (by omega), Hi.adds_len _ b]) (fun k hk => ?_)
  rw [Hi.both_len _ _ (by omega), e1] at hk
  rw [Hi.both_at _ _ (by omega) k (by omega), Hi.adds_at (Hi.adds Hi.zeros a) b k (by omega), Hi.adds_at Hi.zeros b k (by show k < 81; omega), Hi.zeros_at]
  omega
theorem Hi.both_comm (a b : List Int) : Hi.both a b = Hi.both b a := by
  unfold Hi.both
  rw [List.zipWith_comm]
  congr 1
  funext x y
  exact Int.add_comm _ _
end Go.Proofs.Ythdaldgmolhljaa
