/- The register, bit by bit; four octets that force a sum; bits that are turned. -/
import Derived.Test.YtcjopphefmogiaaPlain
namespace Go.Proofs.Ytcjopphefmogiaa.Pl

theorem even_add (n d : Nat) (hn : n % 2 = 0) (hd : d ≤ 1) : n + d = n ^^^ d := by
  have h1 : (n ^^^ d) / 2 = n / 2 := by rw [Nat.xor_div_two, show d / 2 = 0 by omega, Nat.xor_zero]
  have h2 : (n ^^^ d) % 2 = d := by rw [xmod2, hn, Nat.zero_xor]; omega
  omega
theorem dbl_xor (a b : Nat) : (a ^^^ b) * 2 = a * 2 ^^^ b * 2 := by
  have h1 : (a * 2 ^^^ b * 2) / 2 = a ^^^ b := by rw [Nat.xor_div_two, Nat.mul_div_cancel _ (by decide), Nat.mul_div_cancel _ (by decide)]
  have h2 : (a * 2 ^^^ b * 2) % 2 = 0 := by rw [xmod2, Nat.mul_mod_left, Nat.mul_mod_left]; rfl
  omega
theorem xmod32 (x y : Nat) : (x ^^^ y) % 4294967296 = x % 4294967296 ^^^ y % 4294967296 := Nat.xor_mod_two_pow (n := 32)

/-- The reference's step: the register's lowest bit against the text's. -/
def rs (c b : Nat) : Nat := if c % 2 = b then c / 2 else c / 2 ^^^ 3988292384
def ro (c o : Nat) : Nat → Nat
  | 0 => c
  | k + 1 => rs (ro c o k) (o / 2 ^ k % 2)

theorem it_ro (c o k : Nat) : it k (c ^^^ o) = ro c o k ^^^ o / 2 ^ k := by
  induction k with
  | zero => simp [it, ro]
  | succ k ih =>
    rw [it_succ, ih, ro, st_xor]
    have hp : o / 2 ^ (k + 1) = o / 2 ^ k / 2 := by rw [Nat.pow_succ, Nat.div_div_eq_div_mul]
    rw [hp]
    generalize o / 2 ^ k = y
    generalize ro c o k = r
    unfold st rs
    rcases Nat.mod_two_eq_zero_or_one r with e | e <;> rcases Nat.mod_two_eq_zero_or_one y with f | f <;> simp only [e, f, Nat.mul_zero, Nat.mul_one, Nat.xor_zero, if_true, Nat.zero_ne_one, Nat.one_ne_zero, if_false, Nat.xor_assoc]
    · rw [Nat.xor_comm (y / 2)]
    · rw [Nat.xor_comm (y / 2), xx]
theorem ro_eight (c o : Nat) (h : o < 256) : ro c o 8 = it 8 (c ^^^ o) := by
  rw [it_ro, show o / 2 ^ 8 = 0 by omega, Nat.xor_zero]
theorem rs_lt {c b : Nat} (h : c < 4294967296) : rs c b < 4294967296 := by
  unfold rs
  split
  · omega
  · exact xlt (by omega) (by decide)
theorem ro_lt {c o k : Nat} (h : c < 4294967296) : ro c o k < 4294967296 := by
  induction k with
  | zero => exact h
  | succ k ih => exact rs_lt ih

/-- The reference's step back. -/
def rw1 (c : Nat) : Nat := if c / 2147483648 = 1 then c ^^^ 3988292384 else c
def rb (c b : Nat) : Nat := rw1 c * 2 % 4294967296 + (if c / 2147483648 = b then 0 else 1)
def rbo (c o : Nat) : Nat → Nat
  | 0 => c
  | k + 1 => rb (rbo c o k) (o / 2 ^ (7 - k) % 2)

theorem rb_lt {c b : Nat} : rb c b < 4294967296 := by
  unfold rb
  split <;> omega
theorem rbo_lt {c o k : Nat} (h : c < 4294967296) : rbo c o k < 4294967296 := by
  cases k with
  | zero => exact h
  | succ k => exact rb_lt

theorem bt_rbo {c o : Nat} (hc : c < 4294967296) (ho : o < 256) (k : Nat) (hk : k ≤ 8) : bt k c = rbo c o k ^^^ o / 2 ^ (8 - k) := by
  induction k with
  | zero => rw [show o / 2 ^ (8 - 0) = 0 by simp; omega, Nat.xor_zero]; rfl
  | succ k ih =>
    rw [bt_succ, ih (by omega), rbo]
    have hp : o / 2 ^ (8 - k) = o / 2 ^ (8 - (k + 1)) / 2 := by
      rw [show 8 - k = 8 - (k + 1) + 1 by omega, Nat.pow_succ, Nat.div_div_eq_div_mul]
    rw [show 7 - k = 8 - (k + 1) by omega, hp]
    have hy : o / 2 ^ (8 - (k + 1)) < 256 := Nat.lt_of_le_of_lt (Nat.div_le_self _ _) ho
    generalize o / 2 ^ (8 - (k + 1)) = y at *
    have hr := rbo_lt (o := o) (k := k) hc
    generalize rbo c o k = r at *
    have hd : (r ^^^ y / 2) / 2147483648 = r / 2147483648 := by rw [xdiv31, show y / 2 / 2147483648 = 0 by omega, Nat.xor_zero]
    unfold bk rb
    rw [hd]
    have hA : r ^^^ y / 2 ^^^ 3988292384 * (r / 2147483648) = rw1 r ^^^ y / 2 := by
      unfold rw1
      have : r / 2147483648 = 0 ∨ r / 2147483648 = 1 := by omega
      rcases this with e | e
      · rw [e, Nat.mul_zero, Nat.xor_zero]; rfl
      · rw [e, Nat.mul_one, Nat.xor_assoc, Nat.xor_comm (y / 2), ← Nat.xor_assoc]; rfl
    rw [hA, dbl_xor, xmod32, show y / 2 * 2 % 4294967296 = y / 2 * 2 by omega]
    have hd1 : r / 2147483648 ≤ 1 := by omega
    generalize r / 2147483648 = d at *
    have hm : rw1 r * 2 % 4294967296 % 2 = 0 := by omega
    generalize rw1 r * 2 % 4294967296 = m at *
    have hy2 : y = y / 2 * 2 ^^^ y % 2 := by rw [← even_add _ _ (by omega) (by omega)]; omega
    have hm2 : (m ^^^ y / 2 * 2) % 2 = 0 := by rw [xmod2, hm, Nat.mul_mod_left]; rfl
    rw [even_add _ _ hm2 hd1, even_add m _ hm (by split <;> omega)]
    have key : ∀ q b : Nat, b ≤ 1 → m ^^^ q ^^^ d = m ^^^ (if d = b then 0 else 1) ^^^ (q ^^^ b) := by
      intro q b hb
      have hdd : d = 0 ∨ d = 1 := by omega
      have hbb : b = 0 ∨ b = 1 := by omega
      rcases hdd with rfl | rfl <;> rcases hbb with rfl | rfl <;> simp [Nat.xor_assoc]
      · rw [Nat.xor_comm q, xx]
      · rw [Nat.xor_comm 1]
    have := key (y / 2 * 2) (y % 2) (by omega)
    rw [← hy2] at this
    exact this
theorem rbo_eight {c o : Nat} (hc : c < 4294967296) (ho : o < 256) : rbo c o 8 ^^^ o = bt 8 c := by
  rw [bt_rbo hc ho 8 (Nat.le_refl _)]
  simp
theorem rbo_eight' {c o : Nat} (hc : c < 4294967296) (ho : o < 256) : rbo c o 8 = bt 8 c ^^^ o := by
  rw [← rbo_eight hc ho, Nat.xor_assoc, Nat.xor_self, Nat.xor_zero]

/-- Four octets of a word. -/
def four (W : Nat) : List Int := [((W % 256 : Nat) : Int), ((W / 256 % 256 : Nat) : Int), ((W / 65536 % 256 : Nat) : Int), ((W / 16777216 % 256 : Nat) : Int)]
theorem octs_four (W : Nat) : Octs (four W) := by
  intro z hz
  simp only [four, List.mem_cons, List.not_mem_nil, or_false] at hz
  omega
theorem split8 (W : Nat) : W = W % 256 ^^^ 256 * (W / 256) := by
  have h := Nat.xor_mod_two_pow (a := W % 256) (b := 256 * (W / 256)) (n := 8)
  have k := Nat.xor_div_two_pow (a := W % 256) (b := 256 * (W / 256)) (n := 8)
  simp only [show (2 : Nat) ^ 8 = 256 from rfl] at h k
  rw [show 256 * (W / 256) % 256 = 0 by omega, Nat.xor_zero] at h
  rw [show 256 * (W / 256) / 256 = W / 256 by omega, show W % 256 / 256 = 0 by omega, Nat.zero_xor] at k
  omega
theorem it_split (c W : Nat) : it 8 (c ^^^ W) = it 8 (c ^^^ W % 256) ^^^ W / 256 := by
  conv => lhs; rw [split8 W]
  rw [← Nat.xor_assoc, it_xor, show (256 : Nat) = 2 ^ 8 from rfl, it_pow]
theorem run_four (c W : Nat) (hW : W < 4294967296) : run c (four W) = it 32 (c ^^^ W) := by
  simp only [four, run_cons, run_nil, Int.toNat_natCast]
  have e1 : it 32 (c ^^^ W) = it 24 (it 8 (c ^^^ W % 256) ^^^ W / 256) := by rw [show 32 = 8 + 24 from rfl, it_add, it_split]
  have e2 : ∀ c, it 24 (c ^^^ W / 256) = it 16 (it 8 (c ^^^ W / 256 % 256) ^^^ W / 65536) := fun c => by rw [show 24 = 8 + 16 from rfl, it_add, it_split, Nat.div_div_eq_div_mul]
  have e3 : ∀ c, it 16 (c ^^^ W / 65536) = it 8 (it 8 (c ^^^ W / 65536 % 256) ^^^ W / 16777216) := fun c => by rw [show 16 = 8 + 8 from rfl, it_add, it_split, Nat.div_div_eq_div_mul]
  rw [e1, e2, e3, show W / 16777216 % 256 = W / 16777216 by omega]
theorem four_inj {V W : Nat} (hV : V < 4294967296) (hW : W < 4294967296) (h : four V = four W) : V = W := by
  simp only [four, List.cons.injEq, and_true] at h
  omega

/-- A bit that is turned. -/
def flip (l : List Int) (j : Nat) : List Int := l.set (j / 8) (((l.getD (j / 8) 0).toNat ^^^ 2 ^ (j % 8) : Nat) : Int)
theorem flip_len (l : List Int) (j : Nat) : (flip l j).length = l.length := by simp [flip]
theorem flip_low (o : Int) (r : List Int) (j : Nat) (h : j < 8) : flip (o :: r) j = ((o.toNat ^^^ 2 ^ j : Nat) : Int) :: r := by
  simp only [flip, show j / 8 = 0 by omega, show j % 8 = j by omega, List.getD_cons_zero, List.set_cons_zero]
theorem flip_high (o : Int) (r : List Int) (j : Nat) (h : 8 ≤ j) : flip (o :: r) j = o :: flip r (j - 8) := by
  simp only [flip, show j / 8 = (j - 8) / 8 + 1 by omega, show (j - 8) % 8 = j % 8 by omega, List.getD_cons_succ, List.set_cons_succ]

theorem run_flip (c : Nat) (l : List Int) (j : Nat) (h : j < 8 * l.length) : run c (flip l j) = run c l ^^^ it (8 * l.length - j) 1 := by
  induction l generalizing c j with
  | nil => simp at h
  | cons o r ih =>
    simp only [List.length_cons] at h ⊢
    by_cases hj : j < 8
    · rw [flip_low _ _ _ hj, run_cons, run_cons, Int.toNat_natCast, ← Nat.xor_assoc, it_xor, run_xor, ← it_add]
      congr 1
      rw [show 8 + 8 * r.length = j + (8 * (r.length + 1) - j) by omega, it_add, show 2 ^ j = 2 ^ j * 1 by omega, it_pow]
    · rw [flip_high _ _ _ (by omega), run_cons, run_cons, ih _ _ (by omega)]
      congr 2
      omega

/-- Those of 32 bits turned that a word has. -/
def un (l : List Int) (at_ turn : Nat) : Nat → List Int
  | 0 => l
  | k + 1 => if turn / 2 ^ k % 2 = 1 then flip (un l at_ turn k) (at_ + k) else un l at_ turn k
theorem un_len (l : List Int) (at_ turn k : Nat) : (un l at_ turn k).length = l.length := by
  induction k with
  | zero => rfl
  | succ k ih => rw [un]; split <;> simp [flip_len, ih]

theorem mod_succ (t k : Nat) : t % 2 ^ (k + 1) = t % 2 ^ k ^^^ 2 ^ k * (t / 2 ^ k % 2) := by
  have h := Nat.xor_mod_two_pow (a := t % 2 ^ k) (b := 2 ^ k * (t / 2 ^ k % 2)) (n := k)
  have g := Nat.xor_div_two_pow (a := t % 2 ^ k) (b := 2 ^ k * (t / 2 ^ k % 2)) (n := k)
  have hp : 0 < 2 ^ k := Nat.pow_pos (by decide)
  rw [Nat.mul_mod_right, Nat.xor_zero, Nat.mod_mod] at h
  rw [Nat.mul_div_cancel_left _ hp, Nat.div_eq_of_lt (Nat.mod_lt _ hp), Nat.zero_xor] at g
  rw [Nat.pow_succ, Nat.mod_mul]
  have e := Nat.div_add_mod (t % 2 ^ k ^^^ 2 ^ k * (t / 2 ^ k % 2)) (2 ^ k)
  rw [h, g] at e
  omega

theorem run_un (c : Nat) (l : List Int) (at_ turn k : Nat) (hk : k ≤ 32) (h : at_ + 32 ≤ 8 * l.length) : run c (un l at_ turn k) = run c l ^^^ it (8 * l.length - at_) (turn % 2 ^ k) := by
  induction k with
  | zero => rw [Nat.pow_zero, Nat.mod_one, it_zero, Nat.xor_zero]; rfl
  | succ k ih =>
    rw [un, mod_succ, it_xor]
    rcases Nat.mod_two_eq_zero_or_one (turn / 2 ^ k) with e | e
    · rw [e, if_neg (by decide), Nat.mul_zero, it_zero, Nat.xor_zero]
      exact ih (by omega)
    · rw [e, if_pos rfl, run_flip _ _ _ (by rw [un_len]; omega), ih (by omega), un_len, Nat.xor_assoc]
      congr 2
      rw [show 8 * l.length - at_ = k + (8 * l.length - (at_ + k)) by omega, it_add, it_pow]

theorem run_unlike (c : Nat) (l : List Int) (at_ turn : Nat) (ht : turn < 4294967296) (h : at_ + 32 ≤ 8 * l.length) : (run c (un l at_ turn 32) = run c l) ↔ turn = 0 := by
  rw [run_un c l at_ turn 32 (Nat.le_refl _) h, show turn % 2 ^ 32 = turn by omega]
  constructor
  · intro e
    have : it (8 * l.length - at_) turn = it (8 * l.length - at_) 0 := by
      rw [it_zero]
      have g := congrArg (run c l ^^^ ·) e
      simp only [xx, Nat.xor_self] at g
      exact g
    exact it_inj ht (by decide) this
  · rintro rfl
    rw [it_zero, Nat.xor_zero]

/-- Octets, one by one: what was turned in each of them. -/
def turned (at_ turn p : Nat) : Nat → Nat
  | 0 => 0
  | k + 1 => if turn / 2 ^ k % 2 = 1 ∧ (at_ + k) / 8 = p then turned at_ turn p k ^^^ 2 ^ ((at_ + k) % 8) else turned at_ turn p k
theorem un_at (l : List Int) (at_ turn k p : Nat) (hp : p < l.length) : ((un l at_ turn k).getD p 0).toNat = (l.getD p 0).toNat ^^^ turned at_ turn p k := by
  induction k with
  | zero => simp [un, turned]
  | succ k ih =>
    rw [un, turned]
    by_cases h1 : turn / 2 ^ k % 2 = 1
    · rw [if_pos h1]
      by_cases h2 : (at_ + k) / 8 = p
      · rw [if_pos ⟨h1, h2⟩, flip, h2]
        simp only [List.getD_eq_getElem?_getD, List.getElem?_set_self (show p < (un l at_ turn k).length by rw [un_len]; exact hp), Option.getD_some, Int.toNat_natCast]
        simp only [List.getD_eq_getElem?_getD] at ih
        rw [ih, Nat.xor_assoc]
      · rw [if_neg (by simp [h2]), flip]
        simp only [List.getD_eq_getElem?_getD, List.getElem?_set_ne h2]
        simpa only [List.getD_eq_getElem?_getD] using ih
    · rw [if_neg h1, if_neg (by simp [h1])]
      exact ih
theorem octs_flip {l : List Int} (h : Octs l) (j : Nat) : Octs (flip l j) := by
  intro z hz
  rcases List.mem_or_eq_of_mem_set hz with hz | rfl
  · exact h z hz
  · have h1 : (l.getD (j / 8) 0).toNat < 2 ^ 8 := by
      by_cases hj : j / 8 < l.length
      · have := h (l.getD (j / 8) 0) (by simp [List.getD, hj])
        omega
      · simp [List.getD, hj]
    have h2 : 2 ^ (j % 8) < 2 ^ 8 := Nat.pow_lt_pow_right (by decide) (by omega)
    have := Nat.xor_lt_two_pow h1 h2
    omega
theorem octs_un {l : List Int} (h : Octs l) (at_ turn k : Nat) : Octs (un l at_ turn k) := by
  induction k with
  | zero => exact h
  | succ k ih =>
    rw [un]
    split
    · exact octs_flip ih _
    · exact ih
theorem getD_octs {l : List Int} (h : Octs l) (p : Nat) : (((l.getD p 0).toNat : Nat) : Int) = l.getD p 0 := by
  by_cases hj : p < l.length
  · have := h (l.getD p 0) (by simp [List.getD, hj])
    omega
  · simp [List.getD, hj]
/-- Turned again they are what they were. -/
theorem un_twice {l : List Int} (h : Octs l) (at_ turn k : Nat) : un (un l at_ turn k) at_ turn k = l := by
  refine List.ext_getElem (by simp [un_len]) fun p h1 h2 => ?_
  have hl : p < (un l at_ turn k).length := by rw [un_len]; exact h2
  have e1 := un_at (un l at_ turn k) at_ turn k p hl
  rw [un_at l at_ turn k p h2, Nat.xor_assoc, Nat.xor_self, Nat.xor_zero] at e1
  have g1 := getD_octs (octs_un (octs_un h at_ turn k) at_ turn k) p
  have g2 := getD_octs h p
  have a1 : (un (un l at_ turn k) at_ turn k).getD p 0 = (un (un l at_ turn k) at_ turn k)[p] := by simp [List.getD, h1]
  have a2 : l.getD p 0 = l[p] := by simp [List.getD, h2]
  rw [← a1, ← a2, ← g1, ← g2, e1]
end Go.Proofs.Ytcjopphefmogiaa.Pl
