/- A region that draws its order, whose operations leave known values: what stands behind it begins with these values in their slots, whatever order was drawn. -/
import Derived.Test.YtjeegcfdhoiplaaOpsG
namespace Go.Proofs.Ytjeegcfdhoiplaa
open Go.RowKit

/-- Each operation's value in its slot. -/
def putL (val : Nat → Value) : List Oper → Nat → Act → Act
  | [], _, a => a
  | o :: r, i, a => putL val r (i + 1) (a.put o.dst (val i))

theorem put_size (a : Act) (d : Option Nat) (v : Value) : (a.put d v).tmps.size = a.tmps.size := by
  cases d <;> simp [Act.put]
theorem put_defers (a : Act) (d : Option Nat) (v : Value) : (a.put d v).defers = a.defers := by
  cases d <;> simp [Act.put]
theorem put_other (a : Act) (d : Option Nat) (v : Value) (t : Nat) (h : d ≠ some t) : (a.put d v).tmps.getD t undef = a.tmps.getD t undef := by
  cases d with
  | none => simp [Act.put]
  | some d =>
    have hne : d ≠ t := fun e => h (by rw [e])
    simp only [Act.put]
    rw [Array.getD_eq_getD_getElem?, Array.getD_eq_getD_getElem?, Array.getElem?_setIfInBounds_ne hne]
theorem put_self (a : Act) (t : Nat) (v : Value) (h : t < a.tmps.size) : (a.put (some t) v).tmps.getD t undef = v := by
  simp only [Act.put]
  rw [Array.getD_eq_getD_getElem?, Array.getElem?_setIfInBounds_self_of_lt h]
  rfl
theorem putL_size (val : Nat → Value) (L : List Oper) : ∀ (i : Nat) (a : Act), (putL val L i a).tmps.size = a.tmps.size ∧ (putL val L i a).defers = a.defers := by
  induction L with
  | nil => intro i a; exact ⟨rfl, rfl⟩
  | cons o r ih =>
    intro i a
    simp only [putL]
    rw [(ih _ _).1, (ih _ _).2, put_size, put_defers]
    exact ⟨rfl, rfl⟩
theorem putL_none (val : Nat → Value) (L : List Oper) : ∀ (i : Nat) (a : Act) (t : Nat), (∀ o ∈ L, o.dst ≠ some t) → (putL val L i a).tmps.getD t undef = a.tmps.getD t undef := by
  induction L with
  | nil => intro i a t _; rfl
  | cons o r ih =>
    intro i a t h
    simp only [putL]
    rw [ih _ _ _ (fun o' ho' => h o' (by simp [ho'])), put_other _ _ _ _ (h o (by simp))]
theorem putL_some (val : Nat → Value) (L : List Oper) : ∀ (i : Nat) (a : Act) (t j : Nat) (o : Oper), L[j]? = some o → o.dst = some t → (∀ j' o', L[j']? = some o' → o'.dst = some t → j' = j) → t < a.tmps.size → (putL val L i a).tmps.getD t undef = val (i + j) := by
  induction L with
  | nil => intro i a t j o h; simp at h
  | cons x r ih =>
    intro i a t j o h hd hu ht
    simp only [putL]
    cases j with
    | zero =>
      simp at h
      subst h
      rw [putL_none, hd, put_self _ _ _ ht]
      · rfl
      · intro o' ho' hd'
        obtain ⟨j', hj'⟩ := List.getElem?_of_mem ho'
        have := hu (j' + 1) o' (by simpa using hj') hd'
        omega
    | succ j =>
      rw [List.getElem?_cons_succ] at h
      rw [ih (i + 1) _ t j o h hd (fun j' o' hj' hd' => by have := hu (j' + 1) o' (by simpa using hj') hd'; omega) (by rw [put_size]; exact ht)]
      congr 1
      omega

section
variable {P : Program} {ops : Array Oper} {Q : Exit → Act → World → Prop}

/-- The region, by known values. -/
theorem wp_region_fixed {id : Nat} {a0 : Act} {w0 : World} {R : World → Prop} (val : Nat → Value) (hm : P.follows .mixedOrders = true) (hb : Region.backwards ops = true) (hd : Region.apartDst a0.tmps.size ops = true) (hR0 : R w0.drew)
    (hstep : ∀ (i : Nat) (o : Oper), ops[i]? = some o → ∀ (a : Act) (w : World), a.tmps.size = a0.tmps.size → a.defers = a0.defers → (∀ (t : Nat), (∀ (j : Nat) (o : Oper), ops[j]? = some o → o.dst ≠ some t) → a.tmps.getD t undef = a0.tmps.getD t undef) →
      (∀ e ∈ o.after, Region.binds .any e = true → ∀ (o' : Oper) (d' : Nat), ops[e.on]? = some o' → o'.dst = some d' → a.tmps.getD d' undef = val e.on) → R w →
      wpOp P ops Q i (fun a' w' => ∃ v, a' = a.put o.dst v ∧ v = val i ∧ Below w.heap.size w w' ∧ R w') a w)
    (hdone : ∀ (w : World), R w → Q .normal (putL val ops.toList 0 a0) w) :
    (Code.region id ops true).wp P Q a0 w0 := by
  refine wp_region_drawn (pred := fun i v _ => v = val i) (R := R) hm hb hd (fun _ _ _ _ h _ => h) hR0 hstep ?_
  intro a w hsz hdf hfr hcome hR
  have key : a = putL val ops.toList 0 a0 := by
    obtain ⟨s1, s2⟩ := putL_size val ops.toList 0 a0
    have ht : a.tmps = (putL val ops.toList 0 a0).tmps := by
      have hall : ∀ t, a.tmps.getD t undef = (putL val ops.toList 0 a0).tmps.getD t undef := by
        intro t
        by_cases hex : ∃ (j : Nat) (o : Oper), ops[j]? = some o ∧ o.dst = some t
        · obtain ⟨j, o, ho, hdt⟩ := hex
          obtain ⟨d, hdd, hdn, huniq⟩ := apartDst_spec hd ho
          have hdt' : d = t := by rw [hdd] at hdt; exact Option.some.inj hdt
          subst hdt'
          rw [hcome j o d ho hdd, putL_some val ops.toList 0 a0 d j o (by simpa using ho) hdd (fun j' o' hj' hd' => huniq j' o' (by simpa using hj') hd') hdn]
          congr 1
          omega
        · have hno : ∀ (j : Nat) (o : Oper), ops[j]? = some o → o.dst ≠ some t := fun j o ho hdt => hex ⟨j, o, ho, hdt⟩
          rw [hfr t hno, putL_none]
          intro o ho hdt
          obtain ⟨j, hj⟩ := List.getElem?_of_mem ho
          exact hno j o (by simpa using hj) hdt
      apply Array.ext
      · rw [hsz, s1]
      · intro i h1 h2
        have := hall i
        rw [Array.getD_eq_getD_getElem?, Array.getD_eq_getD_getElem?, Array.getElem?_eq_getElem h1, Array.getElem?_eq_getElem h2] at this
        exact this
    have hdf' : a.defers = (putL val ops.toList 0 a0).defers := hdf.trans s2.symm
    generalize putL val ops.toList 0 a0 = b at ht hdf' ⊢
    cases a
    cases b
    simp only at ht hdf'
    subst ht hdf'
    rfl
  rw [key]
  exact hdone w hR
end
end Go.Proofs.Ytjeegcfdhoiplaa
