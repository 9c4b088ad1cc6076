/- A region that draws its order, whose operations leave known values: what stands behind it begins with these values in their slots, whatever order was drawn. -/
import Derived.Test.YtcjopphefmogiaaDraw
import Derived.Shelf.Abstract
import Derived.WalkKit
namespace Go.Proofs.Ytcjopphefmogiaa
open Go.RowKit
set_option maxRecDepth 20000

/-- Each operation's value in its slot. -/
def putL (val : Nat → Value) : List Oper → Nat → Act → Act
  | [], _, a => a
  | o :: r, i, a => putL val r (i + 1) (a.put o.dst (val i))

theorem put_size (a : Act) (d : Option Nat) (v : Value) : (a.put d v).tmps.size = a.tmps.size := by
  cases d <;> simp [Act.put]
theorem put_defers (a : Act) (d : Option Nat) (v : Value) : (a.put d v).defers = a.defers := by
  cases d <;> simp [Act.put]
theorem put_other (a : Act) (d : Option Nat) (v : Value) (t : Nat) (h : d ≠ some t) : (a.put d v).tmps.getD t undef = a.tmps.getD t undef := by
  cases d with
  | none => simp [Act.put]
  | some d =>
    have hne : d ≠ t := fun e => h (by rw [e])
    simp only [Act.put]
    rw [Array.getD_eq_getD_getElem?, Array.getD_eq_getD_getElem?, Array.getElem?_setIfInBounds_ne hne]
theorem put_self (a : Act) (t : Nat) (v : Value) (h : t < a.tmps.size) : (a.put (some t) v).tmps.getD t undef = v := by
  simp only [Act.put]
  rw [Array.getD_eq_getD_getElem?, Array.getElem?_setIfInBounds_self_of_lt h]
  rfl
theorem putL_size (val : Nat → Value) (L : List Oper) : ∀ (i : Nat) (a : Act), (putL val L i a).tmps.size = a.tmps.size ∧ (putL val L i a).defers = a.defers := by
  induction L with
  | nil => intro i a; exact ⟨rfl, rfl⟩
  | cons o r ih =>
    intro i a
    simp only [putL]
    rw [(ih _ _).1, (ih _ _).2, put_size, put_defers]
    exact ⟨rfl, rfl⟩
theorem putL_none (val : Nat → Value) (L : List Oper) : ∀ (i : Nat) (a : Act) (t : Nat), (∀ o ∈ L, o.dst ≠ some t) → (putL val L i a).tmps.getD t undef = a.tmps.getD t undef := by
  induction L with
  | nil => intro i a t _; rfl
  | cons o r ih =>
    intro i a t h
    simp only [putL]
    rw [ih _ _ _ (fun o' ho' => h o' (by simp [ho'])), put_other _ _ _ _ (h o (by simp))]
theorem putL_some (val : Nat → Value) (L : List Oper) : ∀ (i : Nat) (a : Act) (t j : Nat) (o : Oper), L[j]? = some o → o.dst = some t → (∀ j' o', L[j']? = some o' → o'.dst = some t → j' = j) → t < a.tmps.size → (putL val L i a).tmps.getD t undef = val (i + j) := by
  induction L with
  | nil => intro i a t j o h; simp at h
  | cons x r ih =>
    intro i a t j o h hd hu ht
    simp only [putL]
    cases j with
    | zero =>
      simp at h
      subst h
      rw [putL_none, hd, put_self _ _ _ ht]
      · rfl
      · intro o' ho' hd'
        obtain ⟨j', hj'⟩ := List.getElem?_of_mem ho'
        have := hu (j' + 1) o' (by simpa using hj') hd'
        omega
    | succ j =>
      rw [List.getElem?_cons_succ] at h
      rw [ih (i + 1) _ t j o h hd (fun j' o' hj' hd' => by have := hu (j' + 1) o' (by simpa using hj') hd'; omega) (by rw [put_size]; exact ht)]
      congr 1
      omega

section
variable {P : Program} {ops : Array Oper} {Q : Exit → Act → World → Prop}

/-- The region, by known values. -/
theorem wp_region_fixed {id : Nat} {a0 : Act} {w0 : World} {R : World → Prop} (val : Nat → Value) (hm : P.follows .mixedOrders = true) (hb : Region.backwards ops = true) (hd : Region.apartDst a0.tmps.size ops = true) (hR0 : R w0.drew)
    (hstep : ∀ (i : Nat) (o : Oper), ops[i]? = some o → ∀ (a : Act) (w : World), a.tmps.size = a0.tmps.size → a.defers = a0.defers → (∀ (t : Nat), (∀ (j : Nat) (o : Oper), ops[j]? = some o → o.dst ≠ some t) → a.tmps.getD t undef = a0.tmps.getD t undef) →
      (∀ e ∈ o.after, Region.binds .any e = true → ∀ (o' : Oper) (d' : Nat), ops[e.on]? = some o' → o'.dst = some d' → a.tmps.getD d' undef = val e.on) → R w →
      wpOp P ops Q i (fun a' w' => ∃ v, a' = a.put o.dst v ∧ v = val i ∧ Below w.heap.size w w' ∧ R w') a w)
    (hdone : ∀ (w : World), R w → Q .normal (putL val ops.toList 0 a0) w) :
    (Code.region id ops true).wp P Q a0 w0 := by
  refine wp_region_drawn (pred := fun i v _ => v = val i) (R := R) hm hb hd (fun _ _ _ _ h _ => h) hR0 hstep ?_
  intro a w hsz hdf hfr hcome hR
  have key : a = putL val ops.toList 0 a0 := by
    obtain ⟨s1, s2⟩ := putL_size val ops.toList 0 a0
    have ht : a.tmps = (putL val ops.toList 0 a0).tmps := by
      have hall : ∀ t, a.tmps.getD t undef = (putL val ops.toList 0 a0).tmps.getD t undef := by
        intro t
        by_cases hex : ∃ (j : Nat) (o : Oper), ops[j]? = some o ∧ o.dst = some t
        · obtain ⟨j, o, ho, hdt⟩ := hex
          obtain ⟨d, hdd, hdn, huniq⟩ := apartDst_spec hd ho
          have hdt' : d = t := by rw [hdd] at hdt; exact Option.some.inj hdt
          subst hdt'
          rw [hcome j o d ho hdd, putL_some val ops.toList 0 a0 d j o (by simpa using ho) hdd (fun j' o' hj' hd' => huniq j' o' (by simpa using hj') hd') hdn]
          congr 1
          omega
        · have hno : ∀ (j : Nat) (o : Oper), ops[j]? = some o → o.dst ≠ some t := fun j o ho hdt => hex ⟨j, o, ho, hdt⟩
          rw [hfr t hno, putL_none]
          intro o ho hdt
          obtain ⟨j, hj⟩ := List.getElem?_of_mem ho
          exact hno j o (by simpa using hj) hdt
      apply Array.ext
      · rw [hsz, s1]
      · intro i h1 h2
        have := hall i
        rw [Array.getD_eq_getD_getElem?, Array.getD_eq_getD_getElem?, Array.getElem?_eq_getElem h1, Array.getElem?_eq_getElem h2] at this
        exact this
    have hdf' : a.defers = (putL val ops.toList 0 a0).defers := hdf.trans s2.symm
    generalize putL val ops.toList 0 a0 = b at ht hdf' ⊢
    cases a
    cases b
    simp only at ht hdf'
    subst ht hdf'
    rfl
  rw [key]
  exact hdone w hR
end
section
variable {ops : Array Oper} {Q : Exit → Act → World → Prop} {i : Nat} {o : Oper} {a : Act} {w w' : World} {v : Value} {K : Act → World → Prop}
theorem wanted_plain (hg : o.guard = none) : Region.wanted o (yielded ops a.tmps) = true := by simp [Region.wanted, hg]
theorem slot_some {d : Nat} {b : Bool} (h3 : a.tmps.getD d undef = .bool b) : a.tmps[d]? = some (.bool b) := by
  rw [Array.getD_eq_getD_getElem?] at h3
  cases h : a.tmps[d]? with
  | none => rw [h] at h3; simp [undef] at h3
  | some x => rw [h] at h3; simp at h3; rw [h3]
theorem wanted_on (b : Bool) (g d : Nat) (og : Oper) (hg : o.guard = some (g, b)) (h1 : ops[g]? = some og) (h2 : og.dst = some d) (h3 : a.tmps.getD d undef = .bool b) : Region.wanted o (yielded ops a.tmps) = true := by
  cases b <;> simp [Region.wanted, hg, yielded, h1, h2, slot_some h3]
theorem unwanted (b : Bool) (g d : Nat) (og : Oper) (hg : o.guard = some (g, b)) (h1 : ops[g]? = some og) (h2 : og.dst = some d) (h3 : a.tmps.getD d undef = .bool (!b)) : Region.wanted o (yielded ops a.tmps) = false := by
  cases b <;> simp [Region.wanted, hg, yielded, h1, h2, slot_some h3]
theorem gOp_ok {P : Program} (ho : ops[i]? = some o) (hw : Region.wanted o (yielded ops a.tmps) = true) (hrun : (execOp a.eval o).run P w = .ok (.value v) w') (h : K (a.put o.dst v) w') : wpOp P ops Q i K a w := by
  unfold wpOp
  simp only [ho, hw, if_true]
  refine .inl ?_
  unfold Oper.wp
  rw [hrun]
  exact h
theorem gOp_skip {P : Program} (ho : ops[i]? = some o) (hw : Region.wanted o (yielded ops a.tmps) = false) (h : K (a.put o.dst undef) w) : wpOp P ops Q i K a w := by
  unfold wpOp
  simp only [ho, hw, Bool.false_eq_true, if_false]
  exact h
theorem gOp_enter {P : Program} (ho : ops[i]? = some o) (hw : Region.wanted o (yielded ops a.tmps) = true) (f : Nat) (args : Array Value) (hrun : (execOp a.eval o).run P w = .ok (.enter f args) w)
    (h : Calls P f args w fun e w' => ∃ u, e = .returned u ∧ K (a.put o.dst u) w') : wpOp P ops Q i K a w := by
  unfold wpOp
  simp only [ho, hw, if_true]
  refine .inl ?_
  unfold Oper.wp
  rw [hrun]
  refine h.mono ?_
  rintro e w' ⟨u, rfl, hk⟩
  exact hk
theorem run_call {P : Program} (f : Nat) (eg : ∀ args w, (callFunc f args).run P w = .ok (.enter f args) w) (args : Array Operand) (ts : Array TypeId) (hop : o.op = .call { callee := .value (.func f), args := args, argTypes := ts }) (vs : Array Value) (hs : args.map a.eval = vs) : (execOp a.eval o).run P w = .ok (.enter f vs) w := by
  subst hs
  simp [execOp, hop, resolve, invoke, show a.eval (.func f) = .func (.func f) #[] #[] from rfl, Deferred.ofValue, eg]
theorem run_callT {P : Program} (f : Nat) (cap : Array Value) (eg : ∀ args w, (callFunc f args).run P w = .ok (.enter f args) w) (s : Nat) (args : Array Operand) (ts : Array TypeId) (hop : o.op = .call { callee := .value (.tmp s), args := args, argTypes := ts }) (hf : a.eval (.tmp s) = .func (.func f) #[] cap) (vs : Array Value) (hs : args.map a.eval = vs) : (execOp a.eval o).run P w = .ok (.enter f (vs ++ cap)) w := by
  subst hs
  simp [execOp, hop, resolve, invoke, hf, Deferred.ofValue, eg]
theorem gOp_mv {P : Program} {x : Operand} (ho : ops[i]? = some o) (hw : Region.wanted o (yielded ops a.tmps) = true) (hop : o.op = .move x ∨ o.op = .assign x) (hs : a.eval x = v) (h : K (a.put o.dst v) w) : wpOp P ops Q i K a w := by
  refine gOp_ok ho hw ?_ h
  subst hs
  rcases hop with hop | hop <;> simp [execOp, hop]
theorem gOp_nil {P : Program} {x : Operand} {ad : Addr} (ho : ops[i]? = some o) (hw : Region.wanted o (yielded ops a.tmps) = true) (hop : o.op = .nilCheck x) (hs : a.eval x = .pointer (some ad)) (h : K (a.put o.dst (.pointer (some ad))) w) : wpOp P ops Q i K a w := by
  refine gOp_ok ho hw ?_ h
  simp [execOp, hop, hs]
theorem gOp_fld {P : Program} {T : TypeId} {x : Operand} {f : Nat} {u : Value} (ho : ops[i]? = some o) (hw : Region.wanted o (yielded ops a.tmps) = true) (hop : o.op = .fieldAddr T x f) (hs : a.eval x = u) (hr : (Instr.fieldAt T u f).run P w = .ok v w) (h : K (a.put o.dst v) w) : wpOp P ops Q i K a w := by
  refine gOp_ok ho hw ?_ h
  simp [execOp, hop, hs, hr]
theorem gOp_part {P : Program} {T : TypeId} {x : Operand} {f : Nat} {u : Value} (ho : ops[i]? = some o) (hw : Region.wanted o (yielded ops a.tmps) = true) (hop : o.op = .field T x f) (hs : a.eval x = u) (hr : (Instr.field T u f).run P w = .ok v w) (h : K (a.put o.dst v) w) : wpOp P ops Q i K a w := by
  refine gOp_ok ho hw ?_ h
  simp [execOp, hop, hs, hr]
theorem gOp_ld {P : Program} {T : TypeId} {x : Operand} {u : Value} (ho : ops[i]? = some o) (hw : Region.wanted o (yielded ops a.tmps) = true) (hop : o.op = .load T x) (hs : a.eval x = u) (hr : (Instr.loadAt T u).run P w = .ok v w) (h : K (a.put o.dst v) w) : wpOp P ops Q i K a w := by
  refine gOp_ok ho hw ?_ h
  simp [execOp, hop, hs, hr]
theorem gOp_ix {P : Program} {T : TypeId} {x y : Operand} {u z : Value} (ho : ops[i]? = some o) (hw : Region.wanted o (yielded ops a.tmps) = true) (hop : o.op = .indexAddr T x y) (hs : a.eval x = u) (ht : a.eval y = z) (hr : (Instr.indexAt T u z).run P w = .ok v w) (h : K (a.put o.dst v) w) : wpOp P ops Q i K a w := by
  refine gOp_ok ho hw ?_ h
  simp [execOp, hop, hs, ht, hr]
theorem gOp_not {P : Program} {T : TypeId} {x : Operand} {b : Bool} (ho : ops[i]? = some o) (hw : Region.wanted o (yielded ops a.tmps) = true) (hop : o.op = .unOp .not T x) (hs : a.eval x = .bool b) (h : K (a.put o.dst (.bool (!b))) w) : wpOp P ops Q i K a w := by
  refine gOp_ok (v := .bool (!b)) ho hw ?_ h
  simp only [execOp, hop, hs]
  rfl
theorem gOp_pk {P : Program} {c x y : Operand} {b : Bool} (ho : ops[i]? = some o) (hw : Region.wanted o (yielded ops a.tmps) = true) (hop : o.op = .pick c x y) (hc : a.eval c = .bool b) (hs : (if b then a.eval x else a.eval y) = v) (h : K (a.put o.dst v) w) : wpOp P ops Q i K a w := by
  refine gOp_ok ho hw ?_ h
  subst hs
  cases b <;> simp only [execOp, hop, hc] <;> rfl
end
end Go.Proofs.Ytcjopphefmogiaa
