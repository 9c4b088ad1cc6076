/- A region that draws its order, by what each of its operations leaves: stores too. -/
import Derived.Test.YtcjopphefmogiaaDraw
import Derived.Test.YtcjopphefmogiaaQO
namespace Go.Proofs.Ytcjopphefmogiaa
open Go.RowKit
set_option maxRecDepth 20000

def Region.apartDst2 (n : Nat) (ops : Array Oper) : Bool :=
  (List.range ops.size).all fun i => (List.range ops.size).all fun j => match ops[i]?, ops[j]? with | some o, some o' => (match o.dst with | some d => decide (d < n) && (decide (i = j) || decide (o'.dst ≠ some d)) | none => true) | _, _ => true

section
variable {P : Program} {ops : Array Oper} {Q : Exit → Act → World → Prop}
theorem apartDst2_spec {n : Nat} (h : Region.apartDst2 n ops = true) {i : Nat} {o : Oper} (hi : ops[i]? = some o) {d : Nat} (hd : o.dst = some d) :
    d < n ∧ ∀ j o', ops[j]? = some o' → o'.dst = some d → j = i := by
  unfold Region.apartDst2 at h
  rw [List.all_eq_true] at h
  have hl : i < ops.size := (Array.getElem?_eq_some_iff.1 hi).1
  have h1 := h i (List.mem_range.2 hl)
  rw [List.all_eq_true] at h1
  have h2 := h1 i (List.mem_range.2 hl)
  simp only [hi, hd, decide_true, Bool.true_or, Bool.and_true, decide_eq_true_eq] at h2
  refine ⟨h2, fun j o' hj hd' => ?_⟩
  have hlj : j < ops.size := (Array.getElem?_eq_some_iff.1 hj).1
  have h3 := h1 j (List.mem_range.2 hlj)
  simp only [hi, hj, hd, hd'] at h3
  simp at h3
  exact h3.2.symm

theorem wpAny_drawn2 {a0 : Act} {pred : Nat → Value → World → Prop} {R : World → Prop} (hb : Region.backwards ops = true) (hd : Region.apartDst2 a0.tmps.size ops = true)
    (hmono : ∀ i v w w', pred i v w → Below w.heap.size w w' → pred i v w')
    (hstep : ∀ (i : Nat) (o : Oper), ops[i]? = some o → ∀ (a : Act) (w : World), a.tmps.size = a0.tmps.size → a.defers = a0.defers → (∀ (t : Nat), (∀ (j : Nat) (o : Oper), ops[j]? = some o → o.dst ≠ some t) → a.tmps.getD t undef = a0.tmps.getD t undef) →
      (∀ e ∈ o.after, Region.binds .any e = true → ∀ (o' : Oper) (d' : Nat), ops[e.on]? = some o' → o'.dst = some d' → pred e.on (a.tmps.getD d' undef) w) → R w →
      wpOp P ops Q i (fun a' w' => ∃ v, a' = a.put o.dst v ∧ pred i v w' ∧ Below w.heap.size w w' ∧ R w') a w)
    (hdone : ∀ (a : Act) (w : World), a.tmps.size = a0.tmps.size → a.defers = a0.defers → (∀ (t : Nat), (∀ (j : Nat) (o : Oper), ops[j]? = some o → o.dst ≠ some t) → a.tmps.getD t undef = a0.tmps.getD t undef) →
      (∀ (i : Nat) (o : Oper) (d : Nat), ops[i]? = some o → o.dst = some d → pred i (a.tmps.getD d undef) w) → R w → Q .normal a w) :
    ∀ (fuel : Nat) (listed : Array Bool) (a : Act) (w : World), listed.size = ops.size → left ops.size listed ≤ fuel → Drawn ops a0 pred R listed a w → wpAny P .any ops Q fuel listed a w := by
  have fin : ∀ (listed : Array Bool) (a : Act) (w : World), listed.size = ops.size → Drawn ops a0 pred R listed a w → Region.ready .any ops listed = [] → Q .normal a w := by
    intro listed a w hs hD hr
    refine hdone a w hD.size hD.defers hD.frame (fun i o d ho hdd => hD.come i o d ho hdd ?_) hD.world
    exact ready_none hb hr hs i (Array.getElem?_eq_some_iff.1 ho).1
  intro fuel
  induction fuel with
  | zero =>
    intro listed a w hs hl hD
    have hr : Region.ready .any ops listed = [] := by
      cases hc : Region.ready .any ops listed with
      | nil => rfl
      | cons i r =>
        have hi : i ∈ Region.ready .any ops listed := by rw [hc]; exact List.mem_cons_self
        obtain ⟨h0, o, ho, _⟩ := mem_ready.1 hi
        have hlt : i < ops.size := (Array.getElem?_eq_some_iff.1 ho).1
        have : 0 < left ops.size listed := by
          unfold left
          rw [List.countP_pos_iff]
          exact ⟨i, List.mem_range.2 hlt, by rw [h0]; rfl⟩
        omega
    exact ⟨hr, fin listed a w hs hD hr⟩
  | succ fuel ih =>
    intro listed a w hs hl hD
    refine ⟨fin listed a w hs hD, fun i hi => ?_⟩
    obtain ⟨h0, o, ho, hdep⟩ := mem_ready.1 hi
    have hlt : i < ops.size := (Array.getElem?_eq_some_iff.1 ho).1
    refine wpOp_mono ?_ (hstep i o ho a w hD.size hD.defers hD.frame (fun e he hbd o' d' ho' hd' => hD.come _ _ _ ho' hd' (hdep e he hbd)) hD.world)
    rintro a' w' ⟨v, rfl, hp, hB, hR⟩
    refine ih _ _ _ (by simpa using hs) ?_ ?_
    · have : left ops.size (listed.setIfInBounds i true) < left ops.size listed := by
        unfold left
        refine countP_lt _ _ _ ?_ ⟨i, List.mem_range.2 hlt, by rw [h0]; rfl, ?_⟩
        · intro x _ hx
          by_cases hxi : i = x
          · subst hxi
            have : i < listed.size := by omega
            simp [this] at hx
          · rw [getD_set_ne true hxi] at hx
            exact hx
        · have : i < listed.size := by omega
          simp [this]
      omega
    · cases hdd : o.dst with
      | none =>
        refine ⟨hD.size, hD.defers, hD.frame, ?_, hR⟩
        intro j o' d' ho' hd' hl'
        by_cases hji : i = j
        · subst hji
          rw [ho] at ho'
          cases ho'
          rw [hdd] at hd'
          cases hd'
        · rw [getD_set_ne false hji] at hl'
          exact hmono _ _ _ _ (hD.come j o' d' ho' hd' hl') hB
      | some d =>
        obtain ⟨hdn, huniq⟩ := apartDst2_spec hd ho hdd
        refine ⟨?_, ?_, ?_, ?_, hR⟩
        · simp only [Act.put, Array.size_setIfInBounds]
          exact hD.size
        · exact hD.defers
        · intro t ht
          have hne : d ≠ t := fun e => ht i o ho (by rw [hdd, e])
          rw [← hD.frame t ht]
          simp only [Act.put]
          rw [Array.getD_eq_getD_getElem?, Array.getD_eq_getD_getElem?, Array.getElem?_setIfInBounds_ne hne]
        · intro j o' d' ho' hd' hl'
          by_cases hji : i = j
          · subst hji
            have : o' = o := by rw [ho] at ho'; exact (Option.some.inj ho').symm
            subst this
            have : d' = d := by rw [hdd] at hd'; exact (Option.some.inj hd').symm
            subst this
            have hsz : d' < a.tmps.size := by rw [hD.size]; exact hdn
            simp only [Act.put]
            rw [Array.getD_eq_getD_getElem?, Array.getElem?_setIfInBounds_self_of_lt hsz]
            exact hp
          · rw [getD_set_ne false hji] at hl'
            have hne : d ≠ d' := fun e => hji (huniq j o' ho' (by rw [hd', e])).symm
            have := hD.come j o' d' ho' hd' hl'
            simp only [Act.put]
            rw [Array.getD_eq_getD_getElem?, Array.getElem?_setIfInBounds_ne hne, ← Array.getD_eq_getD_getElem?]
            exact hmono _ _ _ _ this hB

/-- The region. -/
theorem wp_region_drawn2 {id : Nat} {a0 : Act} {w0 : World} {pred : Nat → Value → World → Prop} {R : World → Prop} (hm : P.follows .mixedOrders = true) (hb : Region.backwards ops = true) (hd : Region.apartDst2 a0.tmps.size ops = true)
    (hmono : ∀ i v w w', pred i v w → Below w.heap.size w w' → pred i v w') (hR0 : R w0.drew)
    (hstep : ∀ (i : Nat) (o : Oper), ops[i]? = some o → ∀ (a : Act) (w : World), a.tmps.size = a0.tmps.size → a.defers = a0.defers → (∀ (t : Nat), (∀ (j : Nat) (o : Oper), ops[j]? = some o → o.dst ≠ some t) → a.tmps.getD t undef = a0.tmps.getD t undef) →
      (∀ e ∈ o.after, Region.binds .any e = true → ∀ (o' : Oper) (d' : Nat), ops[e.on]? = some o' → o'.dst = some d' → pred e.on (a.tmps.getD d' undef) w) → R w →
      wpOp P ops Q i (fun a' w' => ∃ v, a' = a.put o.dst v ∧ pred i v w' ∧ Below w.heap.size w w' ∧ R w') a w)
    (hdone : ∀ (a : Act) (w : World), a.tmps.size = a0.tmps.size → a.defers = a0.defers → (∀ (t : Nat), (∀ (j : Nat) (o : Oper), ops[j]? = some o → o.dst ≠ some t) → a.tmps.getD t undef = a0.tmps.getD t undef) →
      (∀ (i : Nat) (o : Oper) (d : Nat), ops[i]? = some o → o.dst = some d → pred i (a.tmps.getD d undef) w) → R w → Q .normal a w) :
    (Code.region id ops true).wp P Q a0 w0 := by
  refine wp_region_any hm (wpAny_drawn2 hb hd hmono hstep hdone _ _ _ _ (by simp) ?_ ⟨rfl, rfl, fun _ _ => rfl, ?_, hR0⟩)
  · unfold left
    exact Nat.le_trans List.countP_le_length (by simp)
  · intro i o d ho _ hl
    have hlt : i < ops.size := (Array.getElem?_eq_some_iff.1 ho).1
    simp [hlt] at hl

/-- A call that panics. -/
theorem gOp_dies {i : Nat} {o : Oper} {a : Act} {w : World} {K : Act → World → Prop} (ho : ops[i]? = some o) (hw : Region.wanted o (yielded ops a.tmps) = true) (f : Nat) (args : Array Value) (hrun : (execOp a.eval o).run P w = .ok (.enter f args) w)
    (h : Calls P f args w fun e w' => ∃ ch, e = .panicked ch ∧ Q (.panic ch) a w') : wpOp P ops Q i K a w := by
  unfold wpOp
  simp only [ho, hw, if_true]
  refine .inl ?_
  unfold Oper.wp
  rw [hrun]
  refine h.mono ?_
  rintro e w' ⟨ch, rfl, hk⟩
  exact hk
end
end Go.Proofs.Ytcjopphefmogiaa
