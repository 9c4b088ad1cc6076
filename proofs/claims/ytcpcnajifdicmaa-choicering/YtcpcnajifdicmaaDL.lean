/- Regions that draw their order, within a fence: one operation comes behind all others, and ends the region. -/
import Derived.Test.YtcpcnajifdicmaaDK
namespace Go.Proofs.Ytcpcnajifdicmaa
open Go.RowKit
set_option maxRecDepth 20000
section
variable {F : Fence} {n : Nat} {P : Program} {ops : Array Oper} {Q : Exit → Act → World → Prop}

structure DrawnL (m : Nat) (ops : Array Oper) (a0 : Act) (pred : Nat → Value → World → Prop) (R : World → Prop) (listed : Array Bool) (a : Act) (w : World) : Prop where
  size : a.tmps.size = a0.tmps.size
  defers : a.defers = a0.defers
  frame : ∀ (t : Nat), (∀ (j : Nat) (o : Oper), j < m → ops[j]? = some o → o.dst ≠ some t) → a.tmps.getD t undef = a0.tmps.getD t undef
  closed : ∀ (i : Nat) (o : Oper), ops[i]? = some o → listed.getD i false = true → ∀ e ∈ o.after, Region.binds .any e = true → listed.getD e.on false = true
  come : ∀ (i : Nat) (o : Oper) (d : Nat), ops[i]? = some o → o.dst = some d → listed.getD i false = true → pred i (a.tmps.getD d undef) w
  notyet : listed.getD m false = false
  world : R w

theorem wpAnyIn_last {a0 : Act} {pred : Nat → Value → World → Prop} (m : Nat) {R : World → Prop} {T : World → World → Prop} (hb : Region.backwards ops = true) (hd : Region.apartAny a0.tmps.size ops = true) (hp : Region.parted m ops = true) (hm0 : ops.size = m + 1)
    (hmono : ∀ i v w w', i < m → pred i v w → T w w' → pred i v w')
    (hstep1 : ∀ (i : Nat) (o : Oper), i < m → ops[i]? = some o → ∀ (a : Act) (w : World), a.tmps.size = a0.tmps.size → a.defers = a0.defers → (∀ (t : Nat), (∀ (j : Nat) (o : Oper), j < m → ops[j]? = some o → o.dst ≠ some t) → a.tmps.getD t undef = a0.tmps.getD t undef) →
      (∀ e ∈ o.after, Region.binds .any e = true → ∀ (o' : Oper) (d' : Nat), ops[e.on]? = some o' → o'.dst = some d' → pred e.on (a.tmps.getD d' undef) w) → R w →
      wpOpIn F n P ops Q i (fun a' w' => ∃ v, a' = a.put o.dst v ∧ pred i v w' ∧ T w w' ∧ R w') a w)
    (hlast : ∀ (o : Oper), ops[m]? = some o → ∀ (a : Act) (w : World), a.tmps.size = a0.tmps.size → a.defers = a0.defers → (∀ (t : Nat), (∀ (j : Nat) (o : Oper), j < m → ops[j]? = some o → o.dst ≠ some t) → a.tmps.getD t undef = a0.tmps.getD t undef) →
      (∀ (i : Nat) (o : Oper) (d : Nat), i < m → ops[i]? = some o → o.dst = some d → pred i (a.tmps.getD d undef) w) → R w →
      wpOpIn F n P ops Q m (fun a' w' => Q .normal a' w') a w) :
    ∀ (fuel : Nat) (listed : Array Bool) (a : Act) (w : World), listed.size = ops.size → left ops.size listed ≤ fuel → DrawnL m ops a0 pred R listed a w → wpAnyIn F n P .any ops Q fuel listed a w := by
  have fin : ∀ (listed : Array Bool) (a : Act) (w : World), listed.size = ops.size → DrawnL m ops a0 pred R listed a w → Region.ready .any ops listed = [] → False := by
    intro listed a w hs hD hr
    have hmt := ready_none hb hr hs m (by omega)
    rw [hD.notyet] at hmt
    cases hmt
  intro fuel
  induction fuel with
  | zero =>
    intro listed a w hs hl hD
    exfalso
    refine fin listed a w hs hD ?_
    cases hc : Region.ready .any ops listed with
    | nil => rfl
    | cons i r =>
      have hi : i ∈ Region.ready .any ops listed := by rw [hc]; exact List.mem_cons_self
      obtain ⟨h0, o, ho, _⟩ := mem_ready.1 hi
      have hlt : i < ops.size := (Array.getElem?_eq_some_iff.1 ho).1
      have : 0 < left ops.size listed := by
        unfold left
        rw [List.countP_pos_iff]
        exact ⟨i, List.mem_range.2 hlt, by rw [h0]; rfl⟩
      omega
  | succ fuel ih =>
    intro listed a w hs hl hD
    refine ⟨fun hr => (fin listed a w hs hD hr).elim, fun i hi => ?_⟩
    obtain ⟨h0, o, ho, hdep⟩ := mem_ready.1 hi
    have hlt : i < ops.size := (Array.getElem?_eq_some_iff.1 ho).1
    have hni : listed.getD i false = false := by
      have hlt2 : i < listed.size := by omega
      simp [hlt2] at h0 ⊢
      exact h0
    rcases Nat.lt_or_ge i m with hlm | hge
    · refine wpOpIn_mono ?_ (hstep1 i o hlm ho a w hD.size hD.defers hD.frame (fun e he hbd o' d' ho' hd' => hD.come _ _ _ ho' hd' (hdep e he hbd)) hD.world)
      rintro a' w' ⟨v, rfl, hpv, hT, hR'⟩
      have hmn : ∀ (j : Nat) (o' : Oper) (d' : Nat), ops[j]? = some o' → o'.dst = some d' → listed.getD j false = true → pred j (a.tmps.getD d' undef) w' := by
        intro j o' d' ho' hd' hl'
        have hjm : j < m := by
          have hjs : j < ops.size := (Array.getElem?_eq_some_iff.1 ho').1
          have : j ≠ m := fun e => by rw [e, hD.notyet] at hl'; cases hl'
          omega
        exact hmono _ _ _ _ hjm (hD.come j o' d' ho' hd' hl') hT
      refine ih _ _ _ (by simpa using hs) ?_ ?_
      · have : left ops.size (listed.setIfInBounds i true) < left ops.size listed := by
          unfold left
          refine countP_lt _ _ _ ?_ ⟨i, List.mem_range.2 hlt, by rw [h0]; rfl, ?_⟩
          · intro x _ hx
            by_cases hxi : i = x
            · subst hxi
              have : i < listed.size := by omega
              simp [this] at hx
            · rw [getD_set_ne true hxi] at hx
              exact hx
          · have : i < listed.size := by omega
            simp [this]
        omega
      · have hclo : ∀ (j : Nat) (o' : Oper), ops[j]? = some o' → (listed.setIfInBounds i true).getD j false = true → ∀ e ∈ o'.after, Region.binds .any e = true → (listed.setIfInBounds i true).getD e.on false = true := by
          intro j o' ho' hl' e he hbd
          have old : listed.getD e.on false = true := by
            by_cases hji : i = j
            · subst hji
              have : o' = o := by rw [ho] at ho'; exact (Option.some.inj ho').symm
              subst this
              exact hdep e he hbd
            · rw [getD_set_ne false hji] at hl'
              exact hD.closed j o' ho' hl' e he hbd
          by_cases hei : i = e.on
          · rw [← hei] at old
            rw [hni] at old
            cases old
          · rw [getD_set_ne false hei]
            exact old
        have hnm : (listed.setIfInBounds i true).getD m false = false := by
          rw [getD_set_ne false (by omega)]
          exact hD.notyet
        rcases apartAny_spec hd ho with hnone | ⟨d, hdd, hdn, huniq⟩
        · rw [hnone]
          refine ⟨hD.size, hD.defers, hD.frame, hclo, ?_, hnm, hR'⟩
          intro j o' d' ho' hd' hl'
          by_cases hji : i = j
          · subst hji
            have : o' = o := by rw [ho] at ho'; exact (Option.some.inj ho').symm
            subst this
            rw [hnone] at hd'
            cases hd'
          · rw [getD_set_ne false hji] at hl'
            exact hmn j o' d' ho' hd' hl'
        · rw [hdd]
          refine ⟨?_, hD.defers, ?_, hclo, ?_, hnm, hR'⟩
          · simp only [Act.put, Array.size_setIfInBounds]
            exact hD.size
          · intro t ht
            have hne : d ≠ t := fun e => ht i o hlm ho (by rw [hdd, e])
            rw [← hD.frame t ht]
            simp only [Act.put]
            rw [Array.getD_eq_getD_getElem?, Array.getD_eq_getD_getElem?, Array.getElem?_setIfInBounds_ne hne]
          · intro j o' d' ho' hd' hl'
            by_cases hji : i = j
            · subst hji
              have : o' = o := by rw [ho] at ho'; exact (Option.some.inj ho').symm
              subst this
              have : d' = d := by rw [hdd] at hd'; exact (Option.some.inj hd').symm
              subst this
              have hsz : d' < a.tmps.size := by rw [hD.size]; exact hdn
              simp only [Act.put]
              rw [Array.getD_eq_getD_getElem?, Array.getElem?_setIfInBounds_self_of_lt hsz]
              exact hpv
            · rw [getD_set_ne false hji] at hl'
              have hne : d ≠ d' := fun e => hji (huniq j o' ho' (by rw [hd', e])).symm
              simp only [Act.put]
              rw [Array.getD_eq_getD_getElem?, Array.getElem?_setIfInBounds_ne hne, ← Array.getD_eq_getD_getElem?]
              exact hmn j o' d' ho' hd' hl'
    · obtain rfl : i = m := by omega
      have hall := parted_fore hp hD.closed (.inr (fun o' ho' e he hbd => by rw [ho] at ho'; cases ho'; exact hdep e he hbd))
      refine wpOpIn_mono ?_ (hlast o ho a w hD.size hD.defers hD.frame (fun j o' d' hj ho' hd' => hD.come j o' d' ho' hd' (hall j hj)) hD.world)
      intro a' w' hq
      have hnone : Region.ready .any ops (listed.setIfInBounds i true) = [] := by
        cases hc : Region.ready .any ops (listed.setIfInBounds i true) with
        | nil => rfl
        | cons j r =>
          have hj : j ∈ Region.ready .any ops (listed.setIfInBounds i true) := by rw [hc]; exact List.mem_cons_self
          obtain ⟨h1, o', ho', _⟩ := mem_ready.1 hj
          have hjs : j < ops.size := (Array.getElem?_eq_some_iff.1 ho').1
          exfalso
          by_cases hji : i = j
          · subst hji
            have : i < listed.size := by omega
            simp [this] at h1
          · rw [getD_set_ne true hji] at h1
            have h2 := hall j (by omega)
            have : j < listed.size := by omega
            simp [this] at h1 h2
            rw [h1] at h2
            cases h2
      cases fuel with
      | zero => exact ⟨hnone, hq⟩
      | succ fuel => exact ⟨fun _ => hq, fun j hj => by rw [hnone] at hj; cases hj⟩

theorem wpIn_region_last {id : Nat} {a0 : Act} {w0 : World} {pred : Nat → Value → World → Prop} (m : Nat) {R : World → Prop} {T : World → World → Prop} (hm : P.follows .mixedOrders = true) (hb : Region.backwards ops = true) (hd : Region.apartAny a0.tmps.size ops = true) (hp : Region.parted m ops = true) (hm0 : ops.size = m + 1)
    (hmono : ∀ i v w w', i < m → pred i v w → T w w' → pred i v w') (hR0 : R w0.drew)
    (hstep1 : ∀ (i : Nat) (o : Oper), i < m → ops[i]? = some o → ∀ (a : Act) (w : World), a.tmps.size = a0.tmps.size → a.defers = a0.defers → (∀ (t : Nat), (∀ (j : Nat) (o : Oper), j < m → ops[j]? = some o → o.dst ≠ some t) → a.tmps.getD t undef = a0.tmps.getD t undef) →
      (∀ e ∈ o.after, Region.binds .any e = true → ∀ (o' : Oper) (d' : Nat), ops[e.on]? = some o' → o'.dst = some d' → pred e.on (a.tmps.getD d' undef) w) → R w →
      wpOpIn F n P ops Q i (fun a' w' => ∃ v, a' = a.put o.dst v ∧ pred i v w' ∧ T w w' ∧ R w') a w)
    (hlast : ∀ (o : Oper), ops[m]? = some o → ∀ (a : Act) (w : World), a.tmps.size = a0.tmps.size → a.defers = a0.defers → (∀ (t : Nat), (∀ (j : Nat) (o : Oper), j < m → ops[j]? = some o → o.dst ≠ some t) → a.tmps.getD t undef = a0.tmps.getD t undef) →
      (∀ (i : Nat) (o : Oper) (d : Nat), i < m → ops[i]? = some o → o.dst = some d → pred i (a.tmps.getD d undef) w) → R w →
      wpOpIn F n P ops Q m (fun a' w' => Q .normal a' w') a w) :
    (Code.region id ops true).wpIn F n P Q a0 w0 := by
  have hz : ∀ i, (Array.replicate ops.size false).getD i false = false := by
    intro i
    by_cases hi : i < ops.size <;> simp [hi]
  refine wpIn_region_any hm (wpAnyIn_last m hb hd hp hm0 hmono hstep1 hlast _ _ _ _ (by simp) ?_ ⟨rfl, rfl, fun _ _ => rfl, ?_, ?_, hz m, hR0⟩)
  · unfold left
    exact Nat.le_trans List.countP_le_length (by simp)
  · intro i o ho hl
    rw [hz] at hl
    cases hl
  · intro i o d ho _ hl
    rw [hz] at hl
    cases hl
end
end Go.Proofs.Ytcpcnajifdicmaa
