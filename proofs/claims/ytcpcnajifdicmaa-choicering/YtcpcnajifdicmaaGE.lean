/- Regions that draw their order, within a fence: one operation comes behind all others; what it writes may be read ahead of it. Regions that draw their order, within a fence: as before, and operations may store. Regions that draw their order, within a fence: one operation comes behind all others, and ends the region. -/
import Derived.Test.YtcpcnajifdicmaaDI
namespace Go.Proofs.Ytcpcnajifdicmaa
open Go.RowKit
set_option maxRecDepth 20000
section
variable {F : Fence} {n : Nat} {P : Program} {ops : Array Oper} {Q : Exit → Act → World → Prop}

def Region.noDstBut (m t : Nat) (ops : Array Oper) : Bool := (List.range ops.size).all fun j => decide (m ≤ j) || match ops[j]? with | some o => decide (o.dst ≠ some t) | none => true
theorem noDstBut_spec {m t : Nat} (h : Region.noDstBut m t ops = true) : ∀ (j : Nat) (o : Oper), j < m → ops[j]? = some o → o.dst ≠ some t := by
  intro j o hj ho
  unfold Region.noDstBut at h
  rw [List.all_eq_true] at h
  have := h j (List.mem_range.2 (Array.getElem?_eq_some_iff.1 ho).1)
  rw [ho] at this
  simpa [Nat.not_le.2 hj] using this

structure DrawnJ (m : Nat) (ops : Array Oper) (a0 : Act) (pred : Nat → Value → World → Prop) (R : Bool → World → Prop) (listed : Array Bool) (a : Act) (w : World) : Prop where
  size : a.tmps.size = a0.tmps.size
  defers : a.defers = a0.defers
  frame : ∀ (t : Nat), (∀ (j : Nat) (o : Oper), (listed.getD m false = false → j < m) → ops[j]? = some o → o.dst ≠ some t) → a.tmps.getD t undef = a0.tmps.getD t undef
  closed : ∀ (i : Nat) (o : Oper), ops[i]? = some o → listed.getD i false = true → ∀ e ∈ o.after, Region.binds .any e = true → listed.getD e.on false = true
  come : ∀ (i : Nat) (o : Oper) (d : Nat), ops[i]? = some o → o.dst = some d → listed.getD i false = true → (listed.getD m false = true → m ≤ i) → pred i (a.tmps.getD d undef) w
  world : R (listed.getD m false) w

theorem wpAnyIn_parted {a0 : Act} {pred : Nat → Value → World → Prop} (m : Nat) {R : Bool → World → Prop} {T : World → World → Prop} (hb : Region.backwards ops = true) (hd : Region.apartDst a0.tmps.size ops = true) (hp : Region.parted m ops = true) (hm0 : m < ops.size)
    (hmono : ∀ i v w w', i < m → pred i v w → T w w' → pred i v w')
    (hstep1 : ∀ (i : Nat) (o : Oper), i < m → ops[i]? = some o → ∀ (a : Act) (w : World), a.tmps.size = a0.tmps.size → a.defers = a0.defers → (∀ (t : Nat), (∀ (j : Nat) (o : Oper), j < m → ops[j]? = some o → o.dst ≠ some t) → a.tmps.getD t undef = a0.tmps.getD t undef) →
      (∀ e ∈ o.after, Region.binds .any e = true → ∀ (o' : Oper) (d' : Nat), ops[e.on]? = some o' → o'.dst = some d' → pred e.on (a.tmps.getD d' undef) w) → R false w →
      wpOpIn F n P ops Q i (fun a' w' => ∃ v, a' = a.put o.dst v ∧ pred i v w' ∧ T w w' ∧ R false w') a w)
    (hstepm : ∀ (o : Oper), ops[m]? = some o → ∀ (a : Act) (w : World), a.tmps.size = a0.tmps.size → a.defers = a0.defers → (∀ (t : Nat), (∀ (j : Nat) (o : Oper), j < m → ops[j]? = some o → o.dst ≠ some t) → a.tmps.getD t undef = a0.tmps.getD t undef) →
      (∀ e ∈ o.after, Region.binds .any e = true → ∀ (o' : Oper) (d' : Nat), ops[e.on]? = some o' → o'.dst = some d' → pred e.on (a.tmps.getD d' undef) w) → R false w →
      wpOpIn F n P ops Q m (fun a' w' => ∃ v, a' = a.put o.dst v ∧ pred m v w' ∧ R true w') a w)
    (hstep2 : ∀ (i : Nat) (o : Oper), m < i → ops[i]? = some o → ∀ (a : Act) (w : World), a.tmps.size = a0.tmps.size → a.defers = a0.defers → (∀ (t : Nat), (∀ (j : Nat) (o : Oper), ops[j]? = some o → o.dst ≠ some t) → a.tmps.getD t undef = a0.tmps.getD t undef) →
      (∀ e ∈ o.after, Region.binds .any e = true → m ≤ e.on → ∀ (o' : Oper) (d' : Nat), ops[e.on]? = some o' → o'.dst = some d' → pred e.on (a.tmps.getD d' undef) w) → R true w →
      wpOpIn F n P ops Q i (fun a' w' => ∃ v, a' = a.put o.dst v ∧ pred i v w' ∧ w = w') a w)
    (hdone : ∀ (a : Act) (w : World), a.tmps.size = a0.tmps.size → a.defers = a0.defers → (∀ (t : Nat), (∀ (j : Nat) (o : Oper), ops[j]? = some o → o.dst ≠ some t) → a.tmps.getD t undef = a0.tmps.getD t undef) →
      (∀ (i : Nat) (o : Oper) (d : Nat), m ≤ i → ops[i]? = some o → o.dst = some d → pred i (a.tmps.getD d undef) w) → R true w → Q .normal a w) :
    ∀ (fuel : Nat) (listed : Array Bool) (a : Act) (w : World), listed.size = ops.size → left ops.size listed ≤ fuel → DrawnJ m ops a0 pred R listed a w → wpAnyIn F n P .any ops Q fuel listed a w := by
  have fin : ∀ (listed : Array Bool) (a : Act) (w : World), listed.size = ops.size → DrawnJ m ops a0 pred R listed a w → Region.ready .any ops listed = [] → Q .normal a w := by
    intro listed a w hs hD hr
    have hmt := ready_none hb hr hs m hm0
    refine hdone a w hD.size hD.defers (fun t ht => hD.frame t (fun j o _ => ht j o)) (fun i o d hmi ho hdd => hD.come i o d ho hdd ?_ (fun _ => hmi)) (hmt ▸ hD.world)
    exact ready_none hb hr hs i (Array.getElem?_eq_some_iff.1 ho).1
  intro fuel
  induction fuel with
  | zero =>
    intro listed a w hs hl hD
    have hr : Region.ready .any ops listed = [] := by
      cases hc : Region.ready .any ops listed with
      | nil => rfl
      | cons i r =>
        have hi : i ∈ Region.ready .any ops listed := by rw [hc]; exact List.mem_cons_self
        obtain ⟨h0, o, ho, _⟩ := mem_ready.1 hi
        have hlt : i < ops.size := (Array.getElem?_eq_some_iff.1 ho).1
        have : 0 < left ops.size listed := by
          unfold left
          rw [List.countP_pos_iff]
          exact ⟨i, List.mem_range.2 hlt, by rw [h0]; rfl⟩
        omega
    exact ⟨hr, fin listed a w hs hD hr⟩
  | succ fuel ih =>
    intro listed a w hs hl hD
    refine ⟨fin listed a w hs hD, fun i hi => ?_⟩
    obtain ⟨h0, o, ho, hdep⟩ := mem_ready.1 hi
    have hlt : i < ops.size := (Array.getElem?_eq_some_iff.1 ho).1
    have hni : listed.getD i false = false := by
      have hlt2 : i < listed.size := by omega
      simp [hlt2] at h0 ⊢
      exact h0
    obtain ⟨d, hdd, hdn, huniq⟩ := apartDst_spec hd ho
    -- what every step owes
    have step : ∀ (v : Value) (w' : World), pred i v w' → R (listed.getD m false || decide (i = m)) w' → (∀ (j : Nat) (o' : Oper) (d' : Nat), ops[j]? = some o' → o'.dst = some d' → listed.getD j false = true → ((listed.getD m false || decide (i = m)) = true → m ≤ j) → pred j (a.tmps.getD d' undef) w → pred j (a.tmps.getD d' undef) w') →
        (∀ (j : Nat), listed.getD j false = true → ((listed.getD m false || decide (i = m)) = true → m ≤ j) → listed.getD m false = true → m ≤ j) →
        ((listed.getD m false || decide (i = m)) = false → i < m) →
        wpAnyIn F n P .any ops Q fuel (listed.setIfInBounds i true) (a.put o.dst v) w' := by
      intro v w' hpv hR hmn hmm hlow
      refine ih _ _ _ (by simpa using hs) ?_ ?_
      · have : left ops.size (listed.setIfInBounds i true) < left ops.size listed := by
          unfold left
          refine countP_lt _ _ _ ?_ ⟨i, List.mem_range.2 hlt, by rw [h0]; rfl, ?_⟩
          · intro x _ hx
            by_cases hxi : i = x
            · subst hxi
              have : i < listed.size := by omega
              simp [this] at hx
            · rw [getD_set_ne true hxi] at hx
              exact hx
          · have : i < listed.size := by omega
            simp [this]
        omega
      · have hmset : (listed.setIfInBounds i true).getD m false = (listed.getD m false || decide (i = m)) := by
          by_cases him : i = m
          · subst him
            have : i < listed.size := by omega
            simp [this]
          · rw [getD_set_ne false him]
            simp [him]
        rw [hdd]
        refine ⟨?_, ?_, ?_, ?_, ?_, ?_⟩
        · simp only [Act.put, Array.size_setIfInBounds]
          exact hD.size
        · exact hD.defers
        · intro t ht
          have hne : d ≠ t := fun e => ht i o (fun hf => by
            rw [hmset] at hf
            exact hlow hf) ho (by rw [hdd, e])
          rw [← hD.frame t (fun j o' hj ho' => ht j o' (fun hf => by
            rw [hmset] at hf
            refine hj ?_
            cases hq : listed.getD m false with
            | false => rfl
            | true => rw [hq] at hf; simp at hf) ho')]
          simp only [Act.put]
          rw [Array.getD_eq_getD_getElem?, Array.getD_eq_getD_getElem?, Array.getElem?_setIfInBounds_ne hne]
        · intro j o' ho' hl' e he hbd
          have old : listed.getD e.on false = true := by
            by_cases hji : i = j
            · subst hji
              have : o' = o := by rw [ho] at ho'; exact (Option.some.inj ho').symm
              subst this
              exact hdep e he hbd
            · rw [getD_set_ne false hji] at hl'
              exact hD.closed j o' ho' hl' e he hbd
          by_cases hei : i = e.on
          · rw [← hei] at old
            rw [hni] at old
            cases old
          · rw [getD_set_ne false hei]
            exact old
        · intro j o' d' ho' hd' hl' hmj
          rw [hmset] at hmj
          by_cases hji : i = j
          · subst hji
            have : o' = o := by rw [ho] at ho'; exact (Option.some.inj ho').symm
            subst this
            have : d' = d := by rw [hdd] at hd'; exact (Option.some.inj hd').symm
            subst this
            have hsz : d' < a.tmps.size := by rw [hD.size]; exact hdn
            simp only [Act.put]
            rw [Array.getD_eq_getD_getElem?, Array.getElem?_setIfInBounds_self_of_lt hsz]
            exact hpv
          · rw [getD_set_ne false hji] at hl'
            have hne : d ≠ d' := fun e => hji (huniq j o' ho' (by rw [hd', e])).symm
            have := hD.come j o' d' ho' hd' hl' (hmm j hl' hmj)
            simp only [Act.put]
            rw [Array.getD_eq_getD_getElem?, Array.getElem?_setIfInBounds_ne hne, ← Array.getD_eq_getD_getElem?]
            exact hmn j o' d' ho' hd' hl' hmj this
        · rw [hmset]
          exact hR
    rcases Nat.lt_trichotomy i m with hlm | rfl | hgm
    · -- ahead of m
      have hm1 : listed.getD m false = false := by
        rw [← Bool.not_eq_true]
        intro hc
        have := parted_fore hp hD.closed (.inl hc) i hlm
        rw [hni] at this
        cases this
      have hR := hD.world
      rw [hm1] at hR
      refine wpOpIn_mono ?_ (hstep1 i o hlm ho a w hD.size hD.defers (fun t ht => hD.frame t (fun j o hj ho => ht j o (hj hm1) ho)) (fun e he hbd o' d' ho' hd' => hD.come _ _ _ ho' hd' (hdep e he hbd) (fun hc => by rw [hm1] at hc; cases hc)) hR)
      rintro a' w' ⟨v, rfl, hpv, hT, hR'⟩
      refine step v w' hpv ?_ ?_ (fun j _ _ hc => by rw [hm1] at hc; cases hc) (fun _ => hlm)
      · rw [hm1]
        simpa [Nat.ne_of_lt hlm] using hR'
      · intro j o' d' ho' hd' hl' _ hpj
        have hjm : j < m := by
          rcases Nat.lt_trichotomy j m with h | rfl | h
          · exact h
          · rw [hm1] at hl'; cases hl'
          · have := parted_aft hp hb hD.closed j o' ho' h (fun e he hbd => hD.closed j o' ho' hl' e he hbd)
            rw [hm1] at this
            cases this
        exact hmono _ _ _ _ hjm hpj hT
    · -- m itself
      have hR := hD.world
      rw [hni] at hR
      refine wpOpIn_mono ?_ (hstepm o ho a w hD.size hD.defers (fun t ht => hD.frame t (fun j o hj ho => ht j o (hj hni) ho)) (fun e he hbd o' d' ho' hd' => hD.come _ _ _ ho' hd' (hdep e he hbd) (fun hc => by rw [hni] at hc; cases hc)) hR)
      rintro a' w' ⟨v, rfl, hpv, hR'⟩
      refine step v w' hpv ?_ ?_ (fun j _ _ hc => by rw [hni] at hc; cases hc) (fun hf => by simp at hf)
      · simpa using hR'
      · intro j o' d' ho' hd' hl' hmj hpj
        have hge := hmj (by simp)
        rcases Nat.lt_or_eq_of_le hge with h | rfl
        · have := parted_aft hp hb hD.closed j o' ho' h (fun e he hbd => hD.closed j o' ho' hl' e he hbd)
          rw [hni] at this
          cases this
        · rw [hni] at hl'
          cases hl'
    · -- behind m
      have hm1 := parted_aft hp hb hD.closed i o ho hgm (fun e he hbd => hdep e he hbd)
      have hR := hD.world
      rw [hm1] at hR
      refine wpOpIn_mono ?_ (hstep2 i o hgm ho a w hD.size hD.defers (fun t ht => hD.frame t (fun j o _ ho => ht j o ho)) (fun e he hbd hme o' d' ho' hd' => hD.come _ _ _ ho' hd' (hdep e he hbd) (fun _ => hme)) hR)
      rintro a' w' ⟨v, rfl, hpv, rfl⟩
      refine step v w hpv ?_ (fun j o' d' _ _ _ _ hpj => hpj) (fun j _ hmj _ => hmj (by rw [hm1]; rfl)) (fun hf => by rw [hm1] at hf; cases hf)
      · rw [hm1]
        simpa using hR

/-- The region. -/
theorem wpIn_region_parted {id : Nat} {a0 : Act} {w0 : World} {pred : Nat → Value → World → Prop} (m : Nat) {R : Bool → World → Prop} {T : World → World → Prop} (hm : P.follows .mixedOrders = true) (hb : Region.backwards ops = true) (hd : Region.apartDst a0.tmps.size ops = true) (hp : Region.parted m ops = true) (hm0 : m < ops.size)
    (hmono : ∀ i v w w', i < m → pred i v w → T w w' → pred i v w') (hR0 : R false w0.drew)
    (hstep1 : ∀ (i : Nat) (o : Oper), i < m → ops[i]? = some o → ∀ (a : Act) (w : World), a.tmps.size = a0.tmps.size → a.defers = a0.defers → (∀ (t : Nat), (∀ (j : Nat) (o : Oper), j < m → ops[j]? = some o → o.dst ≠ some t) → a.tmps.getD t undef = a0.tmps.getD t undef) →
      (∀ e ∈ o.after, Region.binds .any e = true → ∀ (o' : Oper) (d' : Nat), ops[e.on]? = some o' → o'.dst = some d' → pred e.on (a.tmps.getD d' undef) w) → R false w →
      wpOpIn F n P ops Q i (fun a' w' => ∃ v, a' = a.put o.dst v ∧ pred i v w' ∧ T w w' ∧ R false w') a w)
    (hstepm : ∀ (o : Oper), ops[m]? = some o → ∀ (a : Act) (w : World), a.tmps.size = a0.tmps.size → a.defers = a0.defers → (∀ (t : Nat), (∀ (j : Nat) (o : Oper), j < m → ops[j]? = some o → o.dst ≠ some t) → a.tmps.getD t undef = a0.tmps.getD t undef) →
      (∀ e ∈ o.after, Region.binds .any e = true → ∀ (o' : Oper) (d' : Nat), ops[e.on]? = some o' → o'.dst = some d' → pred e.on (a.tmps.getD d' undef) w) → R false w →
      wpOpIn F n P ops Q m (fun a' w' => ∃ v, a' = a.put o.dst v ∧ pred m v w' ∧ R true w') a w)
    (hstep2 : ∀ (i : Nat) (o : Oper), m < i → ops[i]? = some o → ∀ (a : Act) (w : World), a.tmps.size = a0.tmps.size → a.defers = a0.defers → (∀ (t : Nat), (∀ (j : Nat) (o : Oper), ops[j]? = some o → o.dst ≠ some t) → a.tmps.getD t undef = a0.tmps.getD t undef) →
      (∀ e ∈ o.after, Region.binds .any e = true → m ≤ e.on → ∀ (o' : Oper) (d' : Nat), ops[e.on]? = some o' → o'.dst = some d' → pred e.on (a.tmps.getD d' undef) w) → R true w →
      wpOpIn F n P ops Q i (fun a' w' => ∃ v, a' = a.put o.dst v ∧ pred i v w' ∧ w = w') a w)
    (hdone : ∀ (a : Act) (w : World), a.tmps.size = a0.tmps.size → a.defers = a0.defers → (∀ (t : Nat), (∀ (j : Nat) (o : Oper), ops[j]? = some o → o.dst ≠ some t) → a.tmps.getD t undef = a0.tmps.getD t undef) →
      (∀ (i : Nat) (o : Oper) (d : Nat), m ≤ i → ops[i]? = some o → o.dst = some d → pred i (a.tmps.getD d undef) w) → R true w → Q .normal a w) :
    (Code.region id ops true).wpIn F n P Q a0 w0 := by
  have hz : ∀ i, (Array.replicate ops.size false).getD i false = false := by
    intro i
    by_cases hi : i < ops.size <;> simp [hi]
  refine wpIn_region_any hm (wpAnyIn_parted m hb hd hp hm0 hmono hstep1 hstepm hstep2 hdone _ _ _ _ (by simp) ?_ ⟨rfl, rfl, fun _ _ => rfl, ?_, ?_, ?_⟩)
  · unfold left
    exact Nat.le_trans List.countP_le_length (by simp)
  · intro i o ho hl
    rw [hz] at hl
    cases hl
  · intro i o d ho _ hl
    rw [hz] at hl
    cases hl
  · rw [hz]
    exact hR0
end
end Go.Proofs.Ytcpcnajifdicmaa

namespace Go.Proofs.Ytcpcnajifdicmaa
open Go.RowKit
set_option maxRecDepth 20000
section
variable {F : Fence} {n : Nat} {P : Program} {ops : Array Oper} {Q : Exit → Act → World → Prop}

def Region.apartAny (n : Nat) (ops : Array Oper) : Bool :=
  (List.range ops.size).all fun i => (List.range ops.size).all fun j => match ops[i]?, ops[j]? with | some o, some o' => (match o.dst with | some d => decide (d < n) && (decide (i = j) || decide (o'.dst ≠ some d)) | none => true) | _, _ => true
theorem apartAny_spec {n : Nat} (h : Region.apartAny n ops = true) {i : Nat} {o : Oper} (hi : ops[i]? = some o) :
    o.dst = none ∨ ∃ d, o.dst = some d ∧ d < n ∧ ∀ j o', ops[j]? = some o' → o'.dst = some d → j = i := by
  unfold Region.apartAny at h
  rw [List.all_eq_true] at h
  have hl : i < ops.size := (Array.getElem?_eq_some_iff.1 hi).1
  have h1 := h i (List.mem_range.2 hl)
  rw [List.all_eq_true] at h1
  have h2 := h1 i (List.mem_range.2 hl)
  simp only [hi] at h2
  cases hd : o.dst with
  | none => exact .inl rfl
  | some d =>
    rw [hd] at h2
    simp only [decide_true, Bool.true_or, Bool.and_true, decide_eq_true_eq] at h2
    refine .inr ⟨d, rfl, h2, fun j o' hj hd' => ?_⟩
    have hlj : j < ops.size := (Array.getElem?_eq_some_iff.1 hj).1
    have h3 := h1 j (List.mem_range.2 hlj)
    simp only [hi, hj, hd, hd'] at h3
    simp at h3
    exact h3.2.symm

structure DrawnK (m : Nat) (ops : Array Oper) (a0 : Act) (pred : Nat → Value → World → Prop) (R : Bool → World → Prop) (listed : Array Bool) (a : Act) (w : World) : Prop where
  size : a.tmps.size = a0.tmps.size
  defers : a.defers = a0.defers
  frame : ∀ (t : Nat), (∀ (j : Nat) (o : Oper), (listed.getD m false = false → j < m) → ops[j]? = some o → o.dst ≠ some t) → a.tmps.getD t undef = a0.tmps.getD t undef
  closed : ∀ (i : Nat) (o : Oper), ops[i]? = some o → listed.getD i false = true → ∀ e ∈ o.after, Region.binds .any e = true → listed.getD e.on false = true
  come : ∀ (i : Nat) (o : Oper) (d : Nat), ops[i]? = some o → o.dst = some d → listed.getD i false = true → (listed.getD m false = true → m ≤ i) → pred i (a.tmps.getD d undef) w
  world : R (listed.getD m false) w

theorem wpAnyIn_stored {a0 : Act} {pred : Nat → Value → World → Prop} (m : Nat) {R : Bool → World → Prop} {T : World → World → Prop} (hb : Region.backwards ops = true) (hd : Region.apartAny a0.tmps.size ops = true) (hp : Region.parted m ops = true) (hm0 : m < ops.size)
    (hmono : ∀ i v w w', i < m → pred i v w → T w w' → pred i v w')
    (hstep1 : ∀ (i : Nat) (o : Oper), i < m → ops[i]? = some o → ∀ (a : Act) (w : World), a.tmps.size = a0.tmps.size → a.defers = a0.defers → (∀ (t : Nat), (∀ (j : Nat) (o : Oper), j < m → ops[j]? = some o → o.dst ≠ some t) → a.tmps.getD t undef = a0.tmps.getD t undef) →
      (∀ e ∈ o.after, Region.binds .any e = true → ∀ (o' : Oper) (d' : Nat), ops[e.on]? = some o' → o'.dst = some d' → pred e.on (a.tmps.getD d' undef) w) → R false w →
      wpOpIn F n P ops Q i (fun a' w' => ∃ v, a' = a.put o.dst v ∧ pred i v w' ∧ T w w' ∧ R false w') a w)
    (hstepm : ∀ (o : Oper), ops[m]? = some o → ∀ (a : Act) (w : World), a.tmps.size = a0.tmps.size → a.defers = a0.defers → (∀ (t : Nat), (∀ (j : Nat) (o : Oper), j < m → ops[j]? = some o → o.dst ≠ some t) → a.tmps.getD t undef = a0.tmps.getD t undef) →
      (∀ e ∈ o.after, Region.binds .any e = true → ∀ (o' : Oper) (d' : Nat), ops[e.on]? = some o' → o'.dst = some d' → pred e.on (a.tmps.getD d' undef) w) → R false w →
      wpOpIn F n P ops Q m (fun a' w' => ∃ v, a' = a.put o.dst v ∧ pred m v w' ∧ R true w') a w)
    (hstep2 : ∀ (i : Nat) (o : Oper), m < i → ops[i]? = some o → ∀ (a : Act) (w : World), a.tmps.size = a0.tmps.size → a.defers = a0.defers → (∀ (t : Nat), (∀ (j : Nat) (o : Oper), ops[j]? = some o → o.dst ≠ some t) → a.tmps.getD t undef = a0.tmps.getD t undef) →
      (∀ e ∈ o.after, Region.binds .any e = true → m ≤ e.on → ∀ (o' : Oper) (d' : Nat), ops[e.on]? = some o' → o'.dst = some d' → pred e.on (a.tmps.getD d' undef) w) → R true w →
      wpOpIn F n P ops Q i (fun a' w' => ∃ v, a' = a.put o.dst v ∧ pred i v w' ∧ w = w') a w)
    (hdone : ∀ (a : Act) (w : World), a.tmps.size = a0.tmps.size → a.defers = a0.defers → (∀ (t : Nat), (∀ (j : Nat) (o : Oper), ops[j]? = some o → o.dst ≠ some t) → a.tmps.getD t undef = a0.tmps.getD t undef) →
      (∀ (i : Nat) (o : Oper) (d : Nat), m ≤ i → ops[i]? = some o → o.dst = some d → pred i (a.tmps.getD d undef) w) → R true w → Q .normal a w) :
    ∀ (fuel : Nat) (listed : Array Bool) (a : Act) (w : World), listed.size = ops.size → left ops.size listed ≤ fuel → DrawnK m ops a0 pred R listed a w → wpAnyIn F n P .any ops Q fuel listed a w := by
  have fin : ∀ (listed : Array Bool) (a : Act) (w : World), listed.size = ops.size → DrawnK m ops a0 pred R listed a w → Region.ready .any ops listed = [] → Q .normal a w := by
    intro listed a w hs hD hr
    have hmt := ready_none hb hr hs m hm0
    refine hdone a w hD.size hD.defers (fun t ht => hD.frame t (fun j o _ => ht j o)) (fun i o d hmi ho hdd => hD.come i o d ho hdd ?_ (fun _ => hmi)) (hmt ▸ hD.world)
    exact ready_none hb hr hs i (Array.getElem?_eq_some_iff.1 ho).1
  intro fuel
  induction fuel with
  | zero =>
    intro listed a w hs hl hD
    have hr : Region.ready .any ops listed = [] := by
      cases hc : Region.ready .any ops listed with
      | nil => rfl
      | cons i r =>
        have hi : i ∈ Region.ready .any ops listed := by rw [hc]; exact List.mem_cons_self
        obtain ⟨h0, o, ho, _⟩ := mem_ready.1 hi
        have hlt : i < ops.size := (Array.getElem?_eq_some_iff.1 ho).1
        have : 0 < left ops.size listed := by
          unfold left
          rw [List.countP_pos_iff]
          exact ⟨i, List.mem_range.2 hlt, by rw [h0]; rfl⟩
        omega
    exact ⟨hr, fin listed a w hs hD hr⟩
  | succ fuel ih =>
    intro listed a w hs hl hD
    refine ⟨fin listed a w hs hD, fun i hi => ?_⟩
    obtain ⟨h0, o, ho, hdep⟩ := mem_ready.1 hi
    have hlt : i < ops.size := (Array.getElem?_eq_some_iff.1 ho).1
    have hni : listed.getD i false = false := by
      have hlt2 : i < listed.size := by omega
      simp [hlt2] at h0 ⊢
      exact h0
    have hdst := apartAny_spec hd ho
    -- what every step owes
    have step : ∀ (v : Value) (w' : World), pred i v w' → R (listed.getD m false || decide (i = m)) w' → (∀ (j : Nat) (o' : Oper) (d' : Nat), ops[j]? = some o' → o'.dst = some d' → listed.getD j false = true → ((listed.getD m false || decide (i = m)) = true → m ≤ j) → pred j (a.tmps.getD d' undef) w → pred j (a.tmps.getD d' undef) w') →
        (∀ (j : Nat), listed.getD j false = true → ((listed.getD m false || decide (i = m)) = true → m ≤ j) → listed.getD m false = true → m ≤ j) →
        ((listed.getD m false || decide (i = m)) = false → i < m) →
        wpAnyIn F n P .any ops Q fuel (listed.setIfInBounds i true) (a.put o.dst v) w' := by
      intro v w' hpv hR hmn hmm hlow
      refine ih _ _ _ (by simpa using hs) ?_ ?_
      · have : left ops.size (listed.setIfInBounds i true) < left ops.size listed := by
          unfold left
          refine countP_lt _ _ _ ?_ ⟨i, List.mem_range.2 hlt, by rw [h0]; rfl, ?_⟩
          · intro x _ hx
            by_cases hxi : i = x
            · subst hxi
              have : i < listed.size := by omega
              simp [this] at hx
            · rw [getD_set_ne true hxi] at hx
              exact hx
          · have : i < listed.size := by omega
            simp [this]
        omega
      · have hmset : (listed.setIfInBounds i true).getD m false = (listed.getD m false || decide (i = m)) := by
          by_cases him : i = m
          · subst him
            have : i < listed.size := by omega
            simp [this]
          · rw [getD_set_ne false him]
            simp [him]
        rcases hdst with hnone | ⟨d, hdd, hdn, huniq⟩
        · rw [hnone]
          refine ⟨hD.size, hD.defers, ?_, ?_, ?_, ?_⟩
          · intro t ht
            exact hD.frame t (fun j o' hj ho' => ht j o' (fun hf => by
              rw [hmset] at hf
              refine hj ?_
              cases hq : listed.getD m false with
              | false => rfl
              | true => rw [hq] at hf; simp at hf) ho')
          · intro j o' ho' hl' e he hbd
            have old : listed.getD e.on false = true := by
              by_cases hji : i = j
              · subst hji
                have : o' = o := by rw [ho] at ho'; exact (Option.some.inj ho').symm
                subst this
                exact hdep e he hbd
              · rw [getD_set_ne false hji] at hl'
                exact hD.closed j o' ho' hl' e he hbd
            by_cases hei : i = e.on
            · rw [← hei] at old
              rw [hni] at old
              cases old
            · rw [getD_set_ne false hei]
              exact old
          · intro j o' d' ho' hd' hl' hmj
            rw [hmset] at hmj
            by_cases hji : i = j
            · subst hji
              have : o' = o := by rw [ho] at ho'; exact (Option.some.inj ho').symm
              subst this
              rw [hnone] at hd'
              cases hd'
            · rw [getD_set_ne false hji] at hl'
              exact hmn j o' d' ho' hd' hl' hmj (hD.come j o' d' ho' hd' hl' (hmm j hl' hmj))
          · rw [hmset]
            exact hR
        · rw [hdd]
          refine ⟨?_, ?_, ?_, ?_, ?_, ?_⟩
          · simp only [Act.put, Array.size_setIfInBounds]
            exact hD.size
          · exact hD.defers
          · intro t ht
            have hne : d ≠ t := fun e => ht i o (fun hf => by
              rw [hmset] at hf
              exact hlow hf) ho (by rw [hdd, e])
            rw [← hD.frame t (fun j o' hj ho' => ht j o' (fun hf => by
              rw [hmset] at hf
              refine hj ?_
              cases hq : listed.getD m false with
              | false => rfl
              | true => rw [hq] at hf; simp at hf) ho')]
            simp only [Act.put]
            rw [Array.getD_eq_getD_getElem?, Array.getD_eq_getD_getElem?, Array.getElem?_setIfInBounds_ne hne]
          · intro j o' ho' hl' e he hbd
            have old : listed.getD e.on false = true := by
              by_cases hji : i = j
              · subst hji
                have : o' = o := by rw [ho] at ho'; exact (Option.some.inj ho').symm
                subst this
                exact hdep e he hbd
              · rw [getD_set_ne false hji] at hl'
                exact hD.closed j o' ho' hl' e he hbd
            by_cases hei : i = e.on
            · rw [← hei] at old
              rw [hni] at old
              cases old
            · rw [getD_set_ne false hei]
              exact old
          · intro j o' d' ho' hd' hl' hmj
            rw [hmset] at hmj
            by_cases hji : i = j
            · subst hji
              have : o' = o := by rw [ho] at ho'; exact (Option.some.inj ho').symm
              subst this
              have : d' = d := by rw [hdd] at hd'; exact (Option.some.inj hd').symm
              subst this
              have hsz : d' < a.tmps.size := by rw [hD.size]; exact hdn
              simp only [Act.put]
              rw [Array.getD_eq_getD_getElem?, Array.getElem?_setIfInBounds_self_of_lt hsz]
              exact hpv
            · rw [getD_set_ne false hji] at hl'
              have hne : d ≠ d' := fun e => hji (huniq j o' ho' (by rw [hd', e])).symm
              have := hD.come j o' d' ho' hd' hl' (hmm j hl' hmj)
              simp only [Act.put]
              rw [Array.getD_eq_getD_getElem?, Array.getElem?_setIfInBounds_ne hne, ← Array.getD_eq_getD_getElem?]
              exact hmn j o' d' ho' hd' hl' hmj this
          · rw [hmset]
            exact hR
    rcases Nat.lt_trichotomy i m with hlm | rfl | hgm
    · -- ahead of m
      have hm1 : listed.getD m false = false := by
        rw [← Bool.not_eq_true]
        intro hc
        have := parted_fore hp hD.closed (.inl hc) i hlm
        rw [hni] at this
        cases this
      have hR := hD.world
      rw [hm1] at hR
      refine wpOpIn_mono ?_ (hstep1 i o hlm ho a w hD.size hD.defers (fun t ht => hD.frame t (fun j o hj ho => ht j o (hj hm1) ho)) (fun e he hbd o' d' ho' hd' => hD.come _ _ _ ho' hd' (hdep e he hbd) (fun hc => by rw [hm1] at hc; cases hc)) hR)
      rintro a' w' ⟨v, rfl, hpv, hT, hR'⟩
      refine step v w' hpv ?_ ?_ (fun j _ _ hc => by rw [hm1] at hc; cases hc) (fun _ => hlm)
      · rw [hm1]
        simpa [Nat.ne_of_lt hlm] using hR'
      · intro j o' d' ho' hd' hl' _ hpj
        have hjm : j < m := by
          rcases Nat.lt_trichotomy j m with h | rfl | h
          · exact h
          · rw [hm1] at hl'; cases hl'
          · have := parted_aft hp hb hD.closed j o' ho' h (fun e he hbd => hD.closed j o' ho' hl' e he hbd)
            rw [hm1] at this
            cases this
        exact hmono _ _ _ _ hjm hpj hT
    · -- m itself
      have hR := hD.world
      rw [hni] at hR
      refine wpOpIn_mono ?_ (hstepm o ho a w hD.size hD.defers (fun t ht => hD.frame t (fun j o hj ho => ht j o (hj hni) ho)) (fun e he hbd o' d' ho' hd' => hD.come _ _ _ ho' hd' (hdep e he hbd) (fun hc => by rw [hni] at hc; cases hc)) hR)
      rintro a' w' ⟨v, rfl, hpv, hR'⟩
      refine step v w' hpv ?_ ?_ (fun j _ _ hc => by rw [hni] at hc; cases hc) (fun hf => by simp at hf)
      · simpa using hR'
      · intro j o' d' ho' hd' hl' hmj hpj
        have hge := hmj (by simp)
        rcases Nat.lt_or_eq_of_le hge with h | rfl
        · have := parted_aft hp hb hD.closed j o' ho' h (fun e he hbd => hD.closed j o' ho' hl' e he hbd)
          rw [hni] at this
          cases this
        · rw [hni] at hl'
          cases hl'
    · -- behind m
      have hm1 := parted_aft hp hb hD.closed i o ho hgm (fun e he hbd => hdep e he hbd)
      have hR := hD.world
      rw [hm1] at hR
      refine wpOpIn_mono ?_ (hstep2 i o hgm ho a w hD.size hD.defers (fun t ht => hD.frame t (fun j o _ ho => ht j o ho)) (fun e he hbd hme o' d' ho' hd' => hD.come _ _ _ ho' hd' (hdep e he hbd) (fun _ => hme)) hR)
      rintro a' w' ⟨v, rfl, hpv, rfl⟩
      refine step v w hpv ?_ (fun j o' d' _ _ _ _ hpj => hpj) (fun j _ hmj _ => hmj (by rw [hm1]; rfl)) (fun hf => by rw [hm1] at hf; cases hf)
      · rw [hm1]
        simpa using hR

/-- The region. -/
theorem wpIn_region_stored {id : Nat} {a0 : Act} {w0 : World} {pred : Nat → Value → World → Prop} (m : Nat) {R : Bool → World → Prop} {T : World → World → Prop} (hm : P.follows .mixedOrders = true) (hb : Region.backwards ops = true) (hd : Region.apartAny a0.tmps.size ops = true) (hp : Region.parted m ops = true) (hm0 : m < ops.size)
    (hmono : ∀ i v w w', i < m → pred i v w → T w w' → pred i v w') (hR0 : R false w0.drew)
    (hstep1 : ∀ (i : Nat) (o : Oper), i < m → ops[i]? = some o → ∀ (a : Act) (w : World), a.tmps.size = a0.tmps.size → a.defers = a0.defers → (∀ (t : Nat), (∀ (j : Nat) (o : Oper), j < m → ops[j]? = some o → o.dst ≠ some t) → a.tmps.getD t undef = a0.tmps.getD t undef) →
      (∀ e ∈ o.after, Region.binds .any e = true → ∀ (o' : Oper) (d' : Nat), ops[e.on]? = some o' → o'.dst = some d' → pred e.on (a.tmps.getD d' undef) w) → R false w →
      wpOpIn F n P ops Q i (fun a' w' => ∃ v, a' = a.put o.dst v ∧ pred i v w' ∧ T w w' ∧ R false w') a w)
    (hstepm : ∀ (o : Oper), ops[m]? = some o → ∀ (a : Act) (w : World), a.tmps.size = a0.tmps.size → a.defers = a0.defers → (∀ (t : Nat), (∀ (j : Nat) (o : Oper), j < m → ops[j]? = some o → o.dst ≠ some t) → a.tmps.getD t undef = a0.tmps.getD t undef) →
      (∀ e ∈ o.after, Region.binds .any e = true → ∀ (o' : Oper) (d' : Nat), ops[e.on]? = some o' → o'.dst = some d' → pred e.on (a.tmps.getD d' undef) w) → R false w →
      wpOpIn F n P ops Q m (fun a' w' => ∃ v, a' = a.put o.dst v ∧ pred m v w' ∧ R true w') a w)
    (hstep2 : ∀ (i : Nat) (o : Oper), m < i → ops[i]? = some o → ∀ (a : Act) (w : World), a.tmps.size = a0.tmps.size → a.defers = a0.defers → (∀ (t : Nat), (∀ (j : Nat) (o : Oper), ops[j]? = some o → o.dst ≠ some t) → a.tmps.getD t undef = a0.tmps.getD t undef) →
      (∀ e ∈ o.after, Region.binds .any e = true → m ≤ e.on → ∀ (o' : Oper) (d' : Nat), ops[e.on]? = some o' → o'.dst = some d' → pred e.on (a.tmps.getD d' undef) w) → R true w →
      wpOpIn F n P ops Q i (fun a' w' => ∃ v, a' = a.put o.dst v ∧ pred i v w' ∧ w = w') a w)
    (hdone : ∀ (a : Act) (w : World), a.tmps.size = a0.tmps.size → a.defers = a0.defers → (∀ (t : Nat), (∀ (j : Nat) (o : Oper), ops[j]? = some o → o.dst ≠ some t) → a.tmps.getD t undef = a0.tmps.getD t undef) →
      (∀ (i : Nat) (o : Oper) (d : Nat), m ≤ i → ops[i]? = some o → o.dst = some d → pred i (a.tmps.getD d undef) w) → R true w → Q .normal a w) :
    (Code.region id ops true).wpIn F n P Q a0 w0 := by
  have hz : ∀ i, (Array.replicate ops.size false).getD i false = false := by
    intro i
    by_cases hi : i < ops.size <;> simp [hi]
  refine wpIn_region_any hm (wpAnyIn_stored m hb hd hp hm0 hmono hstep1 hstepm hstep2 hdone _ _ _ _ (by simp) ?_ ⟨rfl, rfl, fun _ _ => rfl, ?_, ?_, ?_⟩)
  · unfold left
    exact Nat.le_trans List.countP_le_length (by simp)
  · intro i o ho hl
    rw [hz] at hl
    cases hl
  · intro i o d ho _ hl
    rw [hz] at hl
    cases hl
  · rw [hz]
    exact hR0
end
end Go.Proofs.Ytcpcnajifdicmaa

namespace Go.Proofs.Ytcpcnajifdicmaa
open Go.RowKit
set_option maxRecDepth 20000
section
variable {F : Fence} {n : Nat} {P : Program} {ops : Array Oper} {Q : Exit → Act → World → Prop}

structure DrawnL (m : Nat) (ops : Array Oper) (a0 : Act) (pred : Nat → Value → World → Prop) (R : World → Prop) (listed : Array Bool) (a : Act) (w : World) : Prop where
  size : a.tmps.size = a0.tmps.size
  defers : a.defers = a0.defers
  frame : ∀ (t : Nat), (∀ (j : Nat) (o : Oper), j < m → ops[j]? = some o → o.dst ≠ some t) → a.tmps.getD t undef = a0.tmps.getD t undef
  closed : ∀ (i : Nat) (o : Oper), ops[i]? = some o → listed.getD i false = true → ∀ e ∈ o.after, Region.binds .any e = true → listed.getD e.on false = true
  come : ∀ (i : Nat) (o : Oper) (d : Nat), ops[i]? = some o → o.dst = some d → listed.getD i false = true → pred i (a.tmps.getD d undef) w
  notyet : listed.getD m false = false
  world : R w

theorem wpAnyIn_last {a0 : Act} {pred : Nat → Value → World → Prop} (m : Nat) {R : World → Prop} {T : World → World → Prop} (hb : Region.backwards ops = true) (hd : Region.apartAny a0.tmps.size ops = true) (hp : Region.parted m ops = true) (hm0 : ops.size = m + 1)
    (hmono : ∀ i v w w', i < m → pred i v w → T w w' → pred i v w')
    (hstep1 : ∀ (i : Nat) (o : Oper), i < m → ops[i]? = some o → ∀ (a : Act) (w : World), a.tmps.size = a0.tmps.size → a.defers = a0.defers → (∀ (t : Nat), (∀ (j : Nat) (o : Oper), j < m → ops[j]? = some o → o.dst ≠ some t) → a.tmps.getD t undef = a0.tmps.getD t undef) →
      (∀ e ∈ o.after, Region.binds .any e = true → ∀ (o' : Oper) (d' : Nat), ops[e.on]? = some o' → o'.dst = some d' → pred e.on (a.tmps.getD d' undef) w) → R w →
      wpOpIn F n P ops Q i (fun a' w' => ∃ v, a' = a.put o.dst v ∧ pred i v w' ∧ T w w' ∧ R w') a w)
    (hlast : ∀ (o : Oper), ops[m]? = some o → ∀ (a : Act) (w : World), a.tmps.size = a0.tmps.size → a.defers = a0.defers → (∀ (t : Nat), (∀ (j : Nat) (o : Oper), j < m → ops[j]? = some o → o.dst ≠ some t) → a.tmps.getD t undef = a0.tmps.getD t undef) →
      (∀ (i : Nat) (o : Oper) (d : Nat), i < m → ops[i]? = some o → o.dst = some d → pred i (a.tmps.getD d undef) w) → R w →
      wpOpIn F n P ops Q m (fun a' w' => Q .normal a' w') a w) :
    ∀ (fuel : Nat) (listed : Array Bool) (a : Act) (w : World), listed.size = ops.size → left ops.size listed ≤ fuel → DrawnL m ops a0 pred R listed a w → wpAnyIn F n P .any ops Q fuel listed a w := by
  have fin : ∀ (listed : Array Bool) (a : Act) (w : World), listed.size = ops.size → DrawnL m ops a0 pred R listed a w → Region.ready .any ops listed = [] → False := by
    intro listed a w hs hD hr
    have hmt := ready_none hb hr hs m (by omega)
    rw [hD.notyet] at hmt
    cases hmt
  intro fuel
  induction fuel with
  | zero =>
    intro listed a w hs hl hD
    exfalso
    refine fin listed a w hs hD ?_
    cases hc : Region.ready .any ops listed with
    | nil => rfl
    | cons i r =>
      have hi : i ∈ Region.ready .any ops listed := by rw [hc]; exact List.mem_cons_self
      obtain ⟨h0, o, ho, _⟩ := mem_ready.1 hi
      have hlt : i < ops.size := (Array.getElem?_eq_some_iff.1 ho).1
      have : 0 < left ops.size listed := by
        unfold left
        rw [List.countP_pos_iff]
        exact ⟨i, List.mem_range.2 hlt, by rw [h0]; rfl⟩
      omega
  | succ fuel ih =>
    intro listed a w hs hl hD
    refine ⟨fun hr => (fin listed a w hs hD hr).elim, fun i hi => ?_⟩
    obtain ⟨h0, o, ho, hdep⟩ := mem_ready.1 hi
    have hlt : i < ops.size := (Array.getElem?_eq_some_iff.1 ho).1
    have hni : listed.getD i false = false := by
      have hlt2 : i < listed.size := by omega
      simp [hlt2] at h0 ⊢
      exact h0
    rcases Nat.lt_or_ge i m with hlm | hge
    · refine wpOpIn_mono ?_ (hstep1 i o hlm ho a w hD.size hD.defers hD.frame (fun e he hbd o' d' ho' hd' => hD.come _ _ _ ho' hd' (hdep e he hbd)) hD.world)
      rintro a' w' ⟨v, rfl, hpv, hT, hR'⟩
      have hmn : ∀ (j : Nat) (o' : Oper) (d' : Nat), ops[j]? = some o' → o'.dst = some d' → listed.getD j false = true → pred j (a.tmps.getD d' undef) w' := by
        intro j o' d' ho' hd' hl'
        have hjm : j < m := by
          have hjs : j < ops.size := (Array.getElem?_eq_some_iff.1 ho').1
          have : j ≠ m := fun e => by rw [e, hD.notyet] at hl'; cases hl'
          omega
        exact hmono _ _ _ _ hjm (hD.come j o' d' ho' hd' hl') hT
      refine ih _ _ _ (by simpa using hs) ?_ ?_
      · have : left ops.size (listed.setIfInBounds i true) < left ops.size listed := by
          unfold left
          refine countP_lt _ _ _ ?_ ⟨i, List.mem_range.2 hlt, by rw [h0]; rfl, ?_⟩
          · intro x _ hx
            by_cases hxi : i = x
            · subst hxi
              have : i < listed.size := by omega
              simp [this] at hx
            · rw [getD_set_ne true hxi] at hx
              exact hx
          · have : i < listed.size := by omega
            simp [this]
        omega
      · have hclo : ∀ (j : Nat) (o' : Oper), ops[j]? = some o' → (listed.setIfInBounds i true).getD j false = true → ∀ e ∈ o'.after, Region.binds .any e = true → (listed.setIfInBounds i true).getD e.on false = true := by
          intro j o' ho' hl' e he hbd
          have old : listed.getD e.on false = true := by
            by_cases hji : i = j
            · subst hji
              have : o' = o := by rw [ho] at ho'; exact (Option.some.inj ho').symm
              subst this
              exact hdep e he hbd
            · rw [getD_set_ne false hji] at hl'
              exact hD.closed j o' ho' hl' e he hbd
          by_cases hei : i = e.on
          · rw [← hei] at old
            rw [hni] at old
            cases old
          · rw [getD_set_ne false hei]
            exact old
        have hnm : (listed.setIfInBounds i true).getD m false = false := by
          rw [getD_set_ne false (by omega)]
          exact hD.notyet
        rcases apartAny_spec hd ho with hnone | ⟨d, hdd, hdn, huniq⟩
        · rw [hnone]
          refine ⟨hD.size, hD.defers, hD.frame, hclo, ?_, hnm, hR'⟩
          intro j o' d' ho' hd' hl'
          by_cases hji : i = j
          · subst hji
            have : o' = o := by rw [ho] at ho'; exact (Option.some.inj ho').symm
            subst this
            rw [hnone] at hd'
            cases hd'
          · rw [getD_set_ne false hji] at hl'
            exact hmn j o' d' ho' hd' hl'
        · rw [hdd]
          refine ⟨?_, hD.defers, ?_, hclo, ?_, hnm, hR'⟩
          · simp only [Act.put, Array.size_setIfInBounds]
            exact hD.size
          · intro t ht
            have hne : d ≠ t := fun e => ht i o hlm ho (by rw [hdd, e])
            rw [← hD.frame t ht]
            simp only [Act.put]
            rw [Array.getD_eq_getD_getElem?, Array.getD_eq_getD_getElem?, Array.getElem?_setIfInBounds_ne hne]
          · intro j o' d' ho' hd' hl'
            by_cases hji : i = j
            · subst hji
              have : o' = o := by rw [ho] at ho'; exact (Option.some.inj ho').symm
              subst this
              have : d' = d := by rw [hdd] at hd'; exact (Option.some.inj hd').symm
              subst this
              have hsz : d' < a.tmps.size := by rw [hD.size]; exact hdn
              simp only [Act.put]
              rw [Array.getD_eq_getD_getElem?, Array.getElem?_setIfInBounds_self_of_lt hsz]
              exact hpv
            · rw [getD_set_ne false hji] at hl'
              have hne : d ≠ d' := fun e => hji (huniq j o' ho' (by rw [hd', e])).symm
              simp only [Act.put]
              rw [Array.getD_eq_getD_getElem?, Array.getElem?_setIfInBounds_ne hne, ← Array.getD_eq_getD_getElem?]
              exact hmn j o' d' ho' hd' hl'
    · obtain rfl : i = m := by omega
      have hall := parted_fore hp hD.closed (.inr (fun o' ho' e he hbd => by rw [ho] at ho'; cases ho'; exact hdep e he hbd))
      refine wpOpIn_mono ?_ (hlast o ho a w hD.size hD.defers hD.frame (fun j o' d' hj ho' hd' => hD.come j o' d' ho' hd' (hall j hj)) hD.world)
      intro a' w' hq
      have hnone : Region.ready .any ops (listed.setIfInBounds i true) = [] := by
        cases hc : Region.ready .any ops (listed.setIfInBounds i true) with
        | nil => rfl
        | cons j r =>
          have hj : j ∈ Region.ready .any ops (listed.setIfInBounds i true) := by rw [hc]; exact List.mem_cons_self
          obtain ⟨h1, o', ho', _⟩ := mem_ready.1 hj
          have hjs : j < ops.size := (Array.getElem?_eq_some_iff.1 ho').1
          exfalso
          by_cases hji : i = j
          · subst hji
            have : i < listed.size := by omega
            simp [this] at h1
          · rw [getD_set_ne true hji] at h1
            have h2 := hall j (by omega)
            have : j < listed.size := by omega
            simp [this] at h1 h2
            rw [h1] at h2
            cases h2
      cases fuel with
      | zero => exact ⟨hnone, hq⟩
      | succ fuel => exact ⟨fun _ => hq, fun j hj => by rw [hnone] at hj; cases hj⟩

theorem wpIn_region_last {id : Nat} {a0 : Act} {w0 : World} {pred : Nat → Value → World → Prop} (m : Nat) {R : World → Prop} {T : World → World → Prop} (hm : P.follows .mixedOrders = true) (hb : Region.backwards ops = true) (hd : Region.apartAny a0.tmps.size ops = true) (hp : Region.parted m ops = true) (hm0 : ops.size = m + 1)
    (hmono : ∀ i v w w', i < m → pred i v w → T w w' → pred i v w') (hR0 : R w0.drew)
    (hstep1 : ∀ (i : Nat) (o : Oper), i < m → ops[i]? = some o → ∀ (a : Act) (w : World), a.tmps.size = a0.tmps.size → a.defers = a0.defers → (∀ (t : Nat), (∀ (j : Nat) (o : Oper), j < m → ops[j]? = some o → o.dst ≠ some t) → a.tmps.getD t undef = a0.tmps.getD t undef) →
      (∀ e ∈ o.after, Region.binds .any e = true → ∀ (o' : Oper) (d' : Nat), ops[e.on]? = some o' → o'.dst = some d' → pred e.on (a.tmps.getD d' undef) w) → R w →
      wpOpIn F n P ops Q i (fun a' w' => ∃ v, a' = a.put o.dst v ∧ pred i v w' ∧ T w w' ∧ R w') a w)
    (hlast : ∀ (o : Oper), ops[m]? = some o → ∀ (a : Act) (w : World), a.tmps.size = a0.tmps.size → a.defers = a0.defers → (∀ (t : Nat), (∀ (j : Nat) (o : Oper), j < m → ops[j]? = some o → o.dst ≠ some t) → a.tmps.getD t undef = a0.tmps.getD t undef) →
      (∀ (i : Nat) (o : Oper) (d : Nat), i < m → ops[i]? = some o → o.dst = some d → pred i (a.tmps.getD d undef) w) → R w →
      wpOpIn F n P ops Q m (fun a' w' => Q .normal a' w') a w) :
    (Code.region id ops true).wpIn F n P Q a0 w0 := by
  have hz : ∀ i, (Array.replicate ops.size false).getD i false = false := by
    intro i
    by_cases hi : i < ops.size <;> simp [hi]
  refine wpIn_region_any hm (wpAnyIn_last m hb hd hp hm0 hmono hstep1 hlast _ _ _ _ (by simp) ?_ ⟨rfl, rfl, fun _ _ => rfl, ?_, ?_, hz m, hR0⟩)
  · unfold left
    exact Nat.le_trans List.countP_le_length (by simp)
  · intro i o ho hl
    rw [hz] at hl
    cases hl
  · intro i o d ho _ hl
    rw [hz] at hl
    cases hl
end
end Go.Proofs.Ytcpcnajifdicmaa

