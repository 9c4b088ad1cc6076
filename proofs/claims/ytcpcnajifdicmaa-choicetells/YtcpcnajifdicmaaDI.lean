/- Regions that draw their order, within a fence; one operation of them is a round. -/
import Derived.Test.YtcpcnajifdicmaaQO
import Derived.OrdersIn
import Derived.RangeFuncNested
import Derived.RangeFuncLeaves
namespace Go.Proofs.Ytcpcnajifdicmaa
open Go.RowKit
set_option maxRecDepth 20000
section
variable {F : Fence} {n : Nat} {P : Program} {ops : Array Oper} {Q : Exit → Act → World → Prop}

/-- Each operation ahead of m leads to m; each behind it hangs on one from m on. -/
def Region.parted (m : Nat) (ops : Array Oper) : Bool :=
  ((List.range m).all fun j => (List.range (m + 1)).any fun i => decide (j < i) && match ops[i]? with | some o => o.after.any (fun e => decide (e.on = j) && Region.binds .any e) | none => false) &&
  ((List.range ops.size).all fun j => decide (j ≤ m) || match ops[j]? with | some o => o.after.any (fun e => decide (m ≤ e.on) && Region.binds .any e) | none => true)

structure DrawnIn (m : Nat) (ops : Array Oper) (a0 : Act) (pred : Nat → Value → World → Prop) (R : Bool → World → Prop) (listed : Array Bool) (a : Act) (w : World) : Prop where
  size : a.tmps.size = a0.tmps.size
  defers : a.defers = a0.defers
  frame : ∀ (t : Nat), (∀ (j : Nat) (o : Oper), ops[j]? = some o → o.dst ≠ some t) → a.tmps.getD t undef = a0.tmps.getD t undef
  closed : ∀ (i : Nat) (o : Oper), ops[i]? = some o → listed.getD i false = true → ∀ e ∈ o.after, Region.binds .any e = true → listed.getD e.on false = true
  come : ∀ (i : Nat) (o : Oper) (d : Nat), ops[i]? = some o → o.dst = some d → listed.getD i false = true → (listed.getD m false = true → m ≤ i) → pred i (a.tmps.getD d undef) w
  world : R (listed.getD m false) w

theorem parted_fore {m : Nat} (hp : Region.parted m ops = true) {listed : Array Bool} (hc : ∀ (i : Nat) (o : Oper), ops[i]? = some o → listed.getD i false = true → ∀ e ∈ o.after, Region.binds .any e = true → listed.getD e.on false = true)
    (hm : listed.getD m false = true ∨ ∀ o, ops[m]? = some o → ∀ e ∈ o.after, Region.binds .any e = true → listed.getD e.on false = true) : ∀ j, j < m → listed.getD j false = true := by
  unfold Region.parted at hp
  rw [Bool.and_eq_true, List.all_eq_true] at hp
  have key : ∀ d j, m - j = d → j < m → listed.getD j false = true := by
    intro d
    induction d using Nat.strongRecOn with
    | _ d ih =>
      intro j hd hj
      have h1 := hp.1 j (List.mem_range.2 hj)
      rw [List.any_eq_true] at h1
      obtain ⟨i, hi, h2⟩ := h1
      rw [List.mem_range] at hi
      rw [Bool.and_eq_true, decide_eq_true_iff] at h2
      cases ho : ops[i]? with
      | none => rw [ho] at h2; simp at h2
      | some o =>
        rw [ho] at h2
        simp only at h2
        have h3 := h2.2
        rw [Array.any_eq_true'] at h3
        obtain ⟨e, he, h4⟩ := h3
        rw [Bool.and_eq_true, decide_eq_true_iff] at h4
        rw [← h4.1]
        by_cases him : i = m
        · subst him
          rcases hm with hm | hm
          · exact hc i o ho hm e he h4.2
          · exact hm o ho e he h4.2
        · exact hc i o ho (ih (m - i) (by omega) i rfl (by omega)) e he h4.2
  intro j hj
  exact key _ j rfl hj
theorem parted_aft {m : Nat} (hp : Region.parted m ops = true) (hb : Region.backwards ops = true) {listed : Array Bool} (hc : ∀ (i : Nat) (o : Oper), ops[i]? = some o → listed.getD i false = true → ∀ e ∈ o.after, Region.binds .any e = true → listed.getD e.on false = true)
    (j : Nat) (o : Oper) (ho : ops[j]? = some o) (hj : m < j) (hl : ∀ e ∈ o.after, Region.binds .any e = true → listed.getD e.on false = true) : listed.getD m false = true := by
  unfold Region.parted at hp
  rw [Bool.and_eq_true, List.all_eq_true, List.all_eq_true] at hp
  have key : ∀ j, ∀ o, ops[j]? = some o → m < j → (∀ e ∈ o.after, Region.binds .any e = true → listed.getD e.on false = true) → listed.getD m false = true := by
    intro j
    induction j using Nat.strongRecOn with
    | _ j ih =>
      intro o ho hj hl
      have h1 := hp.2 j (List.mem_range.2 (Array.getElem?_eq_some_iff.1 ho).1)
      rw [Bool.or_eq_true, decide_eq_true_iff] at h1
      rcases h1 with h1 | h1
      · omega
      · rw [ho] at h1
        simp only at h1
        rw [Array.any_eq_true'] at h1
        obtain ⟨e, he, h4⟩ := h1
        rw [Bool.and_eq_true, decide_eq_true_iff] at h4
        have hle := hl e he h4.2
        have hlt := backwards_spec hb ho he
        by_cases hem : e.on = m
        · rw [← hem]; exact hle
        · have hsz : e.on < ops.size := by have := (Array.getElem?_eq_some_iff.1 ho).1; omega
          exact ih e.on hlt ops[e.on] (Array.getElem?_eq_getElem hsz) (by omega) (fun e' he' hb' => hc e.on ops[e.on] (Array.getElem?_eq_getElem hsz) hle e' he' hb')
  exact key j o ho hj hl

theorem wpAnyIn_drawn {a0 : Act} {pred : Nat → Value → World → Prop} (m : Nat) {R : Bool → World → Prop} {T : World → World → Prop} (hb : Region.backwards ops = true) (hd : Region.apartDst a0.tmps.size ops = true) (hp : Region.parted m ops = true) (hm0 : m < ops.size)
    (hmono : ∀ i v w w', i < m → pred i v w → T w w' → pred i v w')
    (hstep1 : ∀ (i : Nat) (o : Oper), i < m → ops[i]? = some o → ∀ (a : Act) (w : World), a.tmps.size = a0.tmps.size → a.defers = a0.defers → (∀ (t : Nat), (∀ (j : Nat) (o : Oper), ops[j]? = some o → o.dst ≠ some t) → a.tmps.getD t undef = a0.tmps.getD t undef) →
      (∀ e ∈ o.after, Region.binds .any e = true → ∀ (o' : Oper) (d' : Nat), ops[e.on]? = some o' → o'.dst = some d' → pred e.on (a.tmps.getD d' undef) w) → R false w →
      wpOpIn F n P ops Q i (fun a' w' => ∃ v, a' = a.put o.dst v ∧ pred i v w' ∧ T w w' ∧ R false w') a w)
    (hstepm : ∀ (o : Oper), ops[m]? = some o → ∀ (a : Act) (w : World), a.tmps.size = a0.tmps.size → a.defers = a0.defers → (∀ (t : Nat), (∀ (j : Nat) (o : Oper), ops[j]? = some o → o.dst ≠ some t) → a.tmps.getD t undef = a0.tmps.getD t undef) →
      (∀ e ∈ o.after, Region.binds .any e = true → ∀ (o' : Oper) (d' : Nat), ops[e.on]? = some o' → o'.dst = some d' → pred e.on (a.tmps.getD d' undef) w) → R false w →
      wpOpIn F n P ops Q m (fun a' w' => ∃ v, a' = a.put o.dst v ∧ pred m v w' ∧ R true w') a w)
    (hstep2 : ∀ (i : Nat) (o : Oper), m < i → ops[i]? = some o → ∀ (a : Act) (w : World), a.tmps.size = a0.tmps.size → a.defers = a0.defers → (∀ (t : Nat), (∀ (j : Nat) (o : Oper), ops[j]? = some o → o.dst ≠ some t) → a.tmps.getD t undef = a0.tmps.getD t undef) →
      (∀ e ∈ o.after, Region.binds .any e = true → m ≤ e.on → ∀ (o' : Oper) (d' : Nat), ops[e.on]? = some o' → o'.dst = some d' → pred e.on (a.tmps.getD d' undef) w) → R true w →
      wpOpIn F n P ops Q i (fun a' w' => ∃ v, a' = a.put o.dst v ∧ pred i v w' ∧ w = w') a w)
    (hdone : ∀ (a : Act) (w : World), a.tmps.size = a0.tmps.size → a.defers = a0.defers → (∀ (t : Nat), (∀ (j : Nat) (o : Oper), ops[j]? = some o → o.dst ≠ some t) → a.tmps.getD t undef = a0.tmps.getD t undef) →
      (∀ (i : Nat) (o : Oper) (d : Nat), m ≤ i → ops[i]? = some o → o.dst = some d → pred i (a.tmps.getD d undef) w) → R true w → Q .normal a w) :
    ∀ (fuel : Nat) (listed : Array Bool) (a : Act) (w : World), listed.size = ops.size → left ops.size listed ≤ fuel → DrawnIn m ops a0 pred R listed a w → wpAnyIn F n P .any ops Q fuel listed a w := by
  have fin : ∀ (listed : Array Bool) (a : Act) (w : World), listed.size = ops.size → DrawnIn m ops a0 pred R listed a w → Region.ready .any ops listed = [] → Q .normal a w := by
    intro listed a w hs hD hr
    have hmt := ready_none hb hr hs m hm0
    refine hdone a w hD.size hD.defers hD.frame (fun i o d hmi ho hdd => hD.come i o d ho hdd ?_ (fun _ => hmi)) (hmt ▸ hD.world)
    exact ready_none hb hr hs i (Array.getElem?_eq_some_iff.1 ho).1
  intro fuel
  induction fuel with
  | zero =>
    intro listed a w hs hl hD
    have hr : Region.ready .any ops listed = [] := by
      cases hc : Region.ready .any ops listed with
      | nil => rfl
      | cons i r =>
        have hi : i ∈ Region.ready .any ops listed := by rw [hc]; exact List.mem_cons_self
        obtain ⟨h0, o, ho, _⟩ := mem_ready.1 hi
        have hlt : i < ops.size := (Array.getElem?_eq_some_iff.1 ho).1
        have : 0 < left ops.size listed := by
          unfold left
          rw [List.countP_pos_iff]
          exact ⟨i, List.mem_range.2 hlt, by rw [h0]; rfl⟩
        omega
    exact ⟨hr, fin listed a w hs hD hr⟩
  | succ fuel ih =>
    intro listed a w hs hl hD
    refine ⟨fin listed a w hs hD, fun i hi => ?_⟩
    obtain ⟨h0, o, ho, hdep⟩ := mem_ready.1 hi
    have hlt : i < ops.size := (Array.getElem?_eq_some_iff.1 ho).1
    have hni : listed.getD i false = false := by
      have hlt2 : i < listed.size := by omega
      simp [hlt2] at h0 ⊢
      exact h0
    obtain ⟨d, hdd, hdn, huniq⟩ := apartDst_spec hd ho
    -- what every step owes
    have step : ∀ (v : Value) (w' : World), pred i v w' → R (listed.getD m false || decide (i = m)) w' → (∀ (j : Nat) (o' : Oper) (d' : Nat), ops[j]? = some o' → o'.dst = some d' → listed.getD j false = true → ((listed.getD m false || decide (i = m)) = true → m ≤ j) → pred j (a.tmps.getD d' undef) w → pred j (a.tmps.getD d' undef) w') →
        (∀ (j : Nat), listed.getD j false = true → ((listed.getD m false || decide (i = m)) = true → m ≤ j) → listed.getD m false = true → m ≤ j) →
        wpAnyIn F n P .any ops Q fuel (listed.setIfInBounds i true) (a.put o.dst v) w' := by
      intro v w' hpv hR hmn hmm
      refine ih _ _ _ (by simpa using hs) ?_ ?_
      · have : left ops.size (listed.setIfInBounds i true) < left ops.size listed := by
          unfold left
          refine countP_lt _ _ _ ?_ ⟨i, List.mem_range.2 hlt, by rw [h0]; rfl, ?_⟩
          · intro x _ hx
            by_cases hxi : i = x
            · subst hxi
              have : i < listed.size := by omega
              simp [this] at hx
            · rw [getD_set_ne true hxi] at hx
              exact hx
          · have : i < listed.size := by omega
            simp [this]
        omega
      · have hmset : (listed.setIfInBounds i true).getD m false = (listed.getD m false || decide (i = m)) := by
          by_cases him : i = m
          · subst him
            have : i < listed.size := by omega
            simp [this]
          · rw [getD_set_ne false him]
            simp [him]
        rw [hdd]
        refine ⟨?_, ?_, ?_, ?_, ?_, ?_⟩
        · simp only [Act.put, Array.size_setIfInBounds]
          exact hD.size
        · exact hD.defers
        · intro t ht
          have hne : d ≠ t := fun e => ht i o ho (by rw [hdd, e])
          rw [← hD.frame t ht]
          simp only [Act.put]
          rw [Array.getD_eq_getD_getElem?, Array.getD_eq_getD_getElem?, Array.getElem?_setIfInBounds_ne hne]
        · intro j o' ho' hl' e he hbd
          have old : listed.getD e.on false = true := by
            by_cases hji : i = j
            · subst hji
              have : o' = o := by rw [ho] at ho'; exact (Option.some.inj ho').symm
              subst this
              exact hdep e he hbd
            · rw [getD_set_ne false hji] at hl'
              exact hD.closed j o' ho' hl' e he hbd
          by_cases hei : i = e.on
          · rw [← hei] at old
            rw [hni] at old
            cases old
          · rw [getD_set_ne false hei]
            exact old
        · intro j o' d' ho' hd' hl' hmj
          rw [hmset] at hmj
          by_cases hji : i = j
          · subst hji
            have : o' = o := by rw [ho] at ho'; exact (Option.some.inj ho').symm
            subst this
            have : d' = d := by rw [hdd] at hd'; exact (Option.some.inj hd').symm
            subst this
            have hsz : d' < a.tmps.size := by rw [hD.size]; exact hdn
            simp only [Act.put]
            rw [Array.getD_eq_getD_getElem?, Array.getElem?_setIfInBounds_self_of_lt hsz]
            exact hpv
          · rw [getD_set_ne false hji] at hl'
            have hne : d ≠ d' := fun e => hji (huniq j o' ho' (by rw [hd', e])).symm
            have := hD.come j o' d' ho' hd' hl' (hmm j hl' hmj)
            simp only [Act.put]
            rw [Array.getD_eq_getD_getElem?, Array.getElem?_setIfInBounds_ne hne, ← Array.getD_eq_getD_getElem?]
            exact hmn j o' d' ho' hd' hl' hmj this
        · rw [hmset]
          exact hR
    rcases Nat.lt_trichotomy i m with hlm | rfl | hgm
    · -- ahead of m
      have hm1 : listed.getD m false = false := by
        rw [← Bool.not_eq_true]
        intro hc
        have := parted_fore hp hD.closed (.inl hc) i hlm
        rw [hni] at this
        cases this
      have hR := hD.world
      rw [hm1] at hR
      refine wpOpIn_mono ?_ (hstep1 i o hlm ho a w hD.size hD.defers hD.frame (fun e he hbd o' d' ho' hd' => hD.come _ _ _ ho' hd' (hdep e he hbd) (fun hc => by rw [hm1] at hc; cases hc)) hR)
      rintro a' w' ⟨v, rfl, hpv, hT, hR'⟩
      refine step v w' hpv ?_ ?_ (fun j _ _ hc => by rw [hm1] at hc; cases hc)
      · rw [hm1]
        simpa [Nat.ne_of_lt hlm] using hR'
      · intro j o' d' ho' hd' hl' _ hpj
        have hjm : j < m := by
          rcases Nat.lt_trichotomy j m with h | rfl | h
          · exact h
          · rw [hm1] at hl'; cases hl'
          · have := parted_aft hp hb hD.closed j o' ho' h (fun e he hbd => hD.closed j o' ho' hl' e he hbd)
            rw [hm1] at this
            cases this
        exact hmono _ _ _ _ hjm hpj hT
    · -- m itself
      have hR := hD.world
      rw [hni] at hR
      refine wpOpIn_mono ?_ (hstepm o ho a w hD.size hD.defers hD.frame (fun e he hbd o' d' ho' hd' => hD.come _ _ _ ho' hd' (hdep e he hbd) (fun hc => by rw [hni] at hc; cases hc)) hR)
      rintro a' w' ⟨v, rfl, hpv, hR'⟩
      refine step v w' hpv ?_ ?_ (fun j _ _ hc => by rw [hni] at hc; cases hc)
      · simpa using hR'
      · intro j o' d' ho' hd' hl' hmj hpj
        have hge := hmj (by simp)
        rcases Nat.lt_or_eq_of_le hge with h | rfl
        · have := parted_aft hp hb hD.closed j o' ho' h (fun e he hbd => hD.closed j o' ho' hl' e he hbd)
          rw [hni] at this
          cases this
        · rw [hni] at hl'
          cases hl'
    · -- behind m
      have hm1 := parted_aft hp hb hD.closed i o ho hgm (fun e he hbd => hdep e he hbd)
      have hR := hD.world
      rw [hm1] at hR
      refine wpOpIn_mono ?_ (hstep2 i o hgm ho a w hD.size hD.defers hD.frame (fun e he hbd hme o' d' ho' hd' => hD.come _ _ _ ho' hd' (hdep e he hbd) (fun _ => hme)) hR)
      rintro a' w' ⟨v, rfl, hpv, rfl⟩
      refine step v w hpv ?_ (fun j o' d' _ _ _ _ hpj => hpj) (fun j _ hmj _ => hmj (by rw [hm1]; rfl))
      · rw [hm1]
        simpa using hR

/-- The region. -/
theorem wpIn_region_drawn {id : Nat} {a0 : Act} {w0 : World} {pred : Nat → Value → World → Prop} (m : Nat) {R : Bool → World → Prop} {T : World → World → Prop} (hm : P.follows .mixedOrders = true) (hb : Region.backwards ops = true) (hd : Region.apartDst a0.tmps.size ops = true) (hp : Region.parted m ops = true) (hm0 : m < ops.size)
    (hmono : ∀ i v w w', i < m → pred i v w → T w w' → pred i v w') (hR0 : R false w0.drew)
    (hstep1 : ∀ (i : Nat) (o : Oper), i < m → ops[i]? = some o → ∀ (a : Act) (w : World), a.tmps.size = a0.tmps.size → a.defers = a0.defers → (∀ (t : Nat), (∀ (j : Nat) (o : Oper), ops[j]? = some o → o.dst ≠ some t) → a.tmps.getD t undef = a0.tmps.getD t undef) →
      (∀ e ∈ o.after, Region.binds .any e = true → ∀ (o' : Oper) (d' : Nat), ops[e.on]? = some o' → o'.dst = some d' → pred e.on (a.tmps.getD d' undef) w) → R false w →
      wpOpIn F n P ops Q i (fun a' w' => ∃ v, a' = a.put o.dst v ∧ pred i v w' ∧ T w w' ∧ R false w') a w)
    (hstepm : ∀ (o : Oper), ops[m]? = some o → ∀ (a : Act) (w : World), a.tmps.size = a0.tmps.size → a.defers = a0.defers → (∀ (t : Nat), (∀ (j : Nat) (o : Oper), ops[j]? = some o → o.dst ≠ some t) → a.tmps.getD t undef = a0.tmps.getD t undef) →
      (∀ e ∈ o.after, Region.binds .any e = true → ∀ (o' : Oper) (d' : Nat), ops[e.on]? = some o' → o'.dst = some d' → pred e.on (a.tmps.getD d' undef) w) → R false w →
      wpOpIn F n P ops Q m (fun a' w' => ∃ v, a' = a.put o.dst v ∧ pred m v w' ∧ R true w') a w)
    (hstep2 : ∀ (i : Nat) (o : Oper), m < i → ops[i]? = some o → ∀ (a : Act) (w : World), a.tmps.size = a0.tmps.size → a.defers = a0.defers → (∀ (t : Nat), (∀ (j : Nat) (o : Oper), ops[j]? = some o → o.dst ≠ some t) → a.tmps.getD t undef = a0.tmps.getD t undef) →
      (∀ e ∈ o.after, Region.binds .any e = true → m ≤ e.on → ∀ (o' : Oper) (d' : Nat), ops[e.on]? = some o' → o'.dst = some d' → pred e.on (a.tmps.getD d' undef) w) → R true w →
      wpOpIn F n P ops Q i (fun a' w' => ∃ v, a' = a.put o.dst v ∧ pred i v w' ∧ w = w') a w)
    (hdone : ∀ (a : Act) (w : World), a.tmps.size = a0.tmps.size → a.defers = a0.defers → (∀ (t : Nat), (∀ (j : Nat) (o : Oper), ops[j]? = some o → o.dst ≠ some t) → a.tmps.getD t undef = a0.tmps.getD t undef) →
      (∀ (i : Nat) (o : Oper) (d : Nat), m ≤ i → ops[i]? = some o → o.dst = some d → pred i (a.tmps.getD d undef) w) → R true w → Q .normal a w) :
    (Code.region id ops true).wpIn F n P Q a0 w0 := by
  have hz : ∀ i, (Array.replicate ops.size false).getD i false = false := by
    intro i
    by_cases hi : i < ops.size <;> simp [hi]
  refine wpIn_region_any hm (wpAnyIn_drawn m hb hd hp hm0 hmono hstep1 hstepm hstep2 hdone _ _ _ _ (by simp) ?_ ⟨rfl, rfl, fun _ _ => rfl, ?_, ?_, ?_⟩)
  · unfold left
    exact Nat.le_trans List.countP_le_length (by simp)
  · intro i o ho hl
    rw [hz] at hl
    cases hl
  · intro i o d ho _ hl
    rw [hz] at hl
    cases hl
  · rw [hz]
    exact hR0
end

section
variable {n : Nat} {P : Program} {ops : Array Oper} {Q : Exit → Act → World → Prop} {i : Nat} {o : Oper} {a : Act} {w w' : World} {v : Value} {K : Act → World → Prop}
theorem gIn_val (ho : ops[i]? = some o) (hw : Region.wanted o (yielded ops a.tmps) = true) (hnd : ∀ c, o.op ≠ .defer c) (hrun : (execOp a.eval o).run P w = .ok (.value v) w') (h : K (a.put o.dst v) w') : wpOpIn Fence.wide n P ops Q i K a w := by
  unfold wpOpIn
  simp only [ho, hw, if_true]
  refine ⟨fun _ _ => trivial, ?_⟩
  rw [Oper.semAt_eq _ _ _ hnd, hrun]
  exact h
theorem gIn_enter (ho : ops[i]? = some o) (hw : Region.wanted o (yielded ops a.tmps) = true) (hnd : ∀ c, o.op ≠ .defer c) (f : Nat) (args : Array Value) (hrun : (execOp a.eval o).run P w = .ok (.enter f args) w)
    (h : Calls P f args w fun e w' => ∃ u, e = .returned u ∧ K (a.put o.dst u) w') : wpOpIn Fence.wide n P ops Q i K a w := by
  unfold wpOpIn
  simp only [ho, hw, if_true]
  refine ⟨fun _ _ => trivial, ?_⟩
  rw [Oper.semAt_eq _ _ _ hnd, hrun]
  refine ⟨fun hd => (by simp [Fence.wide] at hd), callsIn_wide.2 (h.mono ?_)⟩
  rintro e w' ⟨u, rfl, hk⟩
  exact hk
theorem gIn_round (ho : ops[i]? = some o) (hw : Region.wanted o (yielded ops a.tmps) = true) (hnd : ∀ c, o.op ≠ .defer c) {l : Nat} {f : FuncId} {tmps : Array Value} {assign body : Code} (hrun : (execOp a.eval o).run P w = .ok (.round l f tmps assign body) w)
    (h : RoundIn Fence.wide (n - 1) P l f tmps assign body w fun e w' => ∃ u, e = .returned u ∧ K (a.put o.dst u) w') : wpOpIn Fence.wide n P ops Q i K a w := by
  unfold wpOpIn
  simp only [ho, hw, if_true]
  refine ⟨fun _ _ => trivial, ?_⟩
  rw [Oper.semAt_eq _ _ _ hnd, hrun]
  refine ⟨fun hd => (by simp [Fence.wide] at hd), RoundIn.mono h ?_⟩
  rintro e w' ⟨u, rfl, hk⟩
  exact hk
theorem gIn_mv {x : Operand} (ho : ops[i]? = some o) (hw : Region.wanted o (yielded ops a.tmps) = true) (hop : o.op = .move x ∨ o.op = .assign x) (hs : a.eval x = v) (h : K (a.put o.dst v) w) : wpOpIn Fence.wide n P ops Q i K a w := by
  refine gIn_val ho hw ?_ ?_ h
  · intro c hc; rcases hop with hop | hop <;> rw [hop] at hc <;> cases hc
  · rcases hop with hop | hop <;> simp [execOp, hop, hs]
theorem gIn_fld {T : TypeId} {x : Operand} {f : Nat} {u : Value} (ho : ops[i]? = some o) (hw : Region.wanted o (yielded ops a.tmps) = true) (hop : o.op = .fieldAddr T x f) (hs : a.eval x = u) (hr : (Instr.fieldAt T u f).run P w = .ok v w) (h : K (a.put o.dst v) w) : wpOpIn Fence.wide n P ops Q i K a w :=
  gIn_val ho hw (by intro c hc; rw [hop] at hc; cases hc) (by simp [execOp, hop, hs, hr]) h
theorem gIn_ld {T : TypeId} {x : Operand} {u : Value} (ho : ops[i]? = some o) (hw : Region.wanted o (yielded ops a.tmps) = true) (hop : o.op = .load T x) (hs : a.eval x = u) (hr : (Instr.loadAt T u).run P w = .ok v w) (h : K (a.put o.dst v) w) : wpOpIn Fence.wide n P ops Q i K a w :=
  gIn_val ho hw (by intro c hc; rw [hop] at hc; cases hc) (by simp [execOp, hop, hs, hr]) h
theorem gIn_ix {T : TypeId} {x y : Operand} {u z : Value} (ho : ops[i]? = some o) (hw : Region.wanted o (yielded ops a.tmps) = true) (hop : o.op = .indexAddr T x y) (hs : a.eval x = u) (ht : a.eval y = z) (hr : (Instr.indexAt T u z).run P w = .ok v w) (h : K (a.put o.dst v) w) : wpOpIn Fence.wide n P ops Q i K a w :=
  gIn_val ho hw (by intro c hc; rw [hop] at hc; cases hc) (by simp [execOp, hop, hs, ht, hr]) h
theorem gIn_not {T : TypeId} {x : Operand} {b : Bool} (ho : ops[i]? = some o) (hw : Region.wanted o (yielded ops a.tmps) = true) (hop : o.op = .unOp .not T x) (hs : a.eval x = .bool b) (h : K (a.put o.dst (.bool (!b))) w) : wpOpIn Fence.wide n P ops Q i K a w :=
  gIn_val ho hw (by intro c hc; rw [hop] at hc; cases hc) (by simp only [execOp, hop, hs]; rfl) h
end

/-! ### Marks -/
def marks (Ds : List Nat) : List Deferred := Ds.map fun D => { target := .collected D, args := #[] }
def shut : List Nat → World → World
  | [], w => w
  | D :: Ds, w => shut Ds (w.putObj D (.deferred none))
def Marked (Ds : List Nat) (w : World) : Prop := Ds.Nodup ∧ ∀ D ∈ Ds, w.heap[D]? = some (.deferred (some []))
theorem put_block (w : World) (D : Nat) (o : Obj) (b : Nat) (h : b ≠ D) : (w.putObj D o).heap[b]? = w.heap[b]? := by
  simp only [World.putObj]
  exact Array.getElem?_setIfInBounds_ne (Ne.symm h)
theorem leaves_marks {F : Fence} {n : Nat} {P : Program} {fn : Func} {tmps : Array Value} {R : Ending → World → Prop} : ∀ (Ds : List Nat) (w : World), Marked Ds w → LeavesIn F n P fn tmps R [] .returning (shut Ds w) → LeavesInM F n P fn tmps R (marks Ds) .returning w
  | [], _, _, h => h
  | D :: Ds, w, ⟨hn, hm⟩, h => by
    refine ⟨by simp, .inl ⟨D, _, rfl, run_takeDeferred (hm D (by simp)), ?_⟩⟩
    rw [List.nodup_cons] at hn
    refine leaves_marks Ds _ ⟨hn.2, fun E hE => ?_⟩ h
    rw [put_block _ _ _ _ (fun e => hn.1 (by rw [← e]; exact hE))]
    exact hm E (by simp [hE])
theorem shut_block : ∀ (Ds : List Nat) (w : World) (b : Nat), (∀ D ∈ Ds, b ≠ D) → (shut Ds w).heap[b]? = w.heap[b]?
  | [], _, _, _ => rfl
  | D :: Ds, w, b, h => by
    show (shut Ds (w.putObj D (.deferred none))).heap[b]? = _
    rw [shut_block Ds _ b (fun E hE => h E (by simp [hE])), put_block _ _ _ _ (h D (by simp))]
theorem shut_below {B : Nat} : ∀ (Ds : List Nat) (w0 w : World), Below B w0 w → (∀ D ∈ Ds, B ≤ D) → Below B w0 (shut Ds w)
  | [], _, _, h, _ => h
  | D :: Ds, w0, w, h, hD => by
    refine shut_below Ds w0 _ ⟨h.os, h.tape, h.output, ?_, fun k hk => ?_⟩ (fun E hE => hD E (by simp [hE]))
    · simp only [World.putObj, Array.size_setIfInBounds]; exact h.size
    · have hne : k ≠ D := by have := hD D (by simp); omega
      rw [put_block _ _ _ _ hne]
      exact h.block k hk
theorem Marked.kept {Ds : List Nat} {w w' : World} (h : Marked Ds w) (hk : ∀ D ∈ Ds, w'.heap[D]? = w.heap[D]?) : Marked Ds w' := ⟨h.1, fun D hD => (hk D hD).trans (h.2 D hD)⟩
theorem Marked.lt {Ds : List Nat} {w : World} (h : Marked Ds w) : ∀ D ∈ Ds, D < w.heap.size := fun D hD => (Array.getElem?_eq_some_iff.1 (h.2 D hD)).1
theorem Marked.cons {Ds : List Nat} {w w' : World} {D : Nat} (h : Marked Ds w) (hD : w.heap.size ≤ D) (h' : Marked Ds w') (hd : w'.heap[D]? = some (.deferred (some []))) : Marked (D :: Ds) w' :=
  ⟨List.nodup_cons.2 ⟨fun hm => by have := h.lt D hm; omega, h.1⟩, fun E hE => by
    rcases List.mem_cons.1 hE with rfl | hE
    · exact hd
    · exact h'.2 E hE⟩
/-- A mark stays where what is no cells stays. -/
theorem marked_own (Ds : List Nat) (B : Nat) (hB : ∀ D ∈ Ds, D < B) {β : Type} : OwnFrom B (fun (_ : β) W => Marked Ds W) := by
  intro s W W' row hs hg hr
  refine hs.kept fun D hD => hg.block D (hs.lt D hD) ?_
  intro e
  have := (hr D e.symm).1
  have := hB D hD
  omega
end Go.Proofs.Ytcpcnajifdicmaa
