/- A region that draws its order, by a state: what is so once these operations have been. -/
import Derived.Test.YtcjopphefmogiaaDraw
import Derived.Test.YtcjopphefmogiaaQO
import Derived.Test.YtcjopphefmogiaaQP
namespace Go.Proofs.Ytcjopphefmogiaa
open Go.RowKit
set_option maxRecDepth 20000

theorem tmps_lit (a : Array Value) (n : Nat) (h : a.size = n) : a = ((List.range n).map fun i => a.getD i undef).toArray := by
  subst h
  apply Array.ext
  · simp
  · intro i h1 h2
    simp [Array.getD, h1]
section
variable {P : Program} {ops : Array Oper} {Q : Exit → Act → World → Prop}
/-- An operation that leaves no value. -/
theorem gOp_st {i : Nat} {o : Oper} {a : Act} {w w' : World} {K : Act → World → Prop} (ho : ops[i]? = some o) (hw : Region.wanted o (yielded ops a.tmps) = true) (hrun : (execOp a.eval o).run P w = .ok .skip w') (h : K (a.put o.dst undef) w') : wpOp P ops Q i K a w := by
  unfold wpOp
  simp only [ho, hw, if_true]
  refine .inl ?_
  unfold Oper.wp
  rw [hrun, Oper.upon_skip]
  exact h
/-- Done, besides: this one. -/
def also (d : Nat → Bool) (i : Nat) : Nat → Bool := fun j => if j = i then true else d j
theorem also_set (listed : Array Bool) (i : Nat) (h : i < listed.size) : (fun j => (listed.setIfInBounds i true).getD j false) = also (fun j => listed.getD j false) i := by
  funext j
  unfold also
  by_cases hji : j = i
  · subst hji
    simp [h]
  · rw [if_neg hji, getD_set_ne false (fun e => hji e.symm)]
theorem wpAny_state {J : (Nat → Bool) → Act → World → Prop} (hb : Region.backwards ops = true)
    (hstep : ∀ (i : Nat) (o : Oper) (d : Nat → Bool), ops[i]? = some o → d i = false → (∀ e ∈ o.after, Region.binds .any e = true → d e.on = true) → ∀ (a : Act) (w : World), J d a w → wpOp P ops Q i (fun a' w' => J (also d i) a' w') a w)
    (hdone : ∀ (d : Nat → Bool) (a : Act) (w : World), (∀ i, i < ops.size → d i = true) → J d a w → Q .normal a w) :
    ∀ (fuel : Nat) (listed : Array Bool) (a : Act) (w : World), listed.size = ops.size → left ops.size listed ≤ fuel → J (fun j => listed.getD j false) a w → wpAny P .any ops Q fuel listed a w := by
  have fin : ∀ (listed : Array Bool) (a : Act) (w : World), listed.size = ops.size → J (fun j => listed.getD j false) a w → Region.ready .any ops listed = [] → Q .normal a w :=
    fun listed a w hs hJ hr => hdone _ a w (fun i hi => ready_none hb hr hs i hi) hJ
  intro fuel
  induction fuel with
  | zero =>
    intro listed a w hs hl hJ
    have hr : Region.ready .any ops listed = [] := by
      cases hc : Region.ready .any ops listed with
      | nil => rfl
      | cons i r =>
        have hi : i ∈ Region.ready .any ops listed := by rw [hc]; exact List.mem_cons_self
        obtain ⟨h0, o, ho, _⟩ := mem_ready.1 hi
        have hlt : i < ops.size := (Array.getElem?_eq_some_iff.1 ho).1
        have : 0 < left ops.size listed := by
          unfold left
          rw [List.countP_pos_iff]
          exact ⟨i, List.mem_range.2 hlt, by rw [h0]; rfl⟩
        omega
    exact ⟨hr, fin listed a w hs hJ hr⟩
  | succ fuel ih =>
    intro listed a w hs hl hJ
    refine ⟨fin listed a w hs hJ, fun i hi => ?_⟩
    obtain ⟨h0, o, ho, hdep⟩ := mem_ready.1 hi
    have hlt : i < ops.size := (Array.getElem?_eq_some_iff.1 ho).1
    have hls : i < listed.size := by omega
    have h0' : listed.getD i false = false := by
      rw [Array.getD_eq_getD_getElem?] at h0 ⊢
      rw [Array.getElem?_eq_getElem hls] at h0 ⊢
      exact h0
    refine wpOp_mono ?_ (hstep i o _ ho h0' hdep a w hJ)
    intro a' w' hJ'
    refine ih _ _ _ (by simpa using hs) ?_ (by rw [also_set listed i hls]; exact hJ')
    have : left ops.size (listed.setIfInBounds i true) < left ops.size listed := by
      unfold left
      refine countP_lt _ _ _ ?_ ⟨i, List.mem_range.2 hlt, by rw [h0]; rfl, ?_⟩
      · intro x _ hx
        by_cases hxi : i = x
        · subst hxi
          simp [hls] at hx
        · rw [getD_set_ne true hxi] at hx
          exact hx
      · simp [hls]
    omega
theorem wp_region_state {id : Nat} {a0 : Act} {w0 : World} (J : (Nat → Bool) → Act → World → Prop) (hm : P.follows .mixedOrders = true) (hb : Region.backwards ops = true) (hstart : J (fun _ => false) a0 w0.drew)
    (hstep : ∀ (i : Nat) (o : Oper) (d : Nat → Bool), ops[i]? = some o → d i = false → (∀ e ∈ o.after, Region.binds .any e = true → d e.on = true) → ∀ (a : Act) (w : World), J d a w → wpOp P ops Q i (fun a' w' => J (also d i) a' w') a w)
    (hdone : ∀ (d : Nat → Bool) (a : Act) (w : World), (∀ i, i < ops.size → d i = true) → J d a w → Q .normal a w) :
    (Code.region id ops true).wp P Q a0 w0 := by
  refine wp_region_any hm (wpAny_state (J := J) hb hstep hdone _ _ _ _ (by simp) ?_ ?_)
  · unfold left
    exact Nat.le_trans List.countP_le_length (by simp)
  · have : (fun j => (Array.replicate ops.size false).getD j false) = fun _ => false := by
      funext j
      rw [Array.getD_eq_getD_getElem?, Array.getElem?_replicate]
      split <;> rfl
    rw [this]
    exact hstart
theorem wp_region_from {id : Nat} {a0 : Act} {w0 : World} (J : Act → World → (Nat → Bool) → Act → World → Prop) (hm : P.follows .mixedOrders = true) (hb : Region.backwards ops = true) (hstart : J a0 w0 (fun _ => false) a0 w0.drew)
    (hstep : ∀ (i : Nat) (o : Oper) (d : Nat → Bool), ops[i]? = some o → d i = false → (∀ e ∈ o.after, Region.binds .any e = true → d e.on = true) → ∀ (a : Act) (w : World), J a0 w0 d a w → wpOp P ops Q i (fun a' w' => J a0 w0 (also d i) a' w') a w)
    (hdone : ∀ (d : Nat → Bool) (a : Act) (w : World), (∀ i, i < ops.size → d i = true) → J a0 w0 d a w → Q .normal a w) :
    (Code.region id ops true).wp P Q a0 w0 := wp_region_state (J a0 w0) hm hb hstart hstep hdone
end
end Go.Proofs.Ytcjopphefmogiaa
