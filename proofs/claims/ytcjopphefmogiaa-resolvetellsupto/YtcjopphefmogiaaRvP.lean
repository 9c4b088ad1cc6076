/- resolve, plainly: snapshots, what counts, what changed, what is picked. -/
import Derived.Test.YtcjopphefmogiaaRP
namespace Go.Proofs.Ytcjopphefmogiaa
open Go.RowKit
set_option maxRecDepth 20000
set_option linter.unusedVariables false

structure Rv.S where
  v : Int
  l : List Rp.Pt
deriving DecidableEq
def Rv.s0 : Rv.S := ⟨0, []⟩
def Rv.chk (s : Rv.S) : Int := if s.v < 0 ∨ 1073741824 < s.v then 4 else Rp.checkE s.l
/-- The first error of some. -/
def Rv.firstE : List Rv.S → Int
  | [] => 0
  | s :: t => if Rv.chk s = 0 then Rv.firstE t else Rv.chk s
def Rv.step (a : Rv.S × Nat) (s : Rv.S) : Rv.S × Nat := if a.1.v < s.v then (s, a.2 + 1) else a
def Rv.run (old : Rv.S) (l : List Rv.S) : Rv.S × Nat := l.foldl Rv.step (old, 0)
def Rv.applyE (old : Rv.S) (l : List Rv.S) : Int := Rv.firstE (old :: l)
def Rv.applyS (old : Rv.S) (l : List Rv.S) : Rv.S := if Rv.applyE old l = 0 then (Rv.run old l).1 else Rv.s0
def Rv.applyN (old : Rv.S) (l : List Rv.S) : Nat := if Rv.applyE old l = 0 then (Rv.run old l).2 else 0

theorem Rv.first_zero {l : List Rv.S} : Rv.firstE l = 0 ↔ ∀ s, s ∈ l → Rv.chk s = 0 := by
  induction l with
  | nil => simp [Rv.firstE]
  | cons a t ih =>
    unfold Rv.firstE
    by_cases h : Rv.chk a = 0
    · rw [if_pos h, ih]; simp [h]
    · rw [if_neg h]; simp [h]
theorem Rv.step_v (a : Rv.S × Nat) (s : Rv.S) : (Rv.step a s).1.v = max a.1.v s.v ∧ a.2 ≤ (Rv.step a s).2 ∧ (Rv.step a s).2 ≤ a.2 + 1 ∧ ((Rv.step a s).2 = a.2 ↔ s.v ≤ a.1.v) ∧ (s.v ≤ a.1.v → Rv.step a s = a) := by
  unfold Rv.step
  by_cases h : a.1.v < s.v
  · rw [if_pos h]; refine ⟨?_, ?_, ?_, ?_, ?_⟩ <;> (try dsimp only) <;> omega
  · rw [if_neg h]; refine ⟨?_, ?_, ?_, ?_, ?_⟩ <;> first | omega | (intro _; rfl)
theorem Rv.run_from (a : Rv.S × Nat) (l : List Rv.S) : a.1.v ≤ (l.foldl Rv.step a).1.v ∧ (∀ s, s ∈ l → s.v ≤ (l.foldl Rv.step a).1.v) ∧ a.2 ≤ (l.foldl Rv.step a).2 ∧ (l.foldl Rv.step a).2 ≤ a.2 + l.length ∧ (a.2 < (l.foldl Rv.step a).2 ↔ a.1.v < (l.foldl Rv.step a).1.v) ∧ ((l.foldl Rv.step a).1 = a.1 ∨ (l.foldl Rv.step a).1 ∈ l) := by
  induction l generalizing a with
  | nil => refine ⟨Int.le_refl _, fun s hs => absurd hs (List.not_mem_nil), Nat.le_refl _, Nat.le_refl _, ?_, .inl rfl⟩; simp
  | cons x t ih =>
    obtain ⟨h1, h2, h3, h4, h5, h6⟩ := ih (Rv.step a x)
    obtain ⟨g1, g2, g3, g4, g5⟩ := Rv.step_v a x
    rw [List.foldl_cons]
    refine ⟨by omega, ?_, by omega, by simp only [List.length_cons]; omega, ?_, ?_⟩
    · intro s hs
      rcases List.mem_cons.1 hs with rfl | hs
      · omega
      · exact h2 s hs
    · by_cases hx : x.v ≤ a.1.v
      · rw [g5 hx] at h5 ⊢; exact h5
      · have : a.2 < (Rv.step a x).2 := by
          have : (Rv.step a x).2 ≠ a.2 := fun h => hx (g4.1 h)
          omega
        constructor <;> intro _ <;> omega
    · rcases h6 with h6 | h6
      · by_cases hx : x.v ≤ a.1.v
        · rw [g5 hx] at h6 ⊢; exact .inl h6
        · right
          have : Rv.step a x = (x, a.2 + 1) := by unfold Rv.step; rw [if_pos (by omega)]
          rw [h6, this]
          exact List.mem_cons_self
      · exact .inr (List.mem_cons_of_mem _ h6)
theorem Rv.run_facts (old : Rv.S) (l : List Rv.S) : old.v ≤ (Rv.run old l).1.v ∧ (∀ s, s ∈ l → s.v ≤ (Rv.run old l).1.v) ∧ (Rv.run old l).2 ≤ l.length ∧ (0 < (Rv.run old l).2 ↔ old.v < (Rv.run old l).1.v) ∧ ((Rv.run old l).1 = old ∨ (Rv.run old l).1 ∈ l) := by
  obtain ⟨h1, h2, h3, h4, h5, h6⟩ := Rv.run_from (old, 0) l
  unfold Rv.run
  exact ⟨h1, h2, by omega, h5, h6⟩
/-- What comes again counts no more. -/
theorem Rv.run_again (x : Rv.S) (l : List Rv.S) (h : ∀ s, s ∈ l → s.v ≤ x.v) : Rv.run x l = (x, 0) := by
  unfold Rv.run
  induction l with
  | nil => rfl
  | cons a t ih =>
    rw [List.foldl_cons, (Rv.step_v (x, 0) a).2.2.2.2 (h a List.mem_cons_self)]
    exact ih fun s hs => h s (List.mem_cons_of_mem _ hs)
/-- What counts is told by its version alone, where no two are of one version. -/
theorem Rv.run_is {old : Rv.S} {l : List Rv.S} (hd : ∀ a, a ∈ old :: l → ∀ b, b ∈ old :: l → a.v = b.v → a = b ∨ (a.v ≤ old.v)) (s : Rv.S) (hs : s ∈ old :: l) (hm : ∀ a, a ∈ old :: l → a.v ≤ s.v) (ho : old.v < s.v) : (Rv.run old l).1 = s := by
  obtain ⟨h1, h2, h3, h4, h5⟩ := Rv.run_facts old l
  have e : (Rv.run old l).1.v = s.v := by
    have a1 : (Rv.run old l).1.v ≤ s.v := by
      rcases h5 with h5 | h5
      · rw [h5]; omega
      · exact hm _ (List.mem_cons_of_mem _ h5)
    have a2 : s.v ≤ (Rv.run old l).1.v := by
      rcases List.mem_cons.1 hs with h | h
      · rw [h]; exact h1
      · exact h2 s h
    omega
  have hin : (Rv.run old l).1 ∈ old :: l := by
    rcases h5 with h5 | h5
    · rw [h5]; exact List.mem_cons_self
    · exact List.mem_cons_of_mem _ h5
  rcases hd _ hin s hs e with h | h
  · exact h
  · omega
theorem Rv.two_order (old a b : Rv.S) (h : a.v ≠ b.v) : (Rv.run old [a, b]).1 = (Rv.run old [b, a]).1 := by
  simp only [Rv.run, Rv.step, List.foldl_cons, List.foldl_nil]
  by_cases h1 : old.v < a.v <;> by_cases h2 : old.v < b.v <;> by_cases h3 : a.v < b.v <;> by_cases h4 : b.v < a.v <;> simp [*] <;> omega
theorem Rv.two_again (old a b : Rv.S) : Rv.run (Rv.run old [a, b]).1 [a, b] = ((Rv.run old [a, b]).1, 0) := by
  obtain ⟨h1, h2, h3, h4, h5⟩ := Rv.run_facts old [a, b]
  exact Rv.run_again _ _ h2
theorem Rv.two_error (old a b : Rv.S) : Rv.applyE old [a, b] = 0 ↔ Rv.applyE old [b, a] = 0 := by
  unfold Rv.applyE
  rw [Rv.first_zero, Rv.first_zero]
  simp only [List.mem_cons, List.not_mem_nil, or_false]
  constructor <;> (intro h s hs; exact h s (by rcases hs with h | h | h <;> simp [h]))
theorem Rv.apply_chk {old : Rv.S} {l : List Rv.S} (h : Rv.applyE old l = 0) : Rv.chk (Rv.run old l).1 = 0 := by
  have h0 := Rv.first_zero.1 h
  rcases (Rv.run_facts old l).2.2.2.2 with e | e
  · rw [e]; exact h0 _ List.mem_cons_self
  · exact h0 _ (List.mem_cons_of_mem _ e)

/-- IDs, weights. -/
def Rv.ids (s : Rv.S) : List Int := s.l.map (·.1)
def Rv.wt (l : List Rp.Pt) (id : Int) : Int := match l.find? (fun b => decide (b.1 = id)) with | some b => b.2 | none => 0
def Rv.more (a b : Rv.S) : List Int := (b.l.filter fun x => decide (Rv.wt a.l x.1 = 0)).map (·.1)
def Rv.other (a b : Rv.S) : List Int := (b.l.filter fun x => !decide (Rv.wt a.l x.1 = 0) && !decide (Rv.wt a.l x.1 = x.2)).map (·.1)
def Rv.diffE (a b : Rv.S) : Int := Rv.firstE [a, b]
def Rv.sum (s : Rv.S) : Int := (s.l.map (·.2)).sum
def Rv.rise (l : List Int) : Bool := (List.range l.length).all fun i => decide (i = 0) || decide (l.getD (i - 1) 0 < l.getD i 0)
def Rv.pickE (s : Rv.S) (ids : List Int) : Int := if Rv.chk s ≠ 0 then Rv.chk s else if ids.any (fun id => decide (Rv.wt s.l id = 0)) then 71 else if Rv.rise ids then 0 else 6
def Rv.pick (s : Rv.S) (ids : List Int) : List Rp.Pt := if Rv.pickE s ids = 0 then ids.map (fun id => (id, Rv.wt s.l id)) else []

/-- What a snapshot that may be is like. -/
structure Rv.Good (l : List Rp.Pt) : Prop where
  up : l.Pairwise (fun x y => x.1 < y.1)
  pos : ∀ b, b ∈ l → 0 ≤ b.1 ∧ b.1 ≤ 2147483647 ∧ 1 ≤ b.2 ∧ b.2 ≤ 16
  few : l.length ≤ 32

theorem Rv.pairs_of {α : Type} {d : α} (R : α → α → Prop) (tr : ∀ x y z, R x y → R y z → R x z) {l : List α} (h : ∀ i, i + 1 < l.length → R (l.getD i d) (l.getD (i + 1) d)) : l.Pairwise R := by
  rw [List.pairwise_iff_getElem]
  intro i j hi hj hij
  have go : ∀ k (hk : i + k + 1 < l.length), R l[i] l[i + k + 1] := by
    intro k
    induction k with
    | zero =>
      intro hk
      have := h i hk
      rw [List.getD_eq_getElem?_getD, List.getD_eq_getElem?_getD, List.getElem?_eq_getElem (by omega : i < l.length), List.getElem?_eq_getElem hk] at this
      exact this
    | succ k ih =>
      intro hk
      have := h (i + k + 1) hk
      rw [List.getD_eq_getElem?_getD, List.getD_eq_getElem?_getD, List.getElem?_eq_getElem (by omega : i + k + 1 < l.length), List.getElem?_eq_getElem (by omega : i + k + 1 + 1 < l.length)] at this
      exact tr _ _ _ (ih (by omega)) this
  obtain ⟨k, rfl⟩ : ∃ k, j = i + k + 1 := ⟨j - i - 1, by omega⟩
  exact go k hj
theorem Rv.good {s : Rv.S} (h : Rv.chk s = 0) : Rv.Good s.l ∧ 0 ≤ s.v ∧ s.v ≤ 1073741824 := by
  unfold Rv.chk at h
  by_cases hv : s.v < 0 ∨ 1073741824 < s.v
  · rw [if_pos hv] at h; omega
  · rw [if_neg hv] at h
    unfold Rp.checkE at h
    by_cases h1 : 32 < s.l.length
    · rw [if_pos h1] at h; omega
    · rw [if_neg h1] at h
      by_cases h2 : s.l.any Rp.outside
      · rw [if_pos h2] at h; omega
      · rw [if_neg h2] at h
        by_cases h3 : Rp.rises s.l
        · refine ⟨⟨?_, ?_, by omega⟩, by omega, by omega⟩
          · refine Rv.pairs_of (d := ((0, 0) : Rp.Pt)) (fun x y : Rp.Pt => x.1 < y.1) (fun x y z a b => Int.lt_trans a b) fun i hi => ?_
            unfold Rp.rises at h3
            rw [List.all_eq_true] at h3
            have := h3 (i + 1) (List.mem_range.2 hi)
            simp only [Nat.add_one_ne_zero, decide_false, Bool.false_or, Nat.add_sub_cancel, decide_eq_true_eq] at this
            exact this
          · intro b hb
            have : Rp.outside b = false := by
              cases ho : Rp.outside b with
              | false => rfl
              | true => exact absurd (List.any_eq_true.2 ⟨b, hb, ho⟩) h2
            unfold Rp.outside at this
            simp only [Bool.or_eq_false_iff, decide_eq_false_iff_not] at this
            omega
        · rw [if_neg h3] at h; omega
theorem Rv.wt_mem {l : List Rp.Pt} (h : Rv.Good l) {b : Rp.Pt} (hb : b ∈ l) : Rv.wt l b.1 = b.2 := by
  unfold Rv.wt
  cases hf : l.find? (fun x => decide (x.1 = b.1)) with
  | none =>
    rw [List.find?_eq_none] at hf
    exact absurd (by simp) (hf b hb)
  | some c =>
    have hc := List.mem_of_find?_eq_some hf
    have he : c.1 = b.1 := by simpa using List.find?_some hf
    have : c = b := by
      have hp := List.pairwise_iff_getElem.1 h.up
      obtain ⟨i, hi, rfl⟩ := List.mem_iff_getElem.1 hc
      obtain ⟨j, hj, rfl⟩ := List.mem_iff_getElem.1 hb
      have : i = j := by
        rcases Nat.lt_trichotomy i j with k | k | k
        · have := hp i j hi hj k; omega
        · exact k
        · have := hp j i hj hi k; omega
      subst this; rfl
    rw [this]
theorem Rv.wt_some {l : List Rp.Pt} {id : Int} (h : Rv.wt l id ≠ 0) : (id, Rv.wt l id) ∈ l := by
  unfold Rv.wt at h ⊢
  cases hf : l.find? (fun x => decide (x.1 = id)) with
  | none => rw [hf] at h; exact absurd rfl h
  | some c =>
    have he : c.1 = id := by simpa using List.find?_some hf
    dsimp only
    rw [← he]
    exact List.mem_of_find?_eq_some hf
theorem Rv.wt_none {l : List Rp.Pt} (h : Rv.Good l) (id : Int) : Rv.wt l id = 0 ↔ id ∉ l.map (·.1) := by
  constructor
  · intro h0 hm
    obtain ⟨b, hb, rfl⟩ := List.mem_map.1 hm
    rw [Rv.wt_mem h hb] at h0
    have := h.pos b hb
    omega
  · intro hm
    by_cases h0 : Rv.wt l id = 0
    · exact h0
    · exact absurd (List.mem_map.2 ⟨_, Rv.wt_some h0, rfl⟩) hm
theorem Rv.up_ids {l : List Rp.Pt} (h : Rv.Good l) (p : Rp.Pt → Bool) : ((l.filter p).map (·.1)).Pairwise (· < ·) := by
  rw [List.pairwise_map]
  exact h.up.sublist List.filter_sublist
/-- Rising numbers with the same members are one list. -/
theorem Rv.up_one {a b : List Int} (ha : a.Pairwise (· < ·)) (hb : b.Pairwise (· < ·)) (h : ∀ x, x ∈ a ↔ x ∈ b) : a = b := by
  have na : a.Nodup := ha.imp (fun h => by omega)
  have nb : b.Nodup := hb.imp (fun h => by omega)
  have hp : a.Perm b := (List.perm_ext_iff_of_nodup na nb).2 h
  exact hp.eq_of_pairwise (le := fun x y => x < y) (fun x y _ _ h k => by omega) ha hb
theorem Rv.mem_other {a b : Rv.S} (hb : Rv.Good b.l) (x : Int) : x ∈ Rv.other a b ↔ Rv.wt a.l x ≠ 0 ∧ Rv.wt b.l x ≠ 0 ∧ Rv.wt a.l x ≠ Rv.wt b.l x := by
  unfold Rv.other
  rw [List.mem_map]
  constructor
  · rintro ⟨c, hc, rfl⟩
    rw [List.mem_filter] at hc
    obtain ⟨hc, hx⟩ := hc
    simp only [Bool.and_eq_true, Bool.not_eq_true', decide_eq_false_iff_not] at hx
    rw [Rv.wt_mem hb hc]
    have := hb.pos c hc
    exact ⟨hx.1, by omega, hx.2⟩
  · rintro ⟨h1, h2, h3⟩
    refine ⟨(x, Rv.wt b.l x), List.mem_filter.2 ⟨Rv.wt_some h2, ?_⟩, rfl⟩
    simp only [Bool.and_eq_true, Bool.not_eq_true', decide_eq_false_iff_not]
    exact ⟨h1, h3⟩
theorem Rv.other_sym {a b : Rv.S} (ha : Rv.chk a = 0) (hb : Rv.chk b = 0) : Rv.other a b = Rv.other b a := by
  have ga := (Rv.good ha).1
  have gb := (Rv.good hb).1
  refine Rv.up_one (Rv.up_ids gb _) (Rv.up_ids ga _) fun x => ?_
  rw [Rv.mem_other gb, Rv.mem_other ga]
  constructor <;> (rintro ⟨h1, h2, h3⟩; exact ⟨h2, h1, Ne.symm h3⟩)
theorem Rv.more_self {a : Rv.S} (ha : Rv.chk a = 0) : Rv.more a a = [] := by
  have ga := (Rv.good ha).1
  unfold Rv.more
  rw [List.map_eq_nil_iff, List.filter_eq_nil_iff]
  intro b hb
  have := ga.pos b hb
  rw [Rv.wt_mem ga hb, decide_eq_true_eq]
  omega
theorem Rv.other_self {a : Rv.S} (ha : Rv.chk a = 0) : Rv.other a a = [] := by
  have ga := (Rv.good ha).1
  unfold Rv.other
  rw [List.map_eq_nil_iff, List.filter_eq_nil_iff]
  intro b hb
  rw [Rv.wt_mem ga hb]
  simp
theorem Rv.diff_sym (a b : Rv.S) : Rv.diffE a b = 0 ↔ Rv.diffE b a = 0 := by
  unfold Rv.diffE
  rw [Rv.first_zero, Rv.first_zero]
  simp
  exact And.comm
theorem Rv.diff_zero {a b : Rv.S} : Rv.diffE a b = 0 ↔ Rv.chk a = 0 ∧ Rv.chk b = 0 := by
  unfold Rv.diffE
  rw [Rv.first_zero]
  simp
theorem Rv.rise_of {l : List Int} (h : l.Pairwise (· < ·)) : Rv.rise l = true := by
  unfold Rv.rise
  rw [List.all_eq_true]
  intro i hi
  rw [List.mem_range] at hi
  rcases Nat.eq_zero_or_pos i with rfl | h0
  · simp
  · have := List.pairwise_iff_getElem.1 h (i - 1) i (by omega) hi (by omega)
    rw [List.getD_eq_getElem?_getD, List.getD_eq_getElem?_getD, List.getElem?_eq_getElem hi, List.getElem?_eq_getElem (by omega : i - 1 < l.length)]
    simp only [Option.getD_some, Bool.or_eq_true, decide_eq_true_eq]
    exact .inr this
theorem Rv.pick_all {s : Rv.S} (h : Rv.chk s = 0) : Rv.pickE s (Rv.ids s) = 0 ∧ Rv.pick s (Rv.ids s) = s.l := by
  have g := (Rv.good h).1
  have e : Rv.pickE s (Rv.ids s) = 0 := by
    unfold Rv.pickE
    rw [if_neg (by rw [h]; simp), if_neg, if_pos]
    · exact Rv.rise_of (by unfold Rv.ids; rw [List.pairwise_map]; exact g.up)
    · intro ha
      obtain ⟨id, hi, h0⟩ := List.any_eq_true.1 ha
      rw [decide_eq_true_eq] at h0
      exact (Rv.wt_none g id).1 h0 hi
  refine ⟨e, ?_⟩
  unfold Rv.pick
  rw [if_pos e]
  unfold Rv.ids
  rw [List.map_map]
  conv => rhs; rw [← List.map_id s.l]
  refine List.map_congr_left fun b hb => ?_
  simp only [Function.comp_apply, id]
  rw [Rv.wt_mem g hb]
theorem Rv.sum_range {s : Rv.S} (h : Rv.chk s = 0) : 0 ≤ Rv.sum s ∧ Rv.sum s ≤ 512 := by
  have g := (Rv.good h).1
  have : ∀ l : List Rp.Pt, (∀ b, b ∈ l → 0 ≤ b.2 ∧ b.2 ≤ 16) → 0 ≤ (l.map (·.2)).sum ∧ (l.map (·.2)).sum ≤ 16 * (l.length : Int) := by
    intro l
    induction l with
    | nil => intro _; simp
    | cons a t ih =>
      intro hl
      have := hl a List.mem_cons_self
      have := ih fun b hb => hl b (List.mem_cons_of_mem _ hb)
      rw [List.map_cons, List.sum_cons, List.length_cons]
      omega
  have := this s.l (fun b hb => by have := g.pos b hb; omega)
  unfold Rv.sum
  have := g.few
  omega
theorem Rv.alive : Rv.applyE Rv.s0 [⟨2, []⟩, ⟨1, []⟩] = 0 ∧ Rv.applyN Rv.s0 [⟨2, []⟩, ⟨1, []⟩] = 1 ∧ Rv.applyS Rv.s0 [⟨2, []⟩, ⟨1, []⟩] = ⟨2, []⟩ := by decide
end Go.Proofs.Ytcjopphefmogiaa
