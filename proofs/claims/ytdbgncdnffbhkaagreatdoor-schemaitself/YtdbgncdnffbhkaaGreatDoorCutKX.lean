/- A schema that may be extends itself (plain). -/
import Derived.Test.YtdbgncdnffbhkaaGreatDoorCutPut25
namespace Go.Proofs.YtdbgncdnffbhkaaGreatDoor
open Go.RowKit
set_option maxRecDepth 20000

theorem meetF_spec (k : Int) (hk : k ≠ 0) : ∀ (l : List (List Nat)) (f g : List Nat → Int), meetF k l f = some g → l.Nodup ∧ (∀ x ∈ l, f x = 0) ∧ ∀ y, g y = if y ∈ l then k else f y := by
  intro l
  induction l with
  | nil =>
    intro f g h
    cases h
    exact ⟨List.nodup_nil, fun x hx => (by cases hx), fun y => by simp⟩
  | cons x r ih =>
    intro f g h
    rw [meetF] at h
    by_cases h0 : f x = 0
    · rw [if_pos h0] at h
      obtain ⟨h1, h2, h3⟩ := ih _ _ h
      have hx : x ∉ r := fun hx => hk (by simpa using h2 x hx)
      refine ⟨List.nodup_cons.2 ⟨hx, h1⟩, fun y hy => ?_, fun y => ?_⟩
      · rcases List.mem_cons.1 hy with rfl | hy
        · exact h0
        · have := h2 y hy
          rw [if_neg (fun e => hx (by rw [← e]; exact hy))] at this
          exact this
      · rw [h3 y]
        by_cases hy : y ∈ r
        · rw [if_pos hy, if_pos (List.mem_cons_of_mem _ hy)]
        · rw [if_neg hy]
          by_cases e : y = x
          · rw [if_pos e, if_pos (by rw [e]; exact List.mem_cons_self)]
          · rw [if_neg e, if_neg (by simp [e, hy])]
    · rw [if_neg h0] at h
      cases h
theorem meetE_zero {l : List (List Nat)} (h : meetE l = 0) : l.Nodup := by
  unfold meetE at h
  cases hm : meetF 4 l (fun _ => 0) with
  | none => rw [hm] at h; simp at h
  | some g => exact (meetF_spec 4 (by decide) _ _ _ hm).1

theorem idxF_hit {α : Type} (P : α → Bool) : ∀ (l : List α) (i : Nat) (a : α) (k : Nat), l[i]? = some a → P a = true → (∀ j b, j < i → l[j]? = some b → P b = false) → idxF P l k = ((k + i : Nat) : Int) := by
  intro l
  induction l with
  | nil => intro i a k h; simp at h
  | cons b r ih =>
    intro i a k h hP hne
    rw [idxF]
    cases i with
    | zero =>
      simp only [List.getElem?_cons_zero, Option.some.injEq] at h
      subst h
      rw [if_pos hP]
      rfl
    | succ i =>
      have hb := hne 0 b (by omega) (by simp)
      rw [if_neg (by rw [hb]; simp)]
      rw [ih i a (k + 1) (by simpa using h) hP (fun j c hj hc => hne (j + 1) c (by omega) (by simpa using hc))]
      congr 1
      omega
theorem idxF_miss {α : Type} (P : α → Bool) : ∀ (l : List α) (k : Nat), (∀ b ∈ l, P b = false) → idxF P l k = -1 := by
  intro l
  induction l with
  | nil => intro k _; rfl
  | cons b r ih =>
    intro k h
    rw [idxF, if_neg (by rw [h b List.mem_cons_self]; simp)]
    exact ih _ fun c hc => h c (List.mem_cons_of_mem _ hc)
theorem idxF_name {α : Type} (nm : α → List Nat) (l : List α) (h : (l.map nm).Nodup) (i : Nat) (a : α) (ha : l[i]? = some a) : idxF (fun b => decide (nm b = nm a)) l 0 = (i : Int) := by
  have := idxF_hit (fun b => decide (nm b = nm a)) l i a 0 ha (decide_eq_true rfl) (fun j b hj hb => ?_)
  · rw [this]; simp
  · refine decide_eq_false fun e => ?_
    have h1 : (l.map nm)[j]? = some (nm a) := by rw [List.getElem?_map, hb, Option.map_some, e]
    have h2 : (l.map nm)[i]? = some (nm a) := by rw [List.getElem?_map, ha, Option.map_some]
    rw [List.getElem?_eq_some_iff] at h1 h2
    obtain ⟨p1, p2⟩ := h1
    obtain ⟨p3, p4⟩ := h2
    exact List.pairwise_iff_getElem.1 h j i p1 p3 hj (p2.trans p4.symm)

structure Apart (st : List (List Nat × List Pl.Fld)) (en : List (List Nat × List Pl.Cas)) (sv : List (List Nat × List Pl.Mth)) : Prop where
  nst : (st.map Prod.fst).Nodup
  nen : (en.map Prod.fst).Nodup
  nsv : (sv.map Prod.fst).Nodup
  e1 : ∀ x ∈ en.map Prod.fst, x ∉ st.map Prod.fst
  s1 : ∀ x ∈ sv.map Prod.fst, x ∉ st.map Prod.fst
  s2 : ∀ x ∈ sv.map Prod.fst, x ∉ en.map Prod.fst

theorem all_apart {st : List (List Nat × List Pl.Fld)} {en : List (List Nat × List Pl.Cas)} {sv : List (List Nat × List Pl.Mth)} (h : allE st en sv = 0) : Apart st en sv ∧ ∃ f, restE st en sv f = 0 := by
  unfold allE at h
  cases h1 : meetF 1 (st.map Prod.fst) (fun _ => 0) with
  | none => rw [h1] at h; simp at h
  | some f1 =>
    rw [h1] at h
    simp only at h
    cases h2 : meetF 2 (en.map Prod.fst) f1 with
    | none => rw [h2] at h; simp at h
    | some f2 =>
      rw [h2] at h
      simp only at h
      cases h3 : meetF 3 (sv.map Prod.fst) f2 with
      | none => rw [h3] at h; simp at h
      | some f =>
        rw [h3] at h
        simp only at h
        obtain ⟨a1, a2, a3⟩ := meetF_spec 1 (by decide) _ _ _ h1
        obtain ⟨b1, b2, b3⟩ := meetF_spec 2 (by decide) _ _ _ h2
        obtain ⟨c1, c2, c3⟩ := meetF_spec 3 (by decide) _ _ _ h3
        have q1 : ∀ x ∈ en.map Prod.fst, x ∉ st.map Prod.fst := fun x hx hs => by
          have h := b2 x hx
          rw [a3 x, if_pos hs] at h
          cases h
        have q3 : ∀ x ∈ sv.map Prod.fst, x ∉ en.map Prod.fst := fun x hx hs => by
          have h := c2 x hx
          rw [b3 x, if_pos hs] at h
          cases h
        have q2 : ∀ x ∈ sv.map Prod.fst, x ∉ st.map Prod.fst := fun x hx hs => by
          have h := c2 x hx
          rw [b3 x, if_neg (q3 x hx), a3 x, if_pos hs] at h
          cases h
        exact ⟨⟨a1, b1, c1, q1, q2, q3⟩, f, h⟩

theorem idxF_nmIs {α : Type} {l : List (List Nat × α)} (h : (l.map Prod.fst).Nodup) {i : Nat} {a : List Nat × α} (ha : l[i]? = some a) : idxF (nmIs a.1) l 0 = (i : Int) := idxF_name Prod.fst l h i a ha
theorem idxF_not {α : Type} {l : List (List Nat × α)} {x : List Nat} (h : x ∉ l.map Prod.fst) : idxF (nmIs x) l 0 = -1 :=
  idxF_miss _ _ _ fun _ hb => decide_eq_false fun e => h (e ▸ List.mem_map_of_mem hb)
theorem mem_name {α : Type} {l : List (List Nat × α)} {i : Nat} {a : List Nat × α} (ha : l[i]? = some a) : a.1 ∈ l.map Prod.fst := List.mem_map_of_mem (List.mem_of_getElem? ha)
theorem Apart.one {st : List (List Nat × List Pl.Fld)} {en : List (List Nat × List Pl.Cas)} {sv : List (List Nat × List Pl.Mth)} (h : Apart st en sv) {i : Nat} {a : List Nat × List Pl.Fld} (ha : st[i]? = some a) : fnd st en sv a.1 = (1, (i : Int)) := by
  unfold fnd
  rw [idxF_nmIs h.nst ha, if_pos (by omega)]
theorem Apart.two {st : List (List Nat × List Pl.Fld)} {en : List (List Nat × List Pl.Cas)} {sv : List (List Nat × List Pl.Mth)} (h : Apart st en sv) {i : Nat} {a : List Nat × List Pl.Cas} (ha : en[i]? = some a) : fnd st en sv a.1 = (2, (i : Int)) := by
  unfold fnd
  rw [idxF_not (h.e1 _ (mem_name ha)), if_neg (by decide), idxF_nmIs h.nen ha, if_pos (by omega)]
theorem Apart.three {st : List (List Nat × List Pl.Fld)} {en : List (List Nat × List Pl.Cas)} {sv : List (List Nat × List Pl.Mth)} (h : Apart st en sv) {i : Nat} {a : List Nat × List Pl.Mth} (ha : sv[i]? = some a) : fnd st en sv a.1 = (3, (i : Int)) := by
  unfold fnd
  rw [idxF_not (h.s1 _ (mem_name ha)), if_neg (by decide), idxF_not (h.s2 _ (mem_name ha)), if_neg (by decide), idxF_nmIs h.nsv ha, if_pos (by omega)]

theorem enums_names : ∀ (en : List (List Nat × List Pl.Cas)), enumsE en = 0 → ∀ x ∈ en, (x.2.map (·.name)).Nodup := by
  intro en
  induction en with
  | nil => intro _ x hx; cases hx
  | cons a r ih =>
    intro h x hx
    rw [enumsE] at h
    obtain ⟨_, h2⟩ := thenE_zero h
    obtain ⟨h3, h4⟩ := thenE_zero h2
    rcases List.mem_cons.1 hx with rfl | hx
    · unfold partsE at h3
      exact meetE_zero (thenE_zero (thenE_zero h3).2).2
    · exact ih h4 x hx
theorem services_names (f : List Nat → Int) : ∀ (sv : List (List Nat × List Pl.Mth)), servicesE f sv = 0 → ∀ x ∈ sv, (x.2.map (·.name)).Nodup := by
  intro sv
  induction sv with
  | nil => intro _ x hx; cases hx
  | cons a r ih =>
    intro h x hx
    rw [servicesE] at h
    obtain ⟨h3, h4⟩ := thenE_zero h
    rcases List.mem_cons.1 hx with rfl | hx
    · unfold serviceE at h3
      exact meetE_zero (thenE_zero (thenE_zero h3).2).1
    · exact ih h4 x hx
theorem hasC_self {l : List Pl.Cas} (h : (l.map (·.name)).Nodup) : ∀ a ∈ l, hasC l a := by
  intro a ha
  obtain ⟨i, hi⟩ := List.getElem?_of_mem ha
  unfold hasC
  rw [idxF_name (·.name) l h i a hi]
  exact ⟨by omega, by rw [Int.toNat_natCast]; exact hi⟩
theorem hasM_self {l : List Pl.Mth} (h : (l.map (·.name)).Nodup) : ∀ a ∈ l, hasM l a := by
  intro a ha
  obtain ⟨i, hi⟩ := List.getElem?_of_mem ha
  unfold hasM
  rw [idxF_name (·.name) l h i a hi]
  exact ⟨by omega, by rw [Int.toNat_natCast]; exact hi⟩

theorem find_self {st : List (List Nat × List Pl.Fld)} {en : List (List Nat × List Pl.Cas)} {sv : List (List Nat × List Pl.Mth)} (h : allE st en sv = 0) : findE (st, en, sv) (st, en, sv) = 0 := by
  obtain ⟨hA, f, hr⟩ := all_apart h
  unfold restE at hr
  obtain ⟨_, r2⟩ := thenE_zero hr
  obtain ⟨r3, r4⟩ := thenE_zero r2
  obtain ⟨r5, _⟩ := thenE_zero r4
  unfold findE
  simp only [thenE_zero_iff]
  refine ⟨stF_zero.2 fun x hx => ?_, enF_zero.2 fun x hx => ?_, svF_zero.2 fun x hx => ?_⟩
  · obtain ⟨i, hi⟩ := List.getElem?_of_mem hx
    simp only [hA.one hi, Int.toNat_natCast, hi, Option.getD_some]
    exact ⟨trivial, fieldsF_zero.2 fun a ha => ha⟩
  · obtain ⟨i, hi⟩ := List.getElem?_of_mem hx
    simp only [hA.two hi, Int.toNat_natCast, hi, Option.getD_some]
    exact ⟨trivial, allCasesF_zero.2 ⟨casesF_zero.2 (hasC_self (enums_names en r3 x hx)), rfl⟩⟩
  · obtain ⟨i, hi⟩ := List.getElem?_of_mem hx
    simp only [hA.three hi, Int.toNat_natCast, hi, Option.getD_some]
    exact ⟨trivial, methodsF_zero.2 (hasM_self (services_names f sv r5 x hx))⟩
end Go.Proofs.YtdbgncdnffbhkaaGreatDoor
