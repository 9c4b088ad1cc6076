/- timers, plainly: what comes of a queue is one; what is due; what is left. -/
import Derived.Test.YtkamcjebihfdlaaTmI
namespace Go.Proofs.Ytkamcjebihfdlaa
open Go.RowKit
set_option linter.unusedVariables false
set_option maxRecDepth 20000

theorem Ti.chk_sub {l m s q : List Ti.T} (h : Ti.chkE l = 0) (hm : Ti.heap m) (hp : m.Perm s) (hs : s.Sublist q) (hq : q.Perm l) : Ti.chkE m = 0 := by
  obtain ⟨h1, h2, h3, h4⟩ := Ti.chk_zero h
  refine Ti.chk_ok ?_ ?_ ?_ hm
  · have := hs.length_le
    rw [hp.length_eq]
    rw [hq.length_eq] at this
    omega
  · rw [List.all_eq_true] at *
    intro x hx
    exact h2 x (hq.mem_iff.1 (hs.mem (hp.mem_iff.1 hx)))
  · exact (hp.map _).nodup_iff.2 ((hs.map _).nodup ((hq.map _).nodup_iff.2 h3))
theorem Ti.due_chk {l : List Ti.T} (t : Int) (h : Ti.chkE l = 0) : Ti.chkE (Ti.dueL l t) = 0 := by
  obtain ⟨h1, h2, h3, h4⟩ := Ti.chk_zero h
  obtain ⟨d1, d2, d3, d4, d5⟩ := Ti.due_is t l.length l (Nat.le_refl _) (Ti.nodup_of h3) h4
  rw [Ti.dueL, if_pos h]
  refine Ti.chk_sub h d3 (Ti.ord_perm _).symm ?_ (Ti.ord_perm l)
  rw [d2]
  exact List.dropWhile_sublist _
theorem Ti.can_chk {l : List Ti.T} (ids : List Int) (h : Ti.chkE l = 0) : Ti.chkE (Ti.canR l ids) = 0 := by
  obtain ⟨h1, h2, h3, h4⟩ := Ti.chk_zero h
  obtain ⟨c1, c2, c3, c4⟩ := Ti.cancel_is ids (Ti.nodup_of h3)
  rw [Ti.canR, if_pos h]
  exact Ti.chk_sub h c1 c4 List.filter_sublist (List.Perm.refl _)
theorem Ti.put_chk {l : List Ti.T} {x : Ti.T} (h : Ti.chkE l = 0) (h1 : ¬ l.length = 1024) (h2 : Ti.may x = true) (h3 : (l.any fun y => decide (y.id' = x.id')) = false) : Ti.chkE (Ti.put l x) = 0 := by
  obtain ⟨k1, k2, k3, k4⟩ := Ti.chk_zero h
  have hp := Ti.put_perm l x
  refine Ti.chk_ok ?_ ?_ ?_ (Ti.put_heap x k4)
  · rw [Ti.put_len]; omega
  · rw [List.all_eq_true] at *
    intro y hy
    rcases List.mem_cons.1 (hp.mem_iff.1 hy) with e | e
    · rw [e]; exact h2
    · exact k2 y e
  · refine (hp.map _).nodup_iff.2 ?_
    rw [List.map_cons, List.nodup_cons]
    refine ⟨fun hm => ?_, k3⟩
    obtain ⟨y, hy, e⟩ := List.mem_map.1 hm
    rw [List.any_eq_false] at h3
    exact h3 y hy (decide_eq_true e)
theorem Ti.addGo_chk (more : List Ti.T) : ∀ out, Ti.chkE out = 0 → (Ti.addGo out more).2 = 0 → Ti.chkE (Ti.addGo out more).1 = 0 := by
  induction more with
  | nil => intro out h _; exact h
  | cons x r ih =>
    intro out h h2
    obtain ⟨a1, a2, a3, a4⟩ := Ti.addGo_cons out x r
    by_cases q1 : out.length = 1024
    · rw [a1 q1] at h2; cases h2
    cases q2 : Ti.may x
    · rw [a2 q1 q2] at h2; cases h2
    cases q3 : (out.any fun y => decide (y.id' = x.id'))
    · rw [a4 q1 q2 q3] at h2 ⊢
      exact ih _ (Ti.put_chk h q1 q2 q3) h2
    · rw [a3 q1 q2 q3] at h2; cases h2
theorem Ti.add_chk {l more : List Ti.T} (h : Ti.addE l more = 0) : Ti.chkE (Ti.addR l more) = 0 := by
  unfold Ti.addE at h
  unfold Ti.addR
  by_cases hc : Ti.chkE l = 0
  · rw [if_pos hc] at h ⊢
    exact Ti.addGo_chk more l hc h
  · rw [if_neg hc] at h
    exact absurd h hc
/-- P20.1: the first one. -/
theorem Ti.fir_or {l : List Ti.T} (h : Ti.firE l = 0) {x : Ti.T} (hx : x ∈ l) : x = Ti.firR l ∨ Ti.ah (Ti.firR l) x = true := by
  have hc : Ti.chkE l = 0 := by
    unfold Ti.firE at h
    by_cases hc : Ti.chkE l = 0
    · exact hc
    · rw [if_neg hc] at h; exact h
  rw [Ti.firR, if_pos h]
  exact Ti.first_or (Ti.chk_zero hc).2.2.2 hx
/-- P20.3. -/
theorem Ti.due_all {l : List Ti.T} (t : Int) (h : Ti.chkE l = 0) : Ti.dueI l t = ((Ti.orR l).takeWhile (Ti.isDue t)).map Ti.T.id' ∧ Ti.orR (Ti.dueL l t) = (Ti.orR l).dropWhile (Ti.isDue t) := by
  obtain ⟨h1, h2, h3, h4⟩ := Ti.chk_zero h
  obtain ⟨d1, d2, d3, d4, d5⟩ := Ti.due_is t l.length l (Nat.le_refl _) (Ti.nodup_of h3) h4
  have e := Ti.due_chk t h
  rw [Ti.orR, Ti.orR, if_pos e, if_pos h, Ti.dueI, if_pos h, Ti.dueL, if_pos h]
  exact ⟨d1, d2⟩
/-- P20.2. -/
theorem Ti.can_all {l : List Ti.T} (ids : List Int) (h : Ti.chkE l = 0) : Ti.orR (Ti.canR l ids) = Ti.rest ids (Ti.orR l) := by
  obtain ⟨h1, h2, h3, h4⟩ := Ti.chk_zero h
  obtain ⟨c1, c2, c3, c4⟩ := Ti.cancel_is ids (Ti.nodup_of h3)
  have e := Ti.can_chk ids h
  rw [Ti.orR, Ti.orR, if_pos e, if_pos h, Ti.canR, if_pos h]
  exact c3
theorem Ti.gone_is {l : List Ti.T} (ids : List Int) : Ti.gone ids l + (Ti.rest ids l).length = l.length := by
  unfold Ti.gone Ti.rest Ti.off
  induction l with
  | nil => rfl
  | cons x r ih =>
    rw [List.filter_cons, List.filter_cons]
    cases h : ids.contains x.id' <;> simp <;> simp at ih <;> omega
theorem Ti.or_len {l : List Ti.T} (h : Ti.chkE l = 0) : (Ti.orR l).length = l.length := by rw [Ti.orR, if_pos h, Ti.ord_len]
end Go.Proofs.Ytkamcjebihfdlaa
