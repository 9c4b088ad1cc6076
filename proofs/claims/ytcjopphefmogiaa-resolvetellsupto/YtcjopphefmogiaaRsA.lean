/- resolve: rows of backends, handed in and of one's own. -/
import Derived.Test.YtcjopphefmogiaaNB
import Derived.Test.YtcjopphefmogiaaGR
import Derived.Test.YtcjopphefmogiaaRvP
import Derived.Laws.AppendOwnNone
namespace Go.Proofs.Ytcjopphefmogiaa
open Go.RowKit
set_option linter.unusedVariables false
set_option maxRecDepth 20000

abbrev vB (x : Rp.Pt) : Value := .agg #[.int .i64 x.1, .int .i64 x.2]
abbrev bC (x : Rp.Pt) : List Value := [.int .i64 x.1, .int .i64 x.2]
abbrev BK : TypeId := 60
abbrev Rv.g (l : List Rp.Pt) (i : Nat) : Rp.Pt := l.getD i (0, 0)
theorem Rv.g_at {l : List Rp.Pt} {i : Nat} (h : i < l.length) : Rv.g l i = l[i] := by simp [Rv.g, List.getD, h]
def bsL (l : List Rp.Pt) : List Value := l.flatMap bC
theorem bsL_len (l : List Rp.Pt) : (bsL l).length = l.length * 2 := by
  induction l with
  | nil => rfl
  | cons x r ih =>
    show (bC x ++ bsL r).length = _
    rw [List.length_append, ih]
    simp
    omega
theorem bsL_append (a b : List Rp.Pt) : bsL (a ++ b) = bsL a ++ bsL b := by unfold bsL; rw [List.flatMap_append]
theorem bsL_get (l : List Rp.Pt) (i : Nat) (h : i < l.length) : (bsL l)[i * 2]? = some (.int .i64 (Rv.g l i).1) ∧ (bsL l)[i * 2 + 1]? = some (.int .i64 (Rv.g l i).2) := by
  induction l generalizing i with
  | nil => simp at h
  | cons x r ih =>
    match i with
    | 0 => exact ⟨rfl, rfl⟩
    | i + 1 =>
      have := ih i (by simp at h; omega)
      rw [show (i + 1) * 2 = i * 2 + 2 by omega]
      exact this
theorem bsL_set (l : List Rp.Pt) (m : Nat) (y : Rp.Pt) (h : m < l.length) : bsL (l.set m y) = ((bsL l).set (m * 2) (.int .i64 y.1)).set (m * 2 + 1) (.int .i64 y.2) := by
  induction l generalizing m with
  | nil => simp at h
  | cons x r ih =>
    match m with
    | 0 => rfl
    | m + 1 =>
      have := ih m (by simp at h; omega)
      rw [show (m + 1) * 2 = m * 2 + 2 by omega]
      show bC x ++ bsL (r.set m y) = _
      rw [this]
      rfl
theorem bsL_take (l : List Rp.Pt) (k : Nat) : bsL (l.take k) = (bsL l).take (k * 2) := by
  induction l generalizing k with
  | nil => simp [bsL]
  | cons x r ih =>
    match k with
    | 0 => simp [bsL]
    | k + 1 =>
      rw [show (k + 1) * 2 = k * 2 + 2 by omega]
      show bC x ++ bsL (r.take k) = _
      rw [ih]
      rfl

/-- Backends in a row, as they read. -/
def BS (w : World) (v : Value) (l : List Rp.Pt) : Prop :=
  ∃ (a : Option Addr) (cap : Nat), v = .slice a l.length cap ∧ l.length ≤ cap ∧ cap ≤ maxLen ∧ (a = none → l = [] ∧ cap = 0) ∧
    ∀ g off ar, a = some ⟨g, off, ar⟩ → 0 < l.length → ar = none ∧ g < w.heap.size ∧ ∀ i, i < l.length → w.cell? ⟨g, off + i * 2, none⟩ = some (.int .i64 (Rv.g l i).1) ∧ w.cell? ⟨g, off + i * 2 + 1, none⟩ = some (.int .i64 (Rv.g l i).2)
theorem BS.below {w w' : World} {v : Value} {l : List Rp.Pt} (h : BS w v l) (hb : Below w.heap.size w w') : BS w' v l := by
  obtain ⟨a, cap, h1, h2, h3, h4, h5⟩ := h
  refine ⟨a, cap, h1, h2, h3, h4, fun g off ar ha h0 => ?_⟩
  obtain ⟨k1, k2, k3⟩ := h5 g off ar ha h0
  refine ⟨k1, Nat.lt_of_lt_of_le k2 hb.size, fun i hi => ?_⟩
  obtain ⟨q1, q2⟩ := k3 i hi
  exact ⟨(hb.cell k2).trans q1, (hb.cell k2).trans q2⟩
theorem BS.nil (w : World) : BS w (.slice none 0 0) [] := ⟨none, 0, rfl, Nat.le_refl _, Nat.zero_le _, fun _ => ⟨rfl, rfl⟩, fun g off ar ha => by cases ha⟩
/-- One that stands there. -/
theorem BS.at {w : World} {a : Option Addr} {n cap : Nat} {l : List Rp.Pt} (h : BS w (.slice a n cap) l) (k : Nat) (hk : k < l.length) :
    ∃ g off, a = some ⟨g, off, none⟩ ∧ g < w.heap.size ∧ ∀ i, i < l.length → w.cell? ⟨g, off + i * 2, none⟩ = some (.int .i64 (Rv.g l i).1) ∧ w.cell? ⟨g, off + i * 2 + 1, none⟩ = some (.int .i64 (Rv.g l i).2) := by
  obtain ⟨a', c', he, _, _, h3, h4⟩ := h
  injection he with he1 he2 he3
  subst he1 he3
  rcases a with _ | ⟨g, off, ar⟩
  · have := (h3 rfl).1; subst this; simp at hk
  · obtain ⟨rfl, q2, q3⟩ := h4 g off ar rfl (by omega)
    exact ⟨g, off, rfl, q2, q3⟩
/-- A row of one's own. -/
abbrev OB (W : World) (B : Nat) (v : Value) (l : List Rp.Pt) : Prop := W.ownsRow B BK 2 v l.length (bsL l)
theorem bo_ownB {W : World} {B g n cap k : Nat} {T : TypeId} {xs : List Value} {s : Nat} (h : W.ownsRow B T s (.slice (some ⟨g, 0, none⟩) n cap) k xs) : ∃ cs : List Value, Bo W g cs T ∧ (∀ (i : Nat) (u : Value), xs[i]? = some u → cs[i]? = some u) ∧ B ≤ g ∧ g < W.heap.size ∧ n = k ∧ k ≤ cap ∧ cap ≤ maxLen := by
  rcases h.2 with ⟨h1, _⟩ | ⟨g2, cap2, cur, h1, hB, hb, hc1, hc2, hs, ht⟩
  · cases h1
  · injection h1 with e1 e2 e3
    injection e1 with e1
    injection e1 with e1 _ _
    subst e1 e2 e3
    have hb' : Bo W g cur.toList T := by unfold Bo; simpa using hb
    refine ⟨cur.toList, hb', fun i u hu => ?_, hB, hb'.lt, rfl, by omega, by omega⟩
    rw [← ht] at hu
    rw [List.getElem?_take] at hu
    split at hu
    · exact hu
    · cases hu
theorem OB.ts {W : World} {B : Nat} {v : Value} {l : List Rp.Pt} (h : OB W B v l) : BS W v l := by
  have hh := h
  rcases h.2 with ⟨h1, h2⟩ | ⟨g, cap, cur, rfl, hB, hb, hc1, hc2, hs, ht⟩
  · have : l = [] := List.length_eq_zero_iff.1 h2
    subst this h1
    exact BS.nil W
  · obtain ⟨cs, c1, c2, c3, c4, _, c5, c6⟩ := bo_ownB hh
    refine ⟨some ⟨g, 0, none⟩, cap, rfl, c5, c6, fun e => (by cases e), fun g2 off ar e h0 => ?_⟩
    cases e
    refine ⟨rfl, c4, fun i hi => ?_⟩
    obtain ⟨q1, q2⟩ := bsL_get l i hi
    rw [Nat.zero_add]
    exact ⟨c1.cell _ (c2 _ _ q1), c1.cell _ (c2 _ _ q2)⟩
/-- A backend put in its place. -/
abbrev putB (W : World) (g m : Nat) (y : Rp.Pt) : World := (W.setCell ⟨g, m * 2, none⟩ (.int .i64 y.1)).setCell ⟨g, m * 2 + 1, none⟩ (.int .i64 y.2)
theorem putB_cg (W : World) (g m : Nat) (y : Rp.Pt) : Cg g W (putB W g m y) := (Cg.set W _ _).trans (Cg.set _ _ _)
theorem OB.put {W : World} {B g n cap : Nat} {l : List Rp.Pt} (h : OB W B (.slice (some ⟨g, 0, none⟩) n cap) l) (m : Nat) (hm : m < l.length) (y : Rp.Pt) : OB (putB W g m y) B (.slice (some ⟨g, 0, none⟩) n cap) (l.set m y) := by
  have h1 := own_setCell h (m * 2) (by omega) (.int .i64 y.1)
  have h2 := own_setCell h1 (m * 2 + 1) (by omega) (.int .i64 y.2)
  unfold OB
  rw [List.length_set, bsL_set l m y hm]
  exact h2
/-- The cells of a row of one's own. -/
theorem OB.at {W : World} {B g n cap : Nat} {l : List Rp.Pt} (h : OB W B (.slice (some ⟨g, 0, none⟩) n cap) l) (i : Nat) (hi : i < l.length) : W.cell? ⟨g, i * 2, none⟩ = some (.int .i64 (Rv.g l i).1) ∧ W.cell? ⟨g, i * 2 + 1, none⟩ = some (.int .i64 (Rv.g l i).2) ∧ W.frozen? ⟨g, i * 2, none⟩ = false ∧ W.frozen? ⟨g, i * 2 + 1, none⟩ = false := by
  obtain ⟨cs, c1, c2, _⟩ := bo_ownB h
  obtain ⟨q1, q2⟩ := bsL_get l i hi
  exact ⟨c1.cell _ (c2 _ _ q1), c1.cell _ (c2 _ _ q2), c1.frozen _, c1.frozen _⟩
theorem OB.lies {W : World} {B : Nat} {v : Value} {l : List Rp.Pt} (h : OB W B v l) (h0 : 0 < l.length) : ∃ g cap, v = .slice (some ⟨g, 0, none⟩) l.length cap ∧ B ≤ g ∧ g < W.heap.size ∧ l.length ≤ cap ∧ cap ≤ maxLen := by
  have hh := h
  rcases h.2 with ⟨h1, h2⟩ | ⟨g, cap, cur, rfl, hB, hb, hc1, hc2, hs, ht⟩
  · omega
  · obtain ⟨cs, c1, c2, c3, c4, _, c5, c6⟩ := bo_ownB hh
    exact ⟨g, cap, rfl, c3, c4, c5, c6⟩

theorem Try.infoB : (Try.prog.info? 60).map (fun i => (i.zero, i.size, i.bytes)) = some (some (.agg #[.int .i64 0, .int .i64 0]), 2, 16) := by kernel_rfl
theorem bsL_one {l : List Rp.Pt} : ∀ u ∈ bsL l, u.oneCell' = true := by
  intro u hu
  unfold bsL at hu
  rw [List.mem_flatMap] at hu
  obtain ⟨x, _, hu⟩ := hu
  simp only [bC, List.mem_cons, List.not_mem_nil, or_false] at hu
  rcases hu with rfl | rfl <;> rfl
theorem BS.cells {w : World} {y : Addr} {n cap : Nat} {l : List Rp.Pt} (h : BS w (.slice (some y) n cap) l) : ∀ (j : Nat) (u : Value), (bsL l)[j]? = some u → w.cell? (y.add j) = some u := by
  intro j u hu
  have hj : j < l.length * 2 := by
    rw [← bsL_len]
    exact (List.getElem?_eq_some_iff.1 hu).1
  obtain ⟨g, off, e, _, hc⟩ := BS.at h (j / 2) (by omega)
  cases e
  rw [add_plain]
  obtain ⟨q1, q2⟩ := hc (j / 2) (by omega)
  obtain ⟨t1, t2⟩ := bsL_get l (j / 2) (by omega)
  rcases (by omega : j = j / 2 * 2 ∨ j = j / 2 * 2 + 1) with e | e
  · rw [e] at hu ⊢
    rw [t1] at hu
    cases hu
    exact q1
  · rw [e] at hu ⊢
    rw [t2] at hu
    cases hu
    rw [← Nat.add_assoc]
    exact q2
/-- append of timers onto a row of the call's own. -/
theorem wpList_append_bk {ops : Array Oper} {rest : List Oper} {o : Oper} {a : Act} {Q : Exit → Act → World → Prop} (w : World) (hgd : o.guard = none) (s x : Operand)
    (ho : o.op = .call { callee := .builtin .append, args := #[s, x], argTypes := #[22, 22] }) (B : Nat) (v u : Value) (l m : List Rp.Pt) (hs : a.eval s = v) (hown : OB w B v l) (hx : a.eval x = u) (hu : BS w u m)
    (hlen : l.length + m.length ≤ 8796093022208) (hB : B ≤ w.heap.size)
    (h : ∀ v' w', OB w' B v' (l ++ m) → Below B w w' → w.grownBy w' v.ownBlock → wpList Try.prog ops Q rest (a.put o.dst v') w') : wpList Try.prog ops Q (o :: rest) a w := by
  obtain ⟨i0, hi, hz0, hz1, hz2⟩ := info_parts Try.infoB
  have hu' := hu
  obtain ⟨ao, cap, rfl, h1, h2, h3, h4⟩ := hu
  rcases ao with _ | y
  · obtain ⟨rfl, rfl⟩ := h3 rfl
    refine wpList_append_own_none hgd s x 22 ho B 60 i0 2 Try.underlying22 hi v l.length (bsL l) hs hown hx ?_
    refine h v w ?_ (Below.refl _ _) (grownBy_refl _ _)
    rw [List.append_nil]
    exact hown
  · refine wpList_append_own w hgd s x 22 ho B 60 i0 _ 2 16 Try.underlying22 hi hz0 hz1 hz2 rfl (by decide) v l.length (bsL l) hs hown y m.length cap (bsL m) hx (bsL_len m) (BS.cells hu') bsL_one (by unfold maxLen; omega) (by omega) hB ?_
    intro v' w' ho' hg _
    refine h v' w' ?_ ((Below.refl _ _).grown hg hB (fun k hk => (hown.lt k hk).1)) hg
    unfold OB
    rw [bsL_append, List.length_append]
    exact ho'
end Go.Proofs.Ytcjopphefmogiaa
