/- timers: rows of them, handed in and of one's own; ahead; may. -/
import Derived.Test.YtkamcjebihfdlaaNB
import Derived.Test.YtkamcjebihfdlaaGR
import Derived.Test.YtkamcjebihfdlaaTiP
import Derived.Laws.AppendOwnNone
namespace Go.Proofs.Ytkamcjebihfdlaa
open Go.RowKit
set_option linter.unusedVariables false
set_option maxRecDepth 20000

abbrev vT (x : Ti.T) : Value := .agg #[.int .i64 x.at', .int .i64 x.id']
abbrev tC (x : Ti.T) : List Value := [.int .i64 x.at', .int .i64 x.id']
abbrev TM : TypeId := 31
def tsL (l : List Ti.T) : List Value := l.flatMap tC
theorem tsL_len (l : List Ti.T) : (tsL l).length = l.length * 2 := by
  induction l with
  | nil => rfl
  | cons x r ih =>
    show (tC x ++ tsL r).length = _
    rw [List.length_append, ih]
    simp
    omega
theorem tsL_append (a b : List Ti.T) : tsL (a ++ b) = tsL a ++ tsL b := by unfold tsL; rw [List.flatMap_append]
theorem tsL_get (l : List Ti.T) (i : Nat) (h : i < l.length) : (tsL l)[i * 2]? = some (.int .i64 (Ti.g l i).at') ∧ (tsL l)[i * 2 + 1]? = some (.int .i64 (Ti.g l i).id') := by
  induction l generalizing i with
  | nil => simp at h
  | cons x r ih =>
    match i with
    | 0 => exact ⟨rfl, rfl⟩
    | i + 1 =>
      have := ih i (by simp at h; omega)
      rw [show (i + 1) * 2 = i * 2 + 2 by omega]
      exact this
theorem tsL_set (l : List Ti.T) (m : Nat) (y : Ti.T) (h : m < l.length) : tsL (l.set m y) = ((tsL l).set (m * 2) (.int .i64 y.at')).set (m * 2 + 1) (.int .i64 y.id') := by
  induction l generalizing m with
  | nil => simp at h
  | cons x r ih =>
    match m with
    | 0 => rfl
    | m + 1 =>
      have := ih m (by simp at h; omega)
      rw [show (m + 1) * 2 = m * 2 + 2 by omega]
      show tC x ++ tsL (r.set m y) = _
      rw [this]
      rfl
theorem tsL_take (l : List Ti.T) (k : Nat) : tsL (l.take k) = (tsL l).take (k * 2) := by
  induction l generalizing k with
  | nil => simp [tsL]
  | cons x r ih =>
    match k with
    | 0 => simp [tsL]
    | k + 1 =>
      rw [show (k + 1) * 2 = k * 2 + 2 by omega]
      show tC x ++ tsL (r.take k) = _
      rw [ih]
      rfl

/-- Timers in a row, as they read. -/
def TS (w : World) (v : Value) (l : List Ti.T) : Prop :=
  ∃ (a : Option Addr) (cap : Nat), v = .slice a l.length cap ∧ l.length ≤ cap ∧ cap ≤ maxLen ∧ (a = none → l = [] ∧ cap = 0) ∧
    ∀ g off ar, a = some ⟨g, off, ar⟩ → 0 < l.length → ar = none ∧ g < w.heap.size ∧ ∀ i, i < l.length → w.cell? ⟨g, off + i * 2, none⟩ = some (.int .i64 (Ti.g l i).at') ∧ w.cell? ⟨g, off + i * 2 + 1, none⟩ = some (.int .i64 (Ti.g l i).id')
theorem TS.below {w w' : World} {v : Value} {l : List Ti.T} (h : TS w v l) (hb : Below w.heap.size w w') : TS w' v l := by
  obtain ⟨a, cap, h1, h2, h3, h4, h5⟩ := h
  refine ⟨a, cap, h1, h2, h3, h4, fun g off ar ha h0 => ?_⟩
  obtain ⟨k1, k2, k3⟩ := h5 g off ar ha h0
  refine ⟨k1, Nat.lt_of_lt_of_le k2 hb.size, fun i hi => ?_⟩
  obtain ⟨q1, q2⟩ := k3 i hi
  exact ⟨(hb.cell k2).trans q1, (hb.cell k2).trans q2⟩
theorem TS.nil (w : World) : TS w (.slice none 0 0) [] := ⟨none, 0, rfl, Nat.le_refl _, Nat.zero_le _, fun _ => ⟨rfl, rfl⟩, fun g off ar ha => by cases ha⟩
/-- One that stands there. -/
theorem TS.at {w : World} {a : Option Addr} {n cap : Nat} {l : List Ti.T} (h : TS w (.slice a n cap) l) (k : Nat) (hk : k < l.length) :
    ∃ g off, a = some ⟨g, off, none⟩ ∧ g < w.heap.size ∧ ∀ i, i < l.length → w.cell? ⟨g, off + i * 2, none⟩ = some (.int .i64 (Ti.g l i).at') ∧ w.cell? ⟨g, off + i * 2 + 1, none⟩ = some (.int .i64 (Ti.g l i).id') := by
  obtain ⟨a', c', he, _, _, h3, h4⟩ := h
  injection he with he1 he2 he3
  subst he1 he3
  rcases a with _ | ⟨g, off, ar⟩
  · have := (h3 rfl).1; subst this; simp at hk
  · obtain ⟨rfl, q2, q3⟩ := h4 g off ar rfl (by omega)
    exact ⟨g, off, rfl, q2, q3⟩
/-- A row of one's own. -/
abbrev OT (W : World) (B : Nat) (v : Value) (l : List Ti.T) : Prop := W.ownsRow B TM 2 v l.length (tsL l)
theorem bo_own {W : World} {B g n cap k : Nat} {T : TypeId} {xs : List Value} {s : Nat} (h : W.ownsRow B T s (.slice (some ⟨g, 0, none⟩) n cap) k xs) : ∃ cs : List Value, Bo W g cs T ∧ (∀ (i : Nat) (u : Value), xs[i]? = some u → cs[i]? = some u) ∧ B ≤ g ∧ g < W.heap.size ∧ n = k ∧ k ≤ cap ∧ cap ≤ maxLen := by
  rcases h.2 with ⟨h1, _⟩ | ⟨g2, cap2, cur, h1, hB, hb, hc1, hc2, hs, ht⟩
  · cases h1
  · injection h1 with e1 e2 e3
    injection e1 with e1
    injection e1 with e1 _ _
    subst e1 e2 e3
    have hb' : Bo W g cur.toList T := by unfold Bo; simpa using hb
    refine ⟨cur.toList, hb', fun i u hu => ?_, hB, hb'.lt, rfl, by omega, by omega⟩
    rw [← ht] at hu
    rw [List.getElem?_take] at hu
    split at hu
    · exact hu
    · cases hu
theorem OT.ts {W : World} {B : Nat} {v : Value} {l : List Ti.T} (h : OT W B v l) : TS W v l := by
  have hh := h
  rcases h.2 with ⟨h1, h2⟩ | ⟨g, cap, cur, rfl, hB, hb, hc1, hc2, hs, ht⟩
  · have : l = [] := List.length_eq_zero_iff.1 h2
    subst this h1
    exact TS.nil W
  · obtain ⟨cs, c1, c2, c3, c4, _, c5, c6⟩ := bo_own hh
    refine ⟨some ⟨g, 0, none⟩, cap, rfl, c5, c6, fun e => (by cases e), fun g2 off ar e h0 => ?_⟩
    cases e
    refine ⟨rfl, c4, fun i hi => ?_⟩
    obtain ⟨q1, q2⟩ := tsL_get l i hi
    rw [Nat.zero_add]
    exact ⟨c1.cell _ (c2 _ _ q1), c1.cell _ (c2 _ _ q2)⟩
/-- A timer put in its place. -/
abbrev putT (W : World) (g m : Nat) (y : Ti.T) : World := (W.setCell ⟨g, m * 2, none⟩ (.int .i64 y.at')).setCell ⟨g, m * 2 + 1, none⟩ (.int .i64 y.id')
theorem putT_cg (W : World) (g m : Nat) (y : Ti.T) : Cg g W (putT W g m y) := (Cg.set W _ _).trans (Cg.set _ _ _)
theorem OT.put {W : World} {B g n cap : Nat} {l : List Ti.T} (h : OT W B (.slice (some ⟨g, 0, none⟩) n cap) l) (m : Nat) (hm : m < l.length) (y : Ti.T) : OT (putT W g m y) B (.slice (some ⟨g, 0, none⟩) n cap) (l.set m y) := by
  have h1 := own_setCell h (m * 2) (by omega) (.int .i64 y.at')
  have h2 := own_setCell h1 (m * 2 + 1) (by omega) (.int .i64 y.id')
  unfold OT
  rw [List.length_set, tsL_set l m y hm]
  exact h2
/-- The cells of a row of one's own. -/
theorem OT.at {W : World} {B g n cap : Nat} {l : List Ti.T} (h : OT W B (.slice (some ⟨g, 0, none⟩) n cap) l) (i : Nat) (hi : i < l.length) : W.cell? ⟨g, i * 2, none⟩ = some (.int .i64 (Ti.g l i).at') ∧ W.cell? ⟨g, i * 2 + 1, none⟩ = some (.int .i64 (Ti.g l i).id') ∧ W.frozen? ⟨g, i * 2, none⟩ = false ∧ W.frozen? ⟨g, i * 2 + 1, none⟩ = false := by
  obtain ⟨cs, c1, c2, _⟩ := bo_own h
  obtain ⟨q1, q2⟩ := tsL_get l i hi
  exact ⟨c1.cell _ (c2 _ _ q1), c1.cell _ (c2 _ _ q2), c1.frozen _, c1.frozen _⟩
theorem OT.lies {W : World} {B : Nat} {v : Value} {l : List Ti.T} (h : OT W B v l) (h0 : 0 < l.length) : ∃ g cap, v = .slice (some ⟨g, 0, none⟩) l.length cap ∧ B ≤ g ∧ g < W.heap.size ∧ l.length ≤ cap ∧ cap ≤ maxLen := by
  have hh := h
  rcases h.2 with ⟨h1, h2⟩ | ⟨g, cap, cur, rfl, hB, hb, hc1, hc2, hs, ht⟩
  · omega
  · obtain ⟨cs, c1, c2, c3, c4, _, c5, c6⟩ := bo_own hh
    exact ⟨g, cap, rfl, c3, c4, c5, c6⟩

set_option maxHeartbeats 1000000 in
/-- Ahead, may. -/
theorem rahead_any (x y : Ti.T) (w : World) : Calls Try.prog 26 #[vT x, vT y] w fun e w' => e = .returned (.bool (Ti.ah x y)) ∧ Below w.heap.size w w' := by
  obtain ⟨a, i⟩ := x
  obtain ⟨b, j⟩ := y
  have e : Ti.ah ⟨a, i⟩ ⟨b, j⟩ = (decide (a < b) || (decide (a = b) && decide (i < j))) := rfl
  rw [e]
  clear e
  have HB := hidD ((((Below.refl w.heap.size w).alloc (Nat.le_refl _) (.cells #[.int .i64 a, .int .i64 i] 31)).alloc (by rw [World.size_alloc]; omega) (.cells #[.int .i64 b, .int .i64 j] 31)))
  by_cases h1 : a < b
  · rw [decide_eq_true h1, Bool.true_or]
    go_enter Try.func26, Try.ntmps26
    go_wp2_with fail
    go_ret
    exact ⟨rfl, HB.out⟩
  rw [decide_eq_false h1, Bool.false_or]
  by_cases h2 : a = b
  · subst h2
    rw [decide_eq_true rfl, Bool.true_and]
    go_enter Try.func26, Try.ntmps26
    go_wp2_with fail
    go_ret
    exact ⟨by first | rfl | simp, HB.out⟩
  · rw [decide_eq_false h2, Bool.false_and]
    have d : (a == b) = false := by simp [h2]
    go_enter Try.func26, Try.ntmps26
    go_wp2_with fail
    go_ret
    exact ⟨by first | rfl | simp, HB.out⟩
def Ti.may (x : Ti.T) : Bool := decide (0 ≤ x.at') && decide (x.at' ≤ 1073741824) && decide (0 ≤ x.id') && decide (x.id' ≤ 1073741824)
set_option maxHeartbeats 1000000 in
theorem rmay_any (x : Ti.T) (w : World) : Calls Try.prog 31 #[vT x] w fun e w' => e = .returned (.bool (Ti.may x)) ∧ Below w.heap.size w w' := by
  obtain ⟨a, i⟩ := x
  have e : Ti.may ⟨a, i⟩ = (decide (0 ≤ a) && decide (a ≤ 1073741824) && decide (0 ≤ i) && decide (i ≤ 1073741824)) := rfl
  rw [e]
  clear e
  have HB := hidD ((Below.refl w.heap.size w).alloc (Nat.le_refl _) (.cells #[.int .i64 a, .int .i64 i] 31))
  by_cases h1 : 0 ≤ a
  case neg =>
    rw [decide_eq_false h1]
    go_enter Try.func31, Try.ntmps31
    go_wp2_with fail
    go_ret
    exact ⟨by first | rfl | simp, HB.out⟩
  by_cases h2 : a ≤ 1073741824
  case neg =>
    rw [decide_eq_true h1, decide_eq_false h2]
    go_enter Try.func31, Try.ntmps31
    go_wp2_with fail
    go_ret
    exact ⟨by first | rfl | simp, HB.out⟩
  by_cases h3 : 0 ≤ i
  case neg =>
    rw [decide_eq_true h1, decide_eq_true h2, decide_eq_false h3]
    go_enter Try.func31, Try.ntmps31
    go_wp2_with fail
    go_ret
    exact ⟨by first | rfl | simp, HB.out⟩
  rw [decide_eq_true h1, decide_eq_true h2, decide_eq_true h3]
  go_enter Try.func31, Try.ntmps31
  go_wp2_with fail
  go_ret
  exact ⟨by first | rfl | simp, HB.out⟩

theorem Try.infoT : (Try.prog.info? 31).map (fun i => (i.zero, i.size, i.bytes)) = some (some (.agg #[.int .i64 0, .int .i64 0]), 2, 16) := by kernel_rfl
theorem tsL_one {l : List Ti.T} : ∀ u ∈ tsL l, u.oneCell' = true := by
  intro u hu
  unfold tsL at hu
  rw [List.mem_flatMap] at hu
  obtain ⟨x, _, hu⟩ := hu
  simp only [tC, List.mem_cons, List.not_mem_nil, or_false] at hu
  rcases hu with rfl | rfl <;> rfl
theorem TS.cells {w : World} {y : Addr} {n cap : Nat} {l : List Ti.T} (h : TS w (.slice (some y) n cap) l) : ∀ (j : Nat) (u : Value), (tsL l)[j]? = some u → w.cell? (y.add j) = some u := by
  intro j u hu
  have hj : j < l.length * 2 := by
    rw [← tsL_len]
    exact (List.getElem?_eq_some_iff.1 hu).1
  obtain ⟨g, off, e, _, hc⟩ := TS.at h (j / 2) (by omega)
  cases e
  rw [add_plain]
  obtain ⟨q1, q2⟩ := hc (j / 2) (by omega)
  obtain ⟨t1, t2⟩ := tsL_get l (j / 2) (by omega)
  rcases (by omega : j = j / 2 * 2 ∨ j = j / 2 * 2 + 1) with e | e
  · rw [e] at hu ⊢
    rw [t1] at hu
    cases hu
    exact q1
  · rw [e] at hu ⊢
    rw [t2] at hu
    cases hu
    rw [← Nat.add_assoc]
    exact q2
/-- append of timers onto a row of the call's own. -/
theorem wpList_append_tm {ops : Array Oper} {rest : List Oper} {o : Oper} {a : Act} {Q : Exit → Act → World → Prop} (w : World) (hgd : o.guard = none) (s x : Operand)
    (ho : o.op = .call { callee := .builtin .append, args := #[s, x], argTypes := #[22, 22] }) (B : Nat) (v u : Value) (l m : List Ti.T) (hs : a.eval s = v) (hown : OT w B v l) (hx : a.eval x = u) (hu : TS w u m)
    (hlen : l.length + m.length ≤ 8796093022208) (hB : B ≤ w.heap.size)
    (h : ∀ v' w', OT w' B v' (l ++ m) → Below B w w' → w.grownBy w' v.ownBlock → wpList Try.prog ops Q rest (a.put o.dst v') w') : wpList Try.prog ops Q (o :: rest) a w := by
  obtain ⟨i0, hi, hz0, hz1, hz2⟩ := info_parts Try.infoT
  have hu' := hu
  obtain ⟨ao, cap, rfl, h1, h2, h3, h4⟩ := hu
  rcases ao with _ | y
  · obtain ⟨rfl, rfl⟩ := h3 rfl
    refine wpList_append_own_none hgd s x 22 ho B 31 i0 2 Try.underlying22 hi v l.length (tsL l) hs hown hx ?_
    refine h v w ?_ (Below.refl _ _) (grownBy_refl _ _)
    rw [List.append_nil]
    exact hown
  · refine wpList_append_own w hgd s x 22 ho B 31 i0 _ 2 16 Try.underlying22 hi hz0 hz1 hz2 rfl (by decide) v l.length (tsL l) hs hown y m.length cap (tsL m) hx (tsL_len m) (TS.cells hu') tsL_one (by unfold maxLen; omega) (by omega) hB ?_
    intro v' w' ho' hg _
    refine h v' w' ?_ ((Below.refl _ _).grown hg hB (fun k hk => (hown.lt k hk).1)) hg
    unfold OT
    rw [tsL_append, List.length_append]
    exact ho'
set_option maxHeartbeats 1000000 in
/-- Own. -/
theorem rown_any (v : Value) (l : List Ti.T) (w : World) (hs : TS w v l) (hl : l.length ≤ 8796093022208) :
    Calls Try.prog 9 #[v] w fun e w' => ∃ v', e = .returned v' ∧ OT w' w.heap.size v' l ∧ Below w.heap.size w w' := by
  have HS := hidD hs
  obtain ⟨a, cap, rfl, h1, h2, _, _⟩ := hs
  unfold maxLen at h2
  go_enter Try.func9, Try.ntmps9
  go_wp2_with (first | (at_builtin; refine wpList_append_tm _ rfl _ _ rfl w.heap.size (.slice none 0 0) (.slice a l.length cap) [] l rfl (World.ownsRow_nil _ _ _ _) rfl HS.out (by simp; omega) (Nat.le_refl _) ?_; intro v2 w6 hown' hB6 hgrow))
  go_ret
  exact ⟨_, rfl, hown', hB6⟩
end Go.Proofs.Ytkamcjebihfdlaa
