/- Single operations of a region that draws its order, guarded ones too. -/
import Derived.Test.YtjeegcfdhoiplaaOps
import Derived.Shelf.Abstract
namespace Go.Proofs.Ytjeegcfdhoiplaa
open Go.RowKit

section
variable {ops : Array Oper} {Q : Exit → Act → World → Prop} {i : Nat} {o : Oper} {a : Act} {w w' : World} {v : Value} {K : Act → World → Prop}
theorem wanted_plain (hg : o.guard = none) : Region.wanted o (yielded ops a.tmps) = true := by simp [Region.wanted, hg]
theorem wanted_true (g d : Nat) (og : Oper) (hg : o.guard = some (g, true)) (h1 : ops[g]? = some og) (h2 : og.dst = some d) (h3 : a.tmps.getD d undef = .bool true) : Region.wanted o (yielded ops a.tmps) = true := by
  have h4 : a.tmps[d]? = some (.bool true) := by
    rw [Array.getD_eq_getD_getElem?] at h3
    cases h : a.tmps[d]? with
    | none => rw [h] at h3; simp [undef] at h3
    | some x => rw [h] at h3; simp at h3; rw [h3]
  simp [Region.wanted, hg, yielded, h1, h2, h4]
theorem gOp_ok (ho : ops[i]? = some o) (hw : Region.wanted o (yielded ops a.tmps) = true) (hrun : (execOp a.eval o).run Try.prog w = .ok (.value v) w') (h : K (a.put o.dst v) w') : wpOp Try.prog ops Q i K a w := by
  unfold wpOp
  simp only [ho, hw, if_true]
  refine .inl ?_
  unfold Oper.wp
  rw [hrun]
  exact h
theorem gOp_move (ho : ops[i]? = some o) (hw : Region.wanted o (yielded ops a.tmps) = true) (s : Nat) (hop : o.op = .move (.tmp s)) (hs : a.tmps.getD s undef = v) (h : K (a.put o.dst v) w) : wpOp Try.prog ops Q i K a w := by
  refine gOp_ok ho hw ?_ h
  rw [← hs]
  simp [execOp, hop, Act.eval]
theorem gOp_assign (ho : ops[i]? = some o) (hw : Region.wanted o (yielded ops a.tmps) = true) (s : Nat) (hop : o.op = .assign (.tmp s)) (hs : a.tmps.getD s undef = v) (h : K (a.put o.dst v) w) : wpOp Try.prog ops Q i K a w := by
  refine gOp_ok ho hw ?_ h
  rw [← hs]
  simp [execOp, hop, Act.eval]
theorem gOp_pick (ho : ops[i]? = some o) (hw : Region.wanted o (yielded ops a.tmps) = true) (s t : Nat) (hop : o.op = .pick (.tmp s) (.tmp t) (.const (.bool false))) (hs : a.tmps.getD s undef = .bool true) (ht : a.tmps.getD t undef = v) (h : K (a.put o.dst v) w) : wpOp Try.prog ops Q i K a w := by
  refine gOp_ok ho hw ?_ h
  have hs' : a.eval (.tmp s) = .bool true := hs
  have ht' : a.eval (.tmp t) = v := ht
  simp only [execOp, hop, hs', ht']
  go_simp
theorem gOp_eq (ho : ops[i]? = some o) (hw : Region.wanted o (yielded ops a.tmps) = true) (s t : Nat) (hop : o.op = .binOp .eql 3 (.tmp s) (.tmp t) 3) (x y : Int) (hs : a.tmps.getD s undef = .int .i64 x) (ht : a.tmps.getD t undef = .int .i64 y)
    (h : K (a.put o.dst (.bool (x == y))) w) : wpOp Try.prog ops Q i K a w := by
  refine gOp_ok ho hw ?_ h
  have hs' : a.eval (.tmp s) = .int .i64 x := hs
  have ht' : a.eval (.tmp t) = .int .i64 y := ht
  simp only [execOp, hop, hs', ht']
  go_simp
theorem gOp_call0 (f : Nat) (eg : ∀ args w, (callFunc f args).run Try.prog w = .ok (.enter f args) w) (ho : ops[i]? = some o) (hw : Region.wanted o (yielded ops a.tmps) = true) (ts : Array TypeId) (hop : o.op = .call { callee := .value (.func f), args := #[], argTypes := ts })
    (h : Calls Try.prog f #[] w fun e w' => ∃ u, e = .returned u ∧ K (a.put o.dst u) w') : wpOp Try.prog ops Q i K a w := by
  unfold wpOp
  simp only [ho, hw, if_true]
  refine .inl ?_
  unfold Oper.wp
  have hrun : (execOp a.eval o).run Try.prog w = .ok (.enter f #[]) w := by
    simp [execOp, hop, resolve, invoke, show a.eval (.func f) = .func (.func f) #[] #[] from rfl, Deferred.ofValue, eg]
  rw [hrun]
  refine h.mono ?_
  rintro e w' ⟨u, rfl, hk⟩
  exact hk
theorem gOp_call1 (f : Nat) (eg : ∀ args w, (callFunc f args).run Try.prog w = .ok (.enter f args) w) (ho : ops[i]? = some o) (hw : Region.wanted o (yielded ops a.tmps) = true) (s : Nat) (ts : Array TypeId) (hop : o.op = .call { callee := .value (.func f), args := #[.tmp s], argTypes := ts }) (hs : a.tmps.getD s undef = v)
    (h : Calls Try.prog f #[v] w fun e w' => ∃ u, e = .returned u ∧ K (a.put o.dst u) w') : wpOp Try.prog ops Q i K a w := by
  unfold wpOp
  simp only [ho, hw, if_true]
  refine .inl ?_
  unfold Oper.wp
  have hs' : a.eval (.tmp s) = v := hs
  have hrun : (execOp a.eval o).run Try.prog w = .ok (.enter f #[v]) w := by
    simp [execOp, hop, hs', resolve, invoke, show a.eval (.func f) = .func (.func f) #[] #[] from rfl, Deferred.ofValue, eg]
  rw [hrun]
  refine h.mono ?_
  rintro e w' ⟨u, rfl, hk⟩
  exact hk
theorem gOp_call2 (f : Nat) (eg : ∀ args w, (callFunc f args).run Try.prog w = .ok (.enter f args) w) (ho : ops[i]? = some o) (hw : Region.wanted o (yielded ops a.tmps) = true) (s t : Nat) (ts : Array TypeId) (hop : o.op = .call { callee := .value (.func f), args := #[.tmp s, .tmp t], argTypes := ts }) {u : Value} (hs : a.tmps.getD s undef = v) (ht : a.tmps.getD t undef = u)
    (h : Calls Try.prog f #[v, u] w fun e w' => ∃ u, e = .returned u ∧ K (a.put o.dst u) w') : wpOp Try.prog ops Q i K a w := by
  unfold wpOp
  simp only [ho, hw, if_true]
  refine .inl ?_
  unfold Oper.wp
  have hs' : a.eval (.tmp s) = v := hs
  have ht' : a.eval (.tmp t) = u := ht
  have hrun : (execOp a.eval o).run Try.prog w = .ok (.enter f #[v, u]) w := by
    simp [execOp, hop, hs', ht', resolve, invoke, show a.eval (.func f) = .func (.func f) #[] #[] from rfl, Deferred.ofValue, eg]
  rw [hrun]
  refine h.mono ?_
  rintro e w' ⟨u, rfl, hk⟩
  exact hk
end
end Go.Proofs.Ytjeegcfdhoiplaa
