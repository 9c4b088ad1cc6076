/- Single operations of a region that draws its order. -/
import Derived.Test.YtjeegcfdhoiplaaDraw
import Derived.Test.YtjeegcfdhoiplaaCrcC
namespace Go.Proofs.Ytjeegcfdhoiplaa
open Go.RowKit

theorem run_sub (w : World) (ad : Option Addr) (len cap n : Nat) (h : n ≤ cap) : (Instr.sliceAt 41 (.slice ad len cap) none (some (.int .i64 n)) none).run Try.prog w = .ok (.slice ad n cap) w := by
  have : (n : Int) ≤ cap := by omega
  go_simp

section
variable {ops : Array Oper} {Q : Exit → Act → World → Prop} {i : Nat} {o : Oper} {a : Act} {w w' : World} {v : Value} {K : Act → World → Prop}
theorem wpOp_ok (ho : ops[i]? = some o) (hg : o.guard = none) (hrun : (execOp a.eval o).run Try.prog w = .ok (.value v) w') (h : K (a.put o.dst v) w') : wpOp Try.prog ops Q i K a w := by
  have hw : Region.wanted o (yielded ops a.tmps) = true := by simp [Region.wanted, hg]
  unfold wpOp
  simp only [ho, hw, if_true]
  refine .inl ?_
  unfold Oper.wp
  rw [hrun]
  exact h
theorem wpOp_move (ho : ops[i]? = some o) (hg : o.guard = none) (s : Nat) (hop : o.op = .move (.tmp s)) (hs : a.tmps.getD s undef = v) (h : K (a.put o.dst v) w) : wpOp Try.prog ops Q i K a w := by
  refine wpOp_ok ho hg ?_ h
  rw [← hs]
  simp [execOp, hop, Act.eval]
theorem wpOp_assign (ho : ops[i]? = some o) (hg : o.guard = none) (s : Nat) (hop : o.op = .assign (.tmp s)) (hs : a.tmps.getD s undef = v) (h : K (a.put o.dst v) w) : wpOp Try.prog ops Q i K a w := by
  refine wpOp_ok ho hg ?_ h
  rw [← hs]
  simp [execOp, hop, Act.eval]
theorem wpOp_sub (ho : ops[i]? = some o) (hg : o.guard = none) (s t : Nat) (hop : o.op = .slice 41 (.tmp s) none (some (.tmp t)) none) (ad : Option Addr) (len cap n : Nat) (hs : a.tmps.getD s undef = .slice ad len cap) (ht : a.tmps.getD t undef = .int .i64 n) (hn : n ≤ cap)
    (h : K (a.put o.dst (.slice ad n cap)) w) : wpOp Try.prog ops Q i K a w := by
  refine wpOp_ok ho hg ?_ h
  have hs' : a.eval (.tmp s) = .slice ad len cap := hs
  have ht' : a.eval (.tmp t) = .int .i64 n := ht
  simp [execOp, hop, hs', ht', run_sub _ _ _ _ _ hn]
theorem wpOp_xor32 (ho : ops[i]? = some o) (hg : o.guard = none) (s t : Nat) (hop : o.op = .binOp .xor 71 (.tmp s) (.tmp t) 71) (x y : Nat) (hx : x < 4294967296) (hy : y < 4294967296) (hs : a.tmps.getD s undef = .int .u32 x) (ht : a.tmps.getD t undef = .int .u32 y)
    (h : K (a.put o.dst (.int .u32 (x ^^^ y : Nat))) w) : wpOp Try.prog ops Q i K a w := by
  refine wpOp_ok ho hg ?_ h
  have hs' : a.eval (.tmp s) = .int .u32 x := hs
  have ht' : a.eval (.tmp t) = .int .u32 y := ht
  have hb := u32x x y hx hy
  simp only [execOp, hop, hs', ht']
  go_simp
theorem wpOp_eq32 (ho : ops[i]? = some o) (hg : o.guard = none) (s t : Nat) (hop : o.op = .binOp .eql 71 (.tmp s) (.tmp t) 71) (x y : Int) (hs : a.tmps.getD s undef = .int .u32 x) (ht : a.tmps.getD t undef = .int .u32 y)
    (h : K (a.put o.dst (.bool (x == y))) w) : wpOp Try.prog ops Q i K a w := by
  refine wpOp_ok ho hg ?_ h
  have hs' : a.eval (.tmp s) = .int .u32 x := hs
  have ht' : a.eval (.tmp t) = .int .u32 y := ht
  simp only [execOp, hop, hs', ht']
  go_simp
theorem wpOp_call1 (f : Nat) (eg : ∀ args w, (callFunc f args).run Try.prog w = .ok (.enter f args) w) (ho : ops[i]? = some o) (hg : o.guard = none) (s : Nat) (ts : Array TypeId) (hop : o.op = .call { callee := .value (.func f), args := #[.tmp s], argTypes := ts }) (hs : a.tmps.getD s undef = v)
    (h : Calls Try.prog f #[v] w fun e w' => ∃ u, e = .returned u ∧ K (a.put o.dst u) w') : wpOp Try.prog ops Q i K a w := by
  have hw : Region.wanted o (yielded ops a.tmps) = true := by simp [Region.wanted, hg]
  unfold wpOp
  simp only [ho, hw, if_true]
  refine .inl ?_
  unfold Oper.wp
  have hs' : a.eval (.tmp s) = v := hs
  have hrun : (execOp a.eval o).run Try.prog w = .ok (.enter f #[v]) w := by
    simp [execOp, hop, hs', resolve, invoke, show a.eval (.func f) = .func (.func f) #[] #[] from rfl, Deferred.ofValue, eg]
  rw [hrun]
  refine h.mono ?_
  rintro e w' ⟨u, rfl, hk⟩
  exact hk
end
end Go.Proofs.Ytjeegcfdhoiplaa
