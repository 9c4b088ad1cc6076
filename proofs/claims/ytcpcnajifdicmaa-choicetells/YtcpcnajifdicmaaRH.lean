/- ring: the points of a backend, handed out. -/
import Derived.Test.YtcpcnajifdicmaaDI
import Derived.Test.YtcpcnajifdicmaaRF
import Derived.RangeFuncBound
import Derived.RangeFuncCalls
import Derived.Shelf.RegionOpen
import Derived.OwnWalkIn
import Derived.TacticsInMore
import Derived.LoopNIn
import Derived.LoopIn
namespace Go.Proofs.Ytcpcnajifdicmaa
open Go.RowKit Go.Sort Go.Shelf
attribute [local go_sem] Oper.semAt_some

/-- What a round may turn: one box, and rows of points. -/
def KpR (Br : Nat) (W W' : World) : Prop := ∀ b c t f, b ≠ Br → t ≠ 79 → W.heap[b]? = some (.cells c t f) → W'.heap[b]? = some (.cells c t f)
theorem KpR.refl (Br : Nat) (W : World) : KpR Br W W := fun _ _ _ _ _ _ h => h
theorem KpR.trans {Br : Nat} {A B C : World} (h : KpR Br A B) (k : KpR Br B C) : KpR Br A C := fun b c t f h1 h2 h3 => k b c t f h1 h2 (h b c t f h1 h2 h3)
theorem KpR.grown {Br : Nat} {W W' : World} (hg : W.grownBy W' none) : KpR Br W W' := fun b c t f _ _ h => by
  rw [hg.block b (Array.getElem?_eq_some_iff.1 h).1 (by simp)]; exact h
/-- The boxes that pointsOf has laid. -/
def Two (Br B1 B2 : Nat) (id wt pts : Int) (W : World) : Prop := B1 ≠ Br ∧ B2 ≠ Br ∧ Br < W.heap.size ∧ W.heap[B1]? = some (.cells #[.int .i64 id, .int .i64 wt] 76 (0, 0)) ∧ W.heap[B2]? = some (.cells #[.int .i64 pts] 3 (0, 0))
theorem Two.kept {Br B1 B2 : Nat} {id wt pts : Int} {W W' : World} (h : Two Br B1 B2 id wt pts W) (hk : KpR Br W W') (hs : W.heap.size ≤ W'.heap.size) : Two Br B1 B2 id wt pts W' :=
  ⟨h.1, h.2.1, Nat.lt_of_lt_of_le h.2.2.1 hs, hk _ _ _ _ h.1 (by decide) h.2.2.2.1, hk _ _ _ _ h.2.1 (by decide) h.2.2.2.2⟩
theorem Two.cells {Br B1 B2 : Nat} {id wt pts : Int} {W : World} (h : Two Br B1 B2 id wt pts W) : W.cell? ⟨B1, 0, none⟩ = some (.int .i64 id) ∧ W.cell? ⟨B1, 1, none⟩ = some (.int .i64 wt) ∧ W.cell? ⟨B2, 0, none⟩ = some (.int .i64 pts) := by
  refine ⟨?_, ?_, ?_⟩ <;> simp [World.cell?, h.2.2.2.1, h.2.2.2.2]
/-- Behind a round. -/
def YPost (J Jx : List Rp.Pt → World → Prop) (xs : List Rp.Pt) (Br B1 B2 : Nat) (id wt pts : Int) (b : Bool) (W : World) : Prop := (b = true ∧ J xs W ∧ Two Br B1 B2 id wt pts W) ∨ (b = false ∧ Jx xs W)

theorem act_lit (a : Array Value) (n : Nat) (h : a.size = n) : a = ((List.range n).map fun i => a.getD i undef).toArray := by
  subst h
  apply Array.ext
  · simp
  · intro i h1 h2
    simp [Array.getD, h1]
theorem grownBy_drew (w : World) : w.grownBy w.drew none := ⟨rfl, rfl, rfl, Nat.le_refl _, fun _ _ _ => rfl⟩
theorem run_pt (w : World) (x y : Int) : (Instr.build 79 #[(0, .int .u64 x), (1, .int .i64 y)]).run Try.prog w = .ok (.agg #[.int .u64 x, .int .i64 y]) w := by
  go_simp
theorem run_yield {a : Act} {o : Oper} {ts : Array TypeId} {s t : Nat} {w : World} {l : Nat} {x : Value} {fn : FuncId} {tmps : Array Value} {assign body : Code} (hop : o.op = .call { callee := .value (.tmp s), args := #[.tmp t], argTypes := ts }) (es : a.eval (.tmp s) = .func (.yield l) #[] #[]) (et : a.eval (.tmp t) = x)
    (hy : (Instr.yield l #[x]).run Try.prog w = .ok (.round l fn tmps assign body) w) : (execOp a.eval o).run Try.prog w = .ok (.round l fn tmps assign body) w := by
  simp [execOp, hop, resolve, invoke, es, et, Deferred.ofValue]
  exact hy

end Go.Proofs.Ytcpcnajifdicmaa
