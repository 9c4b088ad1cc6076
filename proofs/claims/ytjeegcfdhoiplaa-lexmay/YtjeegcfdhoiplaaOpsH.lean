/- More single operations of a region that draws its order. -/
import Derived.Test.YtjeegcfdhoiplaaFix
namespace Go.Proofs.Ytjeegcfdhoiplaa
open Go.RowKit

section
variable {ops : Array Oper} {Q : Exit → Act → World → Prop} {i : Nat} {o : Oper} {a : Act} {w w' : World} {v : Value} {K : Act → World → Prop}
theorem slot_some {d : Nat} {b : Bool} (h3 : a.tmps.getD d undef = .bool b) : a.tmps[d]? = some (.bool b) := by
  rw [Array.getD_eq_getD_getElem?] at h3
  cases h : a.tmps[d]? with
  | none => rw [h] at h3; simp [undef] at h3
  | some x => rw [h] at h3; simp at h3; rw [h3]
theorem wanted_off (g d : Nat) (og : Oper) (hg : o.guard = some (g, false)) (h1 : ops[g]? = some og) (h2 : og.dst = some d) (h3 : a.tmps.getD d undef = .bool false) : Region.wanted o (yielded ops a.tmps) = true := by
  simp [Region.wanted, hg, yielded, h1, h2, slot_some h3]
theorem unwanted_off (g d : Nat) (og : Oper) (hg : o.guard = some (g, true)) (h1 : ops[g]? = some og) (h2 : og.dst = some d) (h3 : a.tmps.getD d undef = .bool false) : Region.wanted o (yielded ops a.tmps) = false := by
  simp [Region.wanted, hg, yielded, h1, h2, slot_some h3]
theorem gOp_skip (ho : ops[i]? = some o) (hw : Region.wanted o (yielded ops a.tmps) = false) (h : K (a.put o.dst undef) w) : wpOp Try.prog ops Q i K a w := by
  unfold wpOp
  simp only [ho, hw, Bool.false_eq_true, if_false]
  exact h
theorem gOp_indexAddr (ho : ops[i]? = some o) (hw : Region.wanted o (yielded ops a.tmps) = true) (s t : Nat) (hop : o.op = .indexAddr 22 (.tmp s) (.tmp t)) (g off n cap k : Nat) (hs : a.tmps.getD s undef = .slice (some ⟨g, off, none⟩) n cap) (ht : a.tmps.getD t undef = .int .i64 (k : Int)) (hk : k < n)
    (h : K (a.put o.dst (.pointer (some ⟨g, off + k * 3, none⟩))) w) : wpOp Try.prog ops Q i K a w := by
  refine gOp_ok ho hw ?_ h
  have hs' : a.eval (.tmp s) = .slice (some ⟨g, off, none⟩) n cap := hs
  have ht' : a.eval (.tmp t) = .int .i64 (k : Int) := ht
  have hk' : (0 : Int) ≤ (k : Int) ∧ (k : Int) < (n : Int) := by omega
  simp only [execOp, hop, hs', ht']
  go_simp
theorem gOp_fieldAddr (ho : ops[i]? = some o) (hw : Region.wanted o (yielded ops a.tmps) = true) (s : Nat) (hop : o.op = .fieldAddr 34 (.tmp s) 2) (g off : Nat) (hs : a.tmps.getD s undef = .pointer (some ⟨g, off, none⟩))
    (h : K (a.put o.dst (.pointer (some ⟨g, off + 2, none⟩))) w) : wpOp Try.prog ops Q i K a w := by
  refine gOp_ok ho hw ?_ h
  have hs' : a.eval (.tmp s) = .pointer (some ⟨g, off, none⟩) := hs
  simp only [execOp, hop, hs']
  go_simp
theorem gOp_load3 (ho : ops[i]? = some o) (hw : Region.wanted o (yielded ops a.tmps) = true) (s : Nat) (hop : o.op = .load 3 (.tmp s)) (g off : Nat) (z : Int) (hs : a.tmps.getD s undef = .pointer (some ⟨g, off, none⟩)) (hc : w.cell? ⟨g, off, none⟩ = some (.int .i64 z))
    (h : K (a.put o.dst (.int .i64 z)) w) : wpOp Try.prog ops Q i K a w := by
  refine gOp_ok ho hw ?_ h
  have hs' : a.eval (.tmp s) = .pointer (some ⟨g, off, none⟩) := hs
  simp only [execOp, hop, hs']
  go_simp
theorem gOp_load34 (ho : ops[i]? = some o) (hw : Region.wanted o (yielded ops a.tmps) = true) (s : Nat) (hop : o.op = .load 34 (.tmp s)) (g off : Nat) (t1 : Int) (t2 : ByteArray) (t3 : Int) (hs : a.tmps.getD s undef = .pointer (some ⟨g, off, none⟩)) (h0 : w.cell? ⟨g, off, none⟩ = some (.int .i64 t1)) (h1 : w.cell? ⟨g, off + 1, none⟩ = some (.string t2)) (h2 : w.cell? ⟨g, off + 2, none⟩ = some (.int .i64 t3))
    (h : K (a.put o.dst (.agg #[.int .i64 t1, .string t2, .int .i64 t3])) w) : wpOp Try.prog ops Q i K a w := by
  refine gOp_ok ho hw ?_ h
  have hs' : a.eval (.tmp s) = .pointer (some ⟨g, off, none⟩) := hs
  simp only [execOp, hop, hs']
  go_simp
theorem gOp_neq0 (ho : ops[i]? = some o) (hw : Region.wanted o (yielded ops a.tmps) = true) (s : Nat) (hop : o.op = .binOp .neq 3 (.tmp s) (.const (.int .i64 0)) 3) (hs : a.tmps.getD s undef = .int .i64 0)
    (h : K (a.put o.dst (.bool false)) w) : wpOp Try.prog ops Q i K a w := by
  refine gOp_ok ho hw ?_ h
  have hs' : a.eval (.tmp s) = .int .i64 0 := hs
  have hc' : a.eval (.const (.int .i64 0)) = .int .i64 0 := rfl
  simp only [execOp, hop, hs', hc']
  go_simp
theorem gOp_gtr0 (ho : ops[i]? = some o) (hw : Region.wanted o (yielded ops a.tmps) = true) (s : Nat) (hop : o.op = .binOp .gtr 3 (.tmp s) (.const (.int .i64 0)) 3) (k : Nat) (b : Bool) (hb : decide (0 < k) = b) (hs : a.tmps.getD s undef = .int .i64 (k : Int))
    (h : K (a.put o.dst (.bool b)) w) : wpOp Try.prog ops Q i K a w := by
  refine gOp_ok ho hw ?_ h
  have hs' : a.eval (.tmp s) = .int .i64 (k : Int) := hs
  have hc' : a.eval (.const (.int .i64 0)) = .int .i64 0 := rfl
  rw [← hb]
  simp only [execOp, hop, hs', hc']
  go_simp
theorem gOp_sub1 (ho : ops[i]? = some o) (hw : Region.wanted o (yielded ops a.tmps) = true) (s : Nat) (hop : o.op = .binOp .sub 3 (.tmp s) (.const (.int .i64 1)) 3) (k : Nat) (hk : k < 1000000) (hs : a.tmps.getD s undef = .int .i64 ((k + 1 : Nat) : Int))
    (h : K (a.put o.dst (.int .i64 (k : Int))) w) : wpOp Try.prog ops Q i K a w := by
  refine gOp_ok ho hw ?_ h
  have hs' : a.eval (.tmp s) = .int .i64 ((k + 1 : Nat) : Int) := hs
  have hc' : a.eval (.const (.int .i64 1)) = .int .i64 1 := rfl
  have hw' : IntKind.i64.wrap (k : Int) = (k : Int) := IntWalk.i64_in _ (by omega)
  simp only [execOp, hop, hs', hc']
  go_simp
theorem gOp_lss (ho : ops[i]? = some o) (hw : Region.wanted o (yielded ops a.tmps) = true) (s t : Nat) (hop : o.op = .binOp .lss 3 (.tmp s) (.tmp t) 3) (x y : Int) (b : Bool) (hb : decide (x < y) = b) (hs : a.tmps.getD s undef = .int .i64 x) (ht : a.tmps.getD t undef = .int .i64 y)
    (h : K (a.put o.dst (.bool b)) w) : wpOp Try.prog ops Q i K a w := by
  refine gOp_ok ho hw ?_ h
  have hs' : a.eval (.tmp s) = .int .i64 x := hs
  have ht' : a.eval (.tmp t) = .int .i64 y := ht
  rw [← hb]
  simp only [execOp, hop, hs', ht']
  go_simp
theorem gOp_pickF (ho : ops[i]? = some o) (hw : Region.wanted o (yielded ops a.tmps) = true) (s t : Nat) (hop : o.op = .pick (.tmp s) (.tmp t) (.const (.bool false))) (hs : a.tmps.getD s undef = .bool false) (h : K (a.put o.dst (.bool false)) w) : wpOp Try.prog ops Q i K a w := by
  refine gOp_ok ho hw ?_ h
  have hs' : a.eval (.tmp s) = .bool false := hs
  have hc' : a.eval (.const (.bool false)) = .bool false := rfl
  simp only [execOp, hop, hs', hc']
  go_simp
theorem gOp_pickOr (ho : ops[i]? = some o) (hw : Region.wanted o (yielded ops a.tmps) = true) (s t : Nat) (hop : o.op = .pick (.tmp s) (.const (.bool true)) (.tmp t)) (hs : a.tmps.getD s undef = .bool false) (ht : a.tmps.getD t undef = v) (h : K (a.put o.dst v) w) : wpOp Try.prog ops Q i K a w := by
  refine gOp_ok ho hw ?_ h
  have hs' : a.eval (.tmp s) = .bool false := hs
  have ht' : a.eval (.tmp t) = v := ht
  simp only [execOp, hop, hs', ht']
  go_simp
end
end Go.Proofs.Ytjeegcfdhoiplaa
