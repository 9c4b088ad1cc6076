/- draw: slices.IndexFunc and ContainsFunc of numbers; Below, of both; SameInts. -/
import Derived.Test.YtfjcilkllgaimaaDB
import Derived.OwnWalk
import Derived.RegionTactic
namespace Go.Proofs.Ytfjcilkllgaimaa
open Go.RowKit
set_option maxRecDepth 20000

theorem Try.info3 : (Try.prog.info? 3).map (fun i => (i.zero, i.size, i.bytes)) = some (some (.int .i64 0), 1, 8) := by kernel_rfl
abbrev i64s (l : List Int) : List Value := l.map (Value.int .i64)

theorem belowD_drew {B : Nat} {w w' : World} (h : Below B w w') : Below B w w'.drew := ⟨h.os, h.tape, h.output, h.size, h.block⟩
theorem hidD {p : Prop} (h : p) : Hid p := h
theorem dgetD_at {l : List Int} {i : Nat} (h : i < l.length) : l.getD i 0 = l[i] := by simp [List.getD, h]
theorem dany_take (f : Int → Bool) (l : List Int) (k : Nat) (h : k < l.length) : (l.take (k + 1)).any f = ((l.take k).any f || f (l.getD k 0)) := by
  rw [List.take_succ_eq_append_getElem h]
  simp only [List.any_append, List.any_cons, List.any_nil, Bool.or_false, dgetD_at h]
theorem dany_at (f : Int → Bool) (l : List Int) (k : Nat) (h : k < l.length) (hf : f (l.getD k 0) = true) : l.any f = true := by
  rw [List.any_eq_true]
  exact ⟨l.getD k 0, by rw [dgetD_at h]; exact List.getElem_mem _, hf⟩

/-- A number that may not be. -/
def badB (n : Int) : Bool := decide (n < 1) || decide (1048576 < n)
end Go.Proofs.Ytfjcilkllgaimaa
