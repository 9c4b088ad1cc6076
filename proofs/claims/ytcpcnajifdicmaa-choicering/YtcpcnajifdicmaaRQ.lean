/- ring: Shares. -/
import Derived.Test.YtcpcnajifdicmaaRN
import Derived.Test.YtcpcnajifdicmaaRWp
import Derived.Maps.OwnOps
import Derived.Shelf.SortM.Plain
import Derived.Shelf.SlGeneric
import Derived.Ground.SlgmProg
import Derived.Carry
namespace Go.Proofs
end Go.Proofs
namespace Go.Proofs.Ytcpcnajifdicmaa
open Go.RowKit Go.Sort Go.Shelf

def Rp.key (k : Nat) : Int := (Hp.ints 2 [(k : Int)] : Nat)
def Rp.cnt (r : List Rp.Pt) (k : Nat) (y : Int) : Nat := (List.range k).countP (fun j => decide (Rp.owner r (Rp.key j) = y))
theorem Rp.cnt_succ (r : List Rp.Pt) (k : Nat) (y : Int) : Rp.cnt r (k + 1) y = Rp.cnt r k y + if Rp.owner r (Rp.key k) = y then 1 else 0 := by
  unfold Rp.cnt
  rw [List.range_succ, List.countP_append]
  simp [List.countP_cons]
theorem Rp.cnt_le (r : List Rp.Pt) (k : Nat) (y : Int) : Rp.cnt r k y ≤ k := by
  unfold Rp.cnt
  have := List.countP_le_length (p := fun j => decide (Rp.owner r (Rp.key j) = y)) (l := List.range k)
  simpa using this
def Rp.ids (r : List Rp.Pt) : List Int := (Rp.walkL r 0).mergeSort fun x y => decide (x ≤ y)
def Rp.sharesE (r : List Rp.Pt) (keys : Int) : Int := if Rp.peopledE r ≠ 0 then Rp.peopledE r else if keys < 0 ∨ 4096 < keys then 4 else 0
def Rp.sharesL (r : List Rp.Pt) (keys : Int) : List Int := if Rp.sharesE r keys = 0 then (Rp.ids r).map (fun y => (Rp.cnt r keys.toNat y : Int)) else []

theorem mown_below {W W' : World} {k : TypeId} {R : Value → Option (DataW Unit × List MemPlace)} {b n : Nat} {D : DataW Unit} (h : W.ownsMap Try.prog k R b n D) (hb : Below W.heap.size W W') : W'.ownsMap Try.prog k R b n D :=
  h.kept (row := none) ⟨hb.os, hb.tape, hb.output, hb.size, fun k hk _ => hb.block k hk⟩ (by simp)
theorem zero3 {w : World} : (zeroValue 3).run Try.prog w = .ok (.int .i64 0) w := by kernel_rfl
theorem wf_of {x : Int} (h1 : -9223372036854775808 ≤ x) (h2 : x ≤ 9223372036854775807) : (Lit.int .i64 x).wf = true := by
  have e1 : IntKind.i64.min = -9223372036854775808 := by decide
  have e2 : IntKind.i64.max = 9223372036854775807 := by decide
  show (decide (IntKind.i64.min ≤ x) && decide (x ≤ IntKind.i64.max)) = true
  rw [e1, e2, Bool.and_eq_true, decide_eq_true_iff, decide_eq_true_iff]
  exact ⟨h1, h2⟩

theorem lit_inj {a b : Int} (h : (DataW.lit (.int .i64 a) : DataW Unit) = .lit (.int .i64 b)) : a = b := by
  injection h with h
  injection h
theorem Rp.round_length (r : List Rp.Pt) (h : Int) : (Rp.roundL r h).length = r.length := by simp [Rp.roundL]
theorem Rp.walk_le (r : List Rp.Pt) (h : Int) : (Rp.walkL r h).length ≤ r.length := by
  unfold Rp.walkL
  split
  · have := Rp.uniq_length (Rp.roundL r h)
    rw [Rp.round_length] at this
    exact this
  · simp

end Go.Proofs.Ytcpcnajifdicmaa
