/- timers: what the reference tells, all of it. -/
import Derived.Test.YtkamcjebihfdlaaTmG
import Derived.Test.YtkamcjebihfdlaaTmH
namespace Go.Proofs.Ytkamcjebihfdlaa
open Go.RowKit
set_option linter.unusedVariables false
set_option maxRecDepth 20000

theorem rput_is : RPut := fun B v l t w h hB hl => rput_any B v l t w h hB hl
theorem radd_any (v u : Value) (l more : List Ti.T) (w : World) (hs : TS w v l) (hm : TS w u more) (hlen : l.length ≤ 8796093022208) :
    Calls Try.prog 11 #[v, u] w fun e w' => ∃ r, e = .returned (.tuple #[r, .int .i64 (Ti.addE l more)]) ∧ Below w.heap.size w w' ∧ OT w' w.heap.size r (Ti.addR l more) :=
  radd_of rput_is v u l more w hs hm hlen
theorem rcancel_any (v u : Value) (l : List Ti.T) (ids : List Int) (w : World) (hs : TS w v l) (hm : Seg .i64 w u ids) :
    Calls Try.prog 17 #[v, u] w fun e w' => ∃ r, e = .returned (.tuple #[r, .int .i64 (Ti.canN l ids), .int .i64 (Ti.chkE l)]) ∧ Below w.heap.size w w' ∧ OT w' w.heap.size r (Ti.canR l ids) :=
  rcancel_of rput_is v u l ids w hs hm
theorem rdue_any (v : Value) (l : List Ti.T) (t : Int) (w : World) (hs : TS w v l) (hlen : l.length ≤ 8796093022208) :
    Calls Try.prog 15 #[v, .int .i64 t] w fun e w' => ∃ r s, e = .returned (.tuple #[r, s, .int .i64 (Ti.chkE l)]) ∧ Below w.heap.size w w' ∧ OT w' w.heap.size r (Ti.dueL l t) ∧ w'.ownsRow w.heap.size 3 1 s (Ti.dueI l t).length (i64s (Ti.dueI l t)) :=
  rdue_of rtake_any v l t w hs hlen
end Go.Proofs.Ytkamcjebihfdlaa
