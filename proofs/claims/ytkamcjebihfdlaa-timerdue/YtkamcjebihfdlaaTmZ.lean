/- timers: rows of one's own, carried on. -/
import Derived.Test.YtkamcjebihfdlaaTmY
namespace Go.Proofs.Ytkamcjebihfdlaa
open Go.RowKit
set_option maxRecDepth 20000

theorem OT.on {W W' : World} {B : Nat} {v : Value} {l : List Ti.T} (h : OT W B v l) (hb : Below W.heap.size W W') : OT W' B v l := own_below h hb
theorem OT.cg {W W' : World} {B b : Nat} {v : Value} {l : List Ti.T} (h : OT W B v l) (hc : Cg b W W') (hb : b < B) : OT W' B v l := own_cg' h hc (fun e => by have := (World.ownsRow.lt h _ e).1; omega)
end Go.Proofs.Ytkamcjebihfdlaa
