/- MessageUses: its walk. -/
import Derived.Test.YtoadcaennlfadaaMN3
import Derived.Test.YtoadcaennlfadaaSM0
import Derived.Test.YtoadcaennlfadaaSM1
import Derived.Test.YtoadcaennlfadaaSM2
import Derived.Test.YtoadcaennlfadaaSM3
import Derived.Test.YtoadcaennlfadaaSM4
import Derived.Test.YtoadcaennlfadaaSM5
import Derived.Test.YtoadcaennlfadaaSM6
namespace Go.Proofs.Ytoadcaennlfadaa
open Go.RowKit
set_option maxRecDepth 20000

theorem sameMsg_any (x y : Mg) (v u : Value) (d e : List Int) (w : World) (hv : Seg .u8 w v d) (hu : Seg .u8 w u e) (hd : ∀ z ∈ d, 0 ≤ z ∧ z ≤ 255) (he : ∀ z ∈ e, 0 ≤ z ∧ z ≤ 255) :
    Calls Try.prog 20 #[x.val v, y.val u] w fun r w' => r = .returned (.bool (sameM x y d e)) ∧ Below w.heap.size w w' := by
  unfold sameM
  cases h0 : (d == e) with
  | false => simpa using same_0 x y v u d e w hv hu hd he h0
  | true =>
  cases h1 : (x.k == y.k) with
  | false => simpa using same_1 x y v u d e w hv hu hd he h0 h1
  | true =>
  cases h2 : (x.c == y.c) with
  | false => simpa using same_2 x y v u d e w hv hu hd he h0 h1 h2
  | true =>
  cases h3 : (x.b == y.b) with
  | false => simpa using same_3 x y v u d e w hv hu hd he h0 h1 h2 h3
  | true =>
  cases h4 : (x.i == y.i) with
  | false => simpa using same_4 x y v u d e w hv hu hd he h0 h1 h2 h3 h4
  | true =>
  cases h5 : (x.s == y.s) with
  | false => simpa using same_5 x y v u d e w hv hu hd he h0 h1 h2 h3 h4 h5
  | true =>
  cases h6 : (x.q == y.q) with
  | false => simpa using same_6 x y v u d e w hv hu hd he h0 h1 h2 h3 h4 h5 h6
  | true =>
  cases h7 : (x.m == y.m) with
  | false => simpa using same_7 x y v u d e w hv hu hd he h0 h1 h2 h3 h4 h5 h6 h7
  | true =>
  cases h8 : (x.n == y.n) with
  | false => simpa using same_8 x y v u d e w hv hu hd he h0 h1 h2 h3 h4 h5 h6 h7 h8
  | true =>
  cases h9 : (x.l == y.l) with
  | false => simpa using same_9 x y v u d e w hv hu hd he h0 h1 h2 h3 h4 h5 h6 h7 h8 h9
  | true =>
  cases h10 : (x.o == y.o) with
  | false => simpa using same_10 x y v u d e w hv hu hd he h0 h1 h2 h3 h4 h5 h6 h7 h8 h9 h10
  | true =>
  cases h11 : (x.p == y.p) with
  | false => simpa using same_11 x y v u d e w hv hu hd he h0 h1 h2 h3 h4 h5 h6 h7 h8 h9 h10 h11
  | true => simpa using same_12 x y v u d e w hv hu hd he h0 h1 h2 h3 h4 h5 h6 h7 h8 h9 h10 h11
end Go.Proofs.Ytoadcaennlfadaa
