/- waybillref09: Check, on lists. -/
import Derived.Test.YtoadcaennlfadaaRF3
import Derived.Test.YtoadcaennlfadaaGG
import Derived.Test.YtoadcaennlfadaaRS0
import Derived.Test.YtoadcaennlfadaaRS1
import Derived.Test.YtoadcaennlfadaaRS2
import Derived.Test.YtoadcaennlfadaaRS3
import Derived.Test.YtoadcaennlfadaaRS4
import Derived.Test.YtoadcaennlfadaaRS5
import Derived.Test.YtoadcaennlfadaaRS6
namespace Go.Proofs.Ytoadcaennlfadaa
open Go.RowKit
set_option maxRecDepth 20000

def usX (x : Mg) : Mg := mgOf x.k (usN x.nums (formL x.k) (acc0 x))
theorem us_iff (x : Mg) (d : List Int) (hk : 1 ≤ x.k ∧ x.k ≤ 8) : sameM x (usX x) d (usT d (formL x.k) []) = (okF x 0 && okF x 1 && okF x 2 && okF x 3 && okF x 4 && okF x 5 && okF x 6 && okF x 7 && okF x 8 && okF x 9 && (d.isEmpty || (usedP x.k).any (10 == ·))) := by
  obtain ⟨k, c, b, i, s, q, m, n, l, o, p⟩ := x
  simp only at hk
  rw [Bool.eq_iff_iff]
  rcases kinds8 hk with rfl | rfl | rfl | rfl | rfl | rfl | rfl | rfl
  all_goals simp [sameM, usX, mgOf, usN, usT, formL, acc0, plc, okF, usedP, Mg.nums]
  all_goals (try (constructor <;> (intro h; simp_all)))

theorem rSame_any (x y : Mg) (v u : Value) (d e : List Int) (w : World) (hv : Seg .u8 w v d) (hu : Seg .u8 w u e) (hd : ∀ z ∈ d, 0 ≤ z ∧ z ≤ 255) (he : ∀ z ∈ e, 0 ≤ z ∧ z ≤ 255) :
    Calls Try.prog 45 #[x.val v, y.val u] w fun r w' => r = .returned (.bool (sameM x y d e)) ∧ Below w.heap.size w w' := by
  unfold sameM
  cases h0 : (d == e) with
  | false => simpa using rsame_0 x y v u d e w hv hu hd he h0
  | true =>
  cases h1 : (x.k == y.k) with
  | false => simpa using rsame_1 x y v u d e w hv hu hd he h0 h1
  | true =>
  cases h2 : (x.c == y.c) with
  | false => simpa using rsame_2 x y v u d e w hv hu hd he h0 h1 h2
  | true =>
  cases h3 : (x.b == y.b) with
  | false => simpa using rsame_3 x y v u d e w hv hu hd he h0 h1 h2 h3
  | true =>
  cases h4 : (x.i == y.i) with
  | false => simpa using rsame_4 x y v u d e w hv hu hd he h0 h1 h2 h3 h4
  | true =>
  cases h5 : (x.s == y.s) with
  | false => simpa using rsame_5 x y v u d e w hv hu hd he h0 h1 h2 h3 h4 h5
  | true =>
  cases h6 : (x.q == y.q) with
  | false => simpa using rsame_6 x y v u d e w hv hu hd he h0 h1 h2 h3 h4 h5 h6
  | true =>
  cases h7 : (x.m == y.m) with
  | false => simpa using rsame_7 x y v u d e w hv hu hd he h0 h1 h2 h3 h4 h5 h6 h7
  | true =>
  cases h8 : (x.n == y.n) with
  | false => simpa using rsame_8 x y v u d e w hv hu hd he h0 h1 h2 h3 h4 h5 h6 h7 h8
  | true =>
  cases h9 : (x.l == y.l) with
  | false => simpa using rsame_9 x y v u d e w hv hu hd he h0 h1 h2 h3 h4 h5 h6 h7 h8 h9
  | true =>
  cases h10 : (x.o == y.o) with
  | false => simpa using rsame_10 x y v u d e w hv hu hd he h0 h1 h2 h3 h4 h5 h6 h7 h8 h9 h10
  | true =>
  cases h11 : (x.p == y.p) with
  | false => simpa using rsame_11 x y v u d e w hv hu hd he h0 h1 h2 h3 h4 h5 h6 h7 h8 h9 h10 h11
  | true => simpa using rsame_12 x y v u d e w hv hu hd he h0 h1 h2 h3 h4 h5 h6 h7 h8 h9 h10 h11

def lets : List Nat := [99, 98, 105, 115, 113, 109, 110, 108, 111, 112]
theorem lets_ix (k : Nat) (hk : k < 10) (w : World) : (Instr.index 9 (.string ⟨#[99, 98, 105, 115, 113, 109, 110, 108, 111, 112]⟩) (.int .i64 k)).run Try.prog w = .ok (.int .u8 (lets.getD k 0 : Nat)) w := by
  have : k = 0 ∨ k = 1 ∨ k = 2 ∨ k = 3 ∨ k = 4 ∨ k = 5 ∨ k = 6 ∨ k = 7 ∨ k = 8 ∨ k = 9 := by omega
  clear hk
  rcases this with rfl | rfl | rfl | rfl | rfl | rfl | rfl | rfl | rfl | rfl <;> rfl
theorem lets_plc (k : Nat) (hk : k < 10) : plc (lets.getD k 0) = k ∧ (lets.getD k 0 = 99 ∨ lets.getD k 0 = 98 ∨ lets.getD k 0 = 105 ∨ lets.getD k 0 = 115 ∨ lets.getD k 0 = 113 ∨ lets.getD k 0 = 109 ∨ lets.getD k 0 = 110 ∨ lets.getD k 0 = 108 ∨ lets.getD k 0 = 111 ∨ lets.getD k 0 = 112) := by
  have : k = 0 ∨ k = 1 ∨ k = 2 ∨ k = 3 ∨ k = 4 ∨ k = 5 ∨ k = 6 ∨ k = 7 ∨ k = 8 ∨ k = 9 := by omega
  rcases this with rfl | rfl | rfl | rfl | rfl | rfl | rfl | rfl | rfl | rfl <;> decide
theorem nums_any (x : Mg) (h : ∀ j : Nat, j < 10 → badN (x.nums.getD j 0) = false) : x.nums.any badN = false := by
  rw [List.any_eq_false]
  intro z hz
  obtain ⟨j, hj, rfl⟩ := List.getElem_of_mem hz
  have := h j hj
  rw [getD_at hj] at this
  simp [this]
end Go.Proofs.Ytoadcaennlfadaa
