/- For all uint64 seed and other and all ints a and b: Ints of a and b from seed on is Ints of b from Ints of a on, Ints of no number is the seed, Ints of a from two seeds are the same just if the seeds are, and of two numbers just if these are (the law HashParts answers true), and the arguments stay: without a bound. -/
import Derived.Test.YticmplnpkkkojaaRows
import Derived.WalkKit
import Derived.ProofKit
import Derived.OpenShut
import Derived.ShutString
import Derived.Test.YticmplnpkkkojaaHD
import Derived.Test.YticmplnpkkkojaaOpen
namespace Go.Proofs.Yticmplnpkkkojaa.hashParts
open Go.ChangeShapes Go.WideShapes Go.ChangeAt Go.RowKit
open Go.ChangeMaps (open_string shut_string)
set_option linter.unusedVariables false
set_option maxRecDepth 20000

set_option maxHeartbeats 400000 in
theorem walk_v (X Y xa ya xb xab : Nat) (a b : Int) (w : World) (q1 : xa = ya ↔ X = Y) (q2 : xa = xb ↔ a = b)
    (C1 : ∀ w : World, Calls Try.prog 16 #[.int .u64 X, .slice (some ⟨w.heap.size, 0, none⟩) 1 1] (w.alloc (.cells #[.int .i64 a] 3)) fun e w' => e = .returned (.int .u64 xa) ∧ Below w.heap.size w w')
    (C2 : ∀ w : World, Calls Try.prog 16 #[.int .u64 Y, .slice (some ⟨w.heap.size, 0, none⟩) 1 1] (w.alloc (.cells #[.int .i64 a] 3)) fun e w' => e = .returned (.int .u64 ya) ∧ Below w.heap.size w w')
    (C3 : ∀ w : World, Calls Try.prog 16 #[.int .u64 X, .slice (some ⟨w.heap.size, 0, none⟩) 1 1] (w.alloc (.cells #[.int .i64 b] 3)) fun e w' => e = .returned (.int .u64 xb) ∧ Below w.heap.size w w')
    (C4 : ∀ w : World, Calls Try.prog 16 #[.int .u64 xa, .slice (some ⟨w.heap.size, 0, none⟩) 1 1] (w.alloc (.cells #[.int .i64 b] 3)) fun e w' => e = .returned (.int .u64 xab) ∧ Below w.heap.size w w')
    (C5 : ∀ w : World, Calls Try.prog 16 #[.int .u64 X, .slice (some ⟨w.heap.size, 0, none⟩) 2 2] (w.alloc (.cells #[.int .i64 a, .int .i64 b] 3)) fun e w' => e = .returned (.int .u64 xab) ∧ Below w.heap.size w w')
    (C0 : ∀ w : World, Calls Try.prog 16 #[.int .u64 X, .slice none 0 0] w fun e w' => e = .returned (.int .u64 X) ∧ w = w') :
    Calls Try.prog 5 #[.int .u64 X, .int .u64 Y, .int .i64 a, .int .i64 b] w fun e w' => e = .returned (.bool true) ∧ Below w.heap.size w w' := by
  have c0 := alive_any w
  have q1 : ((xa : Int) = ya ↔ (X : Int) = Y) := by omega
  have q2 : ((xa : Int) = xb ↔ a = b) := by omega
  have Q1 : (((xa : Int) == ya) == ((X : Int) == Y)) = true := beq_iff q1
  have Q2 : Hid ((((xa : Int) == xb) == (a == b)) = true) := beq_iff q2
  clear q1 q2
  go_enter Try.func5, Try.ntmps5
  go_wp2_with (go_at_call 19; with_reducible refine c0.mono ?_; rintro e w1 ⟨rfl, rfl⟩)
  with_reducible refine (C1 w).mono ?_
  rintro e wa ⟨rfl, ba⟩
  go_wp2_with fail
  with_reducible refine (C5 wa).mono ?_
  rintro e wb ⟨rfl, bb⟩
  go_wp2_with fail
  with_reducible refine (C4 wb).mono ?_
  rintro e wc ⟨rfl, bc⟩
  go_wp2_with fail
  with_reducible refine (C0 wc).mono ?_
  rintro e wc' ⟨rfl, rfl⟩
  go_wp2_with fail
  with_reducible refine (C2 wc).mono ?_
  rintro e wd ⟨rfl, bd⟩
  go_wp2_with fail
  with_reducible refine (C3 wd).mono ?_
  rintro e we ⟨rfl, be⟩
  go_wp2_with fail
  go_ret
  refine ⟨ret_bool Q2.out, ?_⟩
  exact Below.step (Below.step (Below.step (Below.step ba bb) bc) bd) be

theorem walk (x : Int) (w0 : (Lit.int .u64 x).wf = true) (y : Int) (w1 : (Lit.int .u64 y).wf = true) (a : Int) (w2 : (Lit.int .i64 a).wf = true) (b : Int) (w3 : (Lit.int .i64 b).wf = true) {w : World} :
    Calls Try.prog 5 #[.int .u64 x, .int .u64 y, .int .i64 a, .int .i64 b] w fun e w' => e = .returned (.bool true) ∧ Below w.heap.size w w' := by
  have hx := bounds_u64 w0
  have hy := bounds_u64 w1
  have ha := bounds_i64 w2
  have hb := bounds_i64 w3
  clear w0 w1 w2 w3
  obtain ⟨X, rfl⟩ := Int.eq_ofNat_of_zero_le hx.1
  obtain ⟨Y, rfl⟩ := Int.eq_ofNat_of_zero_le hy.1
  have hX : X < 18446744073709551616 := by omega
  have hY : Y < 18446744073709551616 := by omega
  have q1 := (Hp.mix_iff (Hp.add_lt X a) (Hp.add_lt Y a)).trans (Hp.add_seed a hX hY)
  have q2 := (Hp.mix_iff (Hp.add_lt X a) (Hp.add_lt X b)).trans (Hp.add_num X ha.1 ha.2 hb.1 hb.2)
  have e1 := fun s z => (Hp.ints_one s z).trans (Hp.stepI_is s z)
  rw [← e1, ← e1] at q1 q2
  have C5 := fun v => ints2 X a b v hX
  rw [Hp.ints_two] at C5
  exact walk_v X Y _ _ _ _ a b w q1 q2 (fun v => ints1 X a v hX) (fun v => ints1 Y a v hY) (fun v => ints1 X b v hX) (fun v => ints1 _ b v (Hp.ints_lt hX [a])) C5 (fun v => ints0 X v hX)

set_option maxRecDepth 100000 in
theorem lifted (os : Os) (started : os.Started) (H : Type) (enc : TypeId × Value → H) :
    ReturnsInHanded {} Try.checked os 5 .any (Rows.hashPartsSpec.pre6 enc Try.prog Try.f5 Rows.hashPartsRow.domain false) (Rows.hashPartsSpec.post enc Try.prog Try.f5 false true false false) := by
  refine returnsInHanded_of_change (C := Try.checked) own started (by kernel_rfl) Try.func5
    (ChangeSpec.witness6 (enc := enc) (C := Try.checked) false ⟨#[], #[.int .u64 0, .int .u64 0, .int .i64 0, .int .i64 0], []⟩ 8 (by kernel_rfl) (by kernel_rfl) (by kernel_rfl) (by kernel_rfl)) ?_
  intro W base args ds gs before hval0 hW hcnd _
  have hval : ∀ (j : Nat) t v, Try.f5.params[j]? = some t → args[j]? = some v → Value.okWide Try.prog W .any base t v := hval0
  have hW' := hW
  obtain ⟨p, q, hA0, hV, rfl, hfz, hnd⟩ := hW
  have hA : DataW.TrodAll enc Try.prog W 0 (fun _ => true) true Try.f5.params.toList args.toList ds p := hA0
  rw [Try.params5] at hA hval
  obtain ⟨v0, vs0, d0, ds0, p0, q0, hargs, rfl, rfl, h0, r0⟩ := trodAll_cons hA
  obtain ⟨v1, vs1, d1, ds1, p1, q1, rfl, rfl, rfl, h1, r1⟩ := trodAll_cons r0
  obtain ⟨v2, vs2, d2, ds2, p2, q2, rfl, rfl, rfl, h2, r2⟩ := trodAll_cons r1
  obtain ⟨v3, vs3, d3, ds3, p3, q3, rfl, rfl, rfl, h3, r3⟩ := trodAll_cons r2
  obtain ⟨rfl, rfl, rfl⟩ := trodAll_nil r3
  obtain rfl : args = #[v0, v1, v2, v3] := by cases args; simp_all
  obtain ⟨rfl, rfl⟩ := trodVars_none hV
  obtain ⟨a0, rfl, rfl, rfl, w0⟩ := open_int Try.underlying22 (hval 0 22 v0 rfl rfl) h0
  obtain ⟨a1, rfl, rfl, rfl, w1⟩ := open_int Try.underlying22 (hval 1 22 v1 rfl rfl) h1
  obtain ⟨a2, rfl, rfl, rfl, w2⟩ := open_int Try.underlying3 (hval 2 3 v2 rfl rfl) h2
  obtain ⟨a3, rfl, rfl, rfl, w3⟩ := open_int Try.underlying3 (hval 3 3 v3 rfl rfl) h3
  clear hA0 hval0
  refine (walk a0 w0 a1 w1 a2 w2 a3 w3).mono fun e W' ⟨he, bel⟩ => ?_
  subst he
  exact ⟨_, rfl, _, _, _, [], _, [], hW', trodAll_mk1 (shut_bool Try.underlying4 _), (trodAll_cons_mk (shut_int Try.underlying22 w0) (trodAll_cons_mk (shut_int Try.underlying22 w1) (trodAll_cons_mk (shut_int Try.underlying3 w2) (trodAll_cons_mk (shut_int Try.underlying3 w3) trodAll_mk0)))), rfl, bel.frame _, fun h => by cases h⟩

theorem over : Rows.hashPartsRow.holds Try.pinned (OpenSpec.ofChange Rows.hashPartsSpec) :=
  OpenClaim.holds_of_wide 5 Try.f5 rfl rfl rfl rfl rfl rfl rfl ⟨rfl, rfl, rfl, rfl, rfl⟩ rfl rfl rfl rfl rfl (by kernel_rfl) Try.func5 (by kernel_rfl)
    (of_decide_eq_true (by kernel_rfl)) (by unfold Func.isWrapper; first | (rw [if_pos (by decide +kernel)]; kernel_rfl) | (rw [if_neg (by decide +kernel)]; exact ⟨rfl, rfl⟩))
    (fun os started H enc _ => lifted os started H enc)
end Go.Proofs.Yticmplnpkkkojaa.hashParts

namespace Go.Proofs.Yticmplnpkkkojaa
/-- THE STATEMENT. -/
theorem hashParts_holds : Rows.HashPartsSaid := hashParts.over
#print axioms hashParts_holds
end Go.Proofs.Yticmplnpkkkojaa
