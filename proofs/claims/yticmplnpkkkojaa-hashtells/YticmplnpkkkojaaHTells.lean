/- For every uint64 x, all texts s and t and all ints a, b and n: Mix and Unmix of x, Of of s and t, Ints of a and b, and Share of x and n, with its error, are the reference's (the law HashTells answers true), and the arguments stay: without a bound. -/
import Derived.Test.YticmplnpkkkojaaRows
import Derived.WalkKit
import Derived.ProofKit
import Derived.OpenShut
import Derived.ShutString
import Derived.Test.YticmplnpkkkojaaHG
import Derived.Test.YticmplnpkkkojaaOpen
namespace Go.Proofs.Yticmplnpkkkojaa.hashTells
open Go.ChangeShapes Go.WideShapes Go.ChangeAt Go.RowKit
open Go.ChangeMaps (open_string shut_string)
set_option linter.unusedVariables false
set_option maxRecDepth 20000

set_option maxHeartbeats 400000 in
theorem walk_v (X mx ux hh ii : Nat) (s t : ByteArray) (a b n kk ee : Int) (w : World)
    (c1 : Calls Try.prog 8 #[.int .u64 X, .int .i64 n] w fun e w' => e = .returned (.tuple #[.int .i64 kk, .int .i64 ee]) ∧ w = w')
    (c2 : Calls Try.prog 9 #[.int .u64 X, .int .i64 n] w fun e w' => e = .returned (.tuple #[.int .i64 kk, .int .i64 ee]) ∧ w = w')
    (c3 : Calls Try.prog 10 #[.int .u64 X] w fun e w' => e = .returned (.int .u64 mx) ∧ w = w')
    (c4 : Calls Try.prog 11 #[.int .u64 X] w fun e w' => e = .returned (.int .u64 mx) ∧ w = w')
    (c5 : Calls Try.prog 12 #[.int .u64 X] w fun e w' => e = .returned (.int .u64 ux) ∧ w = w')
    (c6 : Calls Try.prog 13 #[.int .u64 X] w fun e w' => e = .returned (.int .u64 ux) ∧ w = w')
    (C1 : ∀ w : World, Calls Try.prog 14 #[.int .u64 X, .slice (some ⟨w.heap.size, 0, none⟩) 2 2] (w.alloc (.cells #[.string s, .string t] 9)) fun e w' => e = .returned (.int .u64 hh) ∧ Below w.heap.size w w')
    (C2 : ∀ w : World, Calls Try.prog 15 #[.int .u64 X, .slice (some ⟨w.heap.size, 0, none⟩) 2 2] (w.alloc (.cells #[.string s, .string t] 9)) fun e w' => e = .returned (.int .u64 hh) ∧ Below w.heap.size w w')
    (C3 : ∀ w : World, Calls Try.prog 16 #[.int .u64 X, .slice (some ⟨w.heap.size, 0, none⟩) 2 2] (w.alloc (.cells #[.int .i64 a, .int .i64 b] 3)) fun e w' => e = .returned (.int .u64 ii) ∧ Below w.heap.size w w')
    (C4 : ∀ w : World, Calls Try.prog 17 #[.int .u64 X, .slice (some ⟨w.heap.size, 0, none⟩) 2 2] (w.alloc (.cells #[.int .i64 a, .int .i64 b] 3)) fun e w' => e = .returned (.int .u64 ii) ∧ Below w.heap.size w w') :
    Calls Try.prog 3 #[.int .u64 X, .string s, .string t, .int .i64 a, .int .i64 b, .int .i64 n] w fun e w' => e = .returned (.bool true) ∧ Below w.heap.size w w' := by
  go_enter Try.func3, Try.ntmps3
  go_wp2_with fail
  with_reducible refine c1.mono ?_
  rintro e w1 ⟨rfl, rfl⟩
  go_wp2_with fail
  with_reducible refine c2.mono ?_
  rintro e w1 ⟨rfl, rfl⟩
  go_wp2_with fail
  with_reducible refine c3.mono ?_
  rintro e w1 ⟨rfl, rfl⟩
  go_wp2_with fail
  with_reducible refine c4.mono ?_
  rintro e w1 ⟨rfl, rfl⟩
  go_wp2_with fail
  with_reducible refine c5.mono ?_
  rintro e w1 ⟨rfl, rfl⟩
  go_wp2_with fail
  with_reducible refine c6.mono ?_
  rintro e w1 ⟨rfl, rfl⟩
  go_wp2_with fail
  with_reducible refine (C1 w).mono ?_
  rintro e wa ⟨rfl, ba⟩
  go_wp2_with fail
  with_reducible refine (C2 wa).mono ?_
  rintro e wb ⟨rfl, bb⟩
  go_wp2_with fail
  with_reducible refine (C3 wb).mono ?_
  rintro e wc ⟨rfl, bc⟩
  go_wp2_with fail
  with_reducible refine (C4 wc).mono ?_
  rintro e wd ⟨rfl, bd⟩
  go_wp2_with fail
  with_reducible refine (num_any _ wd).mono ?_
  rintro e wd' ⟨rfl, rfl⟩
  go_wp2_with fail
  with_reducible refine (alive_any wd).mono ?_
  rintro e wd' ⟨rfl, rfl⟩
  go_wp2_with fail
  go_ret
  refine ⟨rfl, ?_⟩
  exact Below.step (Below.step (Below.step ba bb) bc) bd

theorem walk (x : Int) (w0 : (Lit.int .u64 x).wf = true) (s : ByteArray) (hs : s.size ≤ maxLen) (t : ByteArray) (ht : t.size ≤ maxLen) (a : Int) (w3 : (Lit.int .i64 a).wf = true) (b : Int) (w4 : (Lit.int .i64 b).wf = true) (n : Int) (w5 : (Lit.int .i64 n).wf = true) {w : World} :
    Calls Try.prog 3 #[.int .u64 x, .string s, .string t, .int .i64 a, .int .i64 b, .int .i64 n] w fun e w' => e = .returned (.bool true) ∧ Below w.heap.size w w' := by
  have hx := bounds_u64 w0
  have hn := bounds_i64 w5
  unfold maxLen at hs ht
  obtain ⟨X, rfl⟩ := Int.eq_ofNat_of_zero_le hx.1
  have hX : X < 18446744073709551616 := by omega
  have hs' : s.size ≤ 9223372036854775807 := by omega
  have ht' : t.size ≤ 9223372036854775807 := by omega
  exact walk_v X _ _ _ _ s t a b n _ _ w (share_any X n w hX hn.1 hn.2) (rshare_any X n w hX hn.1 hn.2) (mix_any X w hX) (rmix_any X w hX) (unmix_any X w hX) (runmix_any X w hX)
    (fun v => of2 X s t v hX hs' ht') (fun v => rof2 X s t v hX hs' ht') (fun v => ints2 X a b v hX) (fun v => rints2 X a b v hX)

set_option maxRecDepth 100000 in
theorem lifted (os : Os) (started : os.Started) (H : Type) (enc : TypeId × Value → H) :
    ReturnsInHanded {} Try.checked os 3 .any (Rows.hashTellsSpec.pre6 enc Try.prog Try.f3 Rows.hashTellsRow.domain false) (Rows.hashTellsSpec.post enc Try.prog Try.f3 false true false false) := by
  refine returnsInHanded_of_change (C := Try.checked) own started (by kernel_rfl) Try.func3
    (ChangeSpec.witness6 (enc := enc) (C := Try.checked) false ⟨#[], #[.int .u64 0, .string ⟨#[]⟩, .string ⟨#[]⟩, .int .i64 0, .int .i64 0, .int .i64 0], []⟩ 8 (by kernel_rfl) (by kernel_rfl) (by kernel_rfl) (by kernel_rfl)) ?_
  intro W base args ds gs before hval0 hW hcnd _
  have hval : ∀ (j : Nat) t v, Try.f3.params[j]? = some t → args[j]? = some v → Value.okWide Try.prog W .any base t v := hval0
  have hW' := hW
  obtain ⟨p, q, hA0, hV, rfl, hfz, hnd⟩ := hW
  have hA : DataW.TrodAll enc Try.prog W 0 (fun _ => true) true Try.f3.params.toList args.toList ds p := hA0
  rw [Try.params3] at hA hval
  obtain ⟨v0, vs0, d0, ds0, p0, q0, hargs, rfl, rfl, h0, r0⟩ := trodAll_cons hA
  obtain ⟨v1, vs1, d1, ds1, p1, q1, rfl, rfl, rfl, h1, r1⟩ := trodAll_cons r0
  obtain ⟨v2, vs2, d2, ds2, p2, q2, rfl, rfl, rfl, h2, r2⟩ := trodAll_cons r1
  obtain ⟨v3, vs3, d3, ds3, p3, q3, rfl, rfl, rfl, h3, r3⟩ := trodAll_cons r2
  obtain ⟨v4, vs4, d4, ds4, p4, q4, rfl, rfl, rfl, h4, r4⟩ := trodAll_cons r3
  obtain ⟨v5, vs5, d5, ds5, p5, q5, rfl, rfl, rfl, h5, r5⟩ := trodAll_cons r4
  obtain ⟨rfl, rfl, rfl⟩ := trodAll_nil r5
  obtain rfl : args = #[v0, v1, v2, v3, v4, v5] := by cases args; simp_all
  obtain ⟨rfl, rfl⟩ := trodVars_none hV
  obtain ⟨a0, rfl, rfl, rfl, w0⟩ := open_int Try.underlying22 (hval 0 22 v0 rfl rfl) h0
  obtain ⟨s1, rfl, rfl, rfl, hs1⟩ := open_string Try.underlying9 (hval 1 9 v1 rfl rfl) h1
  obtain ⟨s2, rfl, rfl, rfl, hs2⟩ := open_string Try.underlying9 (hval 2 9 v2 rfl rfl) h2
  obtain ⟨a3, rfl, rfl, rfl, w3⟩ := open_int Try.underlying3 (hval 3 3 v3 rfl rfl) h3
  obtain ⟨a4, rfl, rfl, rfl, w4⟩ := open_int Try.underlying3 (hval 4 3 v4 rfl rfl) h4
  obtain ⟨a5, rfl, rfl, rfl, w5⟩ := open_int Try.underlying3 (hval 5 3 v5 rfl rfl) h5
  clear hA0 hval0
  refine (walk a0 w0 s1 hs1 s2 hs2 a3 w3 a4 w4 a5 w5).mono fun e W' ⟨he, bel⟩ => ?_
  subst he
  exact ⟨_, rfl, _, _, _, [], _, [], hW', trodAll_mk1 (shut_bool Try.underlying4 _), (trodAll_cons_mk (shut_int Try.underlying22 w0) (trodAll_cons_mk (shut_string Try.underlying9 hs1) (trodAll_cons_mk (shut_string Try.underlying9 hs2) (trodAll_cons_mk (shut_int Try.underlying3 w3) (trodAll_cons_mk (shut_int Try.underlying3 w4) (trodAll_cons_mk (shut_int Try.underlying3 w5) trodAll_mk0)))))), rfl, bel.frame _, fun h => by cases h⟩

theorem over : Rows.hashTellsRow.holds Try.pinned (OpenSpec.ofChange Rows.hashTellsSpec) :=
  OpenClaim.holds_of_wide 3 Try.f3 rfl rfl rfl rfl rfl rfl rfl ⟨rfl, rfl, rfl, rfl, rfl⟩ rfl rfl rfl rfl rfl (by kernel_rfl) Try.func3 (by kernel_rfl)
    (of_decide_eq_true (by kernel_rfl)) (by unfold Func.isWrapper; first | (rw [if_pos (by decide +kernel)]; kernel_rfl) | (rw [if_neg (by decide +kernel)]; exact ⟨rfl, rfl⟩))
    (fun os started H enc _ => lifted os started H enc)
end Go.Proofs.Yticmplnpkkkojaa.hashTells

namespace Go.Proofs.Yticmplnpkkkojaa
/-- THE STATEMENT. -/
theorem hashTells_holds : Rows.HashTellsSaid := hashTells.over
#print axioms hashTells_holds
end Go.Proofs.Yticmplnpkkkojaa
