/- For all uint64 x and y and all ints n and m, brought to 1 to 1000000: a share of x of n is from 0 to n - 1, no greater than that of a y that is not below x, and no greater than that of the greater of n and m (the law HashShares answers true), and the arguments stay: without a bound. -/
import Derived.Test.YticmplnpkkkojaaRows
import Derived.WalkKit
import Derived.ProofKit
import Derived.OpenShut
import Derived.ShutString
import Derived.Test.YticmplnpkkkojaaHB
import Derived.Test.YticmplnpkkkojaaOpen
namespace Go.Proofs.Yticmplnpkkkojaa.hashShares
open Go.ChangeShapes Go.WideShapes Go.ChangeAt Go.RowKit
open Go.ChangeMaps (open_string shut_string)
set_option linter.unusedVariables false
set_option maxRecDepth 20000

theorem turned (n : Int) : 1 ≤ wrap64 (1 + (wrap64 (n.tmod 1000000 + 1000000)).tmod 1000000) ∧ wrap64 (1 + (wrap64 (n.tmod 1000000 + 1000000)).tmod 1000000) ≤ 1000000 := by
  have h1 := Int.lt_tmod_of_pos n (show (0 : Int) < 1000000 by decide)
  have h4 := Int.tmod_lt_of_pos n (show (0 : Int) < 1000000 by decide)
  rw [IntWalk.wrap64_in (n.tmod 1000000 + 1000000) (by omega)]
  have h2 := Int.tmod_lt_of_pos (n.tmod 1000000 + 1000000) (show (0 : Int) < 1000000 by decide)
  have h3 := Int.tmod_nonneg 1000000 (show (0 : Int) ≤ n.tmod 1000000 + 1000000 by omega)
  rw [IntWalk.wrap64_in _ (by omega)]
  omega
theorem lessN {x : Nat} {n m : Int} (hx : x < 18446744073709551616) (h1 : 1 ≤ n) (h2 : n ≤ m) : (x : Int) / 4294967296 * n / 4294967296 ≤ (x : Int) / 4294967296 * m / 4294967296 := by
  have a1 : 0 ≤ (x : Int) / 4294967296 := by omega
  have := Int.mul_le_mul_of_nonneg_left h2 a1
  omega
theorem lessX {x y : Nat} {n : Int} (h1 : 1 ≤ n) (h2 : x ≤ y) : (x : Int) / 4294967296 * n / 4294967296 ≤ (y : Int) / 4294967296 * n / 4294967296 := by
  have a1 : (x : Int) / 4294967296 ≤ (y : Int) / 4294967296 := by omega
  have := Int.mul_le_mul_of_nonneg_right a1 (show 0 ≤ n by omega)
  omega
theorem below {x : Nat} {n : Int} (hx : x < 18446744073709551616) (h1 : 1 ≤ n) : 0 ≤ (x : Int) / 4294967296 * n / 4294967296 ∧ (x : Int) / 4294967296 * n / 4294967296 < n := by
  have a1 : 0 ≤ (x : Int) / 4294967296 := by omega
  have a2 : (x : Int) / 4294967296 ≤ 4294967295 := by omega
  have b1 := Int.mul_nonneg a1 (show 0 ≤ n by omega)
  have b2 := Int.mul_le_mul_of_nonneg_right a2 (show 0 ≤ n by omega)
  omega

set_option maxHeartbeats 400000 in
theorem walk (x : Int) (w0 : (Lit.int .u64 x).wf = true) (y : Int) (w1 : (Lit.int .u64 y).wf = true) (n : Int) (w2 : (Lit.int .i64 n).wf = true) (m : Int) (w3 : (Lit.int .i64 m).wf = true) {w : World} :
    Calls Try.prog 6 #[.int .u64 x, .int .u64 y, .int .i64 n, .int .i64 m] w fun e w' => e = .returned (.bool true) ∧ Below w.heap.size w w' := by
  have hx := bounds_u64 w0
  have hy := bounds_u64 w1
  have hn := bounds_i64 w2
  have hm := bounds_i64 w3
  clear w0 w1 w2 w3
  obtain ⟨X, rfl⟩ := Int.eq_ofNat_of_zero_le hx.1
  obtain ⟨Y, rfl⟩ := Int.eq_ofNat_of_zero_le hy.1
  have hX : X < 18446744073709551616 := by omega
  have hY : Y < 18446744073709551616 := by omega
  have c0 := alive_any w
  have tn := turned n
  have tm := turned m
  go_enter Try.func6, Try.ntmps6
  go_wp2_with (go_at_call 19; with_reducible refine c0.mono ?_; rintro e w1 ⟨rfl, rfl⟩)
  generalize wrap64 (1 + (wrap64 (n.tmod 1000000 + 1000000)).tmod 1000000) = N1 at *
  generalize wrap64 (1 + (wrap64 (m.tmod 1000000 + 1000000)).tmod 1000000) = M1 at *
  obtain ⟨n1, n2⟩ := tn
  obtain ⟨m1, m2⟩ := tm
  have cX := share_any X N1 w hX (by omega) (by omega)
  have cY := share_any Y N1 w hY (by omega) (by omega)
  have cM := share_any X M1 w hX (by omega) (by omega)
  rw [Hp.shE_in (by omega), Hp.shK_in (by omega)] at cX cY cM
  have b1 := below hX n1
  have b2 : X ≤ Y → _ := lessX (x := X) (y := Y) n1
  have b3 := lessN (n := N1) (m := M1) hX n1
  generalize (X : Int) / 4294967296 * N1 / 4294967296 = A at *
  generalize (Y : Int) / 4294967296 * N1 / 4294967296 = B at *
  generalize (X : Int) / 4294967296 * M1 / 4294967296 = D at *
  clear hx hy hn hm
  rcases Int.lt_or_le N1 M1 with hl | hl
  · replace b3 := b3 (by omega)
    go_wp2_with (first | (go_at_call 8; (first | (with_reducible refine cX.mono ?_) | (with_reducible refine cY.mono ?_) | (with_reducible refine cM.mono ?_)); rintro e w1 ⟨rfl, rfl⟩) | (go_at_call 18; refine (num_any _ w).mono ?_; rintro e w1 ⟨rfl, rfl⟩))
    all_goals go_ret
    all_goals refine ⟨ret_bool ?_, Below.refl _ _⟩
    all_goals rfl
  · clear b3
    go_wp2_with (first | (go_at_call 8; (first | (with_reducible refine cX.mono ?_) | (with_reducible refine cY.mono ?_)); rintro e w1 ⟨rfl, rfl⟩) | (go_at_call 18; refine (num_any _ w).mono ?_; rintro e w1 ⟨rfl, rfl⟩))
    all_goals go_ret
    all_goals refine ⟨ret_bool ?_, Below.refl _ _⟩
    all_goals rfl

set_option maxRecDepth 100000 in
theorem lifted (os : Os) (started : os.Started) (H : Type) (enc : TypeId × Value → H) :
    ReturnsInHanded {} Try.checked os 6 .any (Rows.hashSharesSpec.pre6 enc Try.prog Try.f6 Rows.hashSharesRow.domain false) (Rows.hashSharesSpec.post enc Try.prog Try.f6 false true false false) := by
  refine returnsInHanded_of_change (C := Try.checked) own started (by kernel_rfl) Try.func6
    (ChangeSpec.witness6 (enc := enc) (C := Try.checked) false ⟨#[], #[.int .u64 0, .int .u64 0, .int .i64 0, .int .i64 0], []⟩ 8 (by kernel_rfl) (by kernel_rfl) (by kernel_rfl) (by kernel_rfl)) ?_
  intro W base args ds gs before hval0 hW hcnd _
  have hval : ∀ (j : Nat) t v, Try.f6.params[j]? = some t → args[j]? = some v → Value.okWide Try.prog W .any base t v := hval0
  have hW' := hW
  obtain ⟨p, q, hA0, hV, rfl, hfz, hnd⟩ := hW
  have hA : DataW.TrodAll enc Try.prog W 0 (fun _ => true) true Try.f6.params.toList args.toList ds p := hA0
  rw [Try.params6] at hA hval
  obtain ⟨v0, vs0, d0, ds0, p0, q0, hargs, rfl, rfl, h0, r0⟩ := trodAll_cons hA
  obtain ⟨v1, vs1, d1, ds1, p1, q1, rfl, rfl, rfl, h1, r1⟩ := trodAll_cons r0
  obtain ⟨v2, vs2, d2, ds2, p2, q2, rfl, rfl, rfl, h2, r2⟩ := trodAll_cons r1
  obtain ⟨v3, vs3, d3, ds3, p3, q3, rfl, rfl, rfl, h3, r3⟩ := trodAll_cons r2
  obtain ⟨rfl, rfl, rfl⟩ := trodAll_nil r3
  obtain rfl : args = #[v0, v1, v2, v3] := by cases args; simp_all
  obtain ⟨rfl, rfl⟩ := trodVars_none hV
  obtain ⟨a0, rfl, rfl, rfl, w0⟩ := open_int Try.underlying22 (hval 0 22 v0 rfl rfl) h0
  obtain ⟨a1, rfl, rfl, rfl, w1⟩ := open_int Try.underlying22 (hval 1 22 v1 rfl rfl) h1
  obtain ⟨a2, rfl, rfl, rfl, w2⟩ := open_int Try.underlying3 (hval 2 3 v2 rfl rfl) h2
  obtain ⟨a3, rfl, rfl, rfl, w3⟩ := open_int Try.underlying3 (hval 3 3 v3 rfl rfl) h3
  clear hA0 hval0
  refine (walk a0 w0 a1 w1 a2 w2 a3 w3).mono fun e W' ⟨he, bel⟩ => ?_
  subst he
  exact ⟨_, rfl, _, _, _, [], _, [], hW', trodAll_mk1 (shut_bool Try.underlying4 _), (trodAll_cons_mk (shut_int Try.underlying22 w0) (trodAll_cons_mk (shut_int Try.underlying22 w1) (trodAll_cons_mk (shut_int Try.underlying3 w2) (trodAll_cons_mk (shut_int Try.underlying3 w3) trodAll_mk0)))), rfl, bel.frame _, fun h => by cases h⟩

theorem over : Rows.hashSharesRow.holds Try.pinned (OpenSpec.ofChange Rows.hashSharesSpec) :=
  OpenClaim.holds_of_wide 6 Try.f6 rfl rfl rfl rfl rfl rfl rfl ⟨rfl, rfl, rfl, rfl, rfl⟩ rfl rfl rfl rfl rfl (by kernel_rfl) Try.func6 (by kernel_rfl)
    (of_decide_eq_true (by kernel_rfl)) (by unfold Func.isWrapper; first | (rw [if_pos (by decide +kernel)]; kernel_rfl) | (rw [if_neg (by decide +kernel)]; exact ⟨rfl, rfl⟩))
    (fun os started H enc _ => lifted os started H enc)
end Go.Proofs.Yticmplnpkkkojaa.hashShares

namespace Go.Proofs.Yticmplnpkkkojaa
/-- THE STATEMENT. -/
theorem hashShares_holds : Rows.HashSharesSaid := hashShares.over
#print axioms hashShares_holds
end Go.Proofs.Yticmplnpkkkojaa
