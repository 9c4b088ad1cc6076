/- For all uint64 states and all ints a and b: a chance of 0 is never there, one of 1000 always, and of two from 0 to 1000 the greater one whenever the smaller one is (the law DrawChance answers true), and the arguments stay: without a bound. -/
import Derived.Test.YtjdbfilbjpfajaaRows
import Derived.WalkKit
import Derived.ProofKit
import Derived.OpenShut
import Derived.ShutString
import Derived.Test.YtjdbfilbjpfajaaDG
import Derived.Test.YtjdbfilbjpfajaaOpen
namespace Go.Proofs.Ytjdbfilbjpfajaa.drawChance
open Go.ChangeShapes Go.WideShapes Go.ChangeAt Go.RowKit
open Go.ChangeMaps (open_string shut_string)
set_option linter.unusedVariables false
set_option maxRecDepth 20000

theorem thou (a : Int) : -1000 ≤ a.tmod 1001 ∧ a.tmod 1001 ≤ 1000 := by
  have h1 := Int.tmod_lt_of_pos a (show (0 : Int) < 1001 by decide)
  have h2 := Int.lt_tmod_of_pos a (show (0 : Int) < 1001 by decide)
  omega
theorem walk_v (s : Nat) (a b : Int) (w : World) (K S : Nat) (hK : (K : Int) < 1000)
    (C : ∀ (n : Int) (w : World), 0 ≤ n → n ≤ 1000 → Calls Try.prog 17 #[.int .u64 s, .int .i64 n] w fun e w' => e = .returned (.tuple #[.int .u64 S, .bool (decide ((K : Int) < n)), .int .i64 0]) ∧ w = w') :
    Calls Try.prog 8 #[.int .u64 s, .int .i64 a, .int .i64 b] w fun e w' => e = .returned (.bool true) ∧ Below w.heap.size w w' := by
  have c0 := alive_any w
  have ha := thou a
  have hb := thou b
  have C0 := fun w => C 0 w (by decide) (by decide)
  have C1 := fun w => C 1000 w (by decide) (by decide)
  rw [decide_eq_false (by omega)] at C0
  rw [decide_eq_true hK] at C1
  go_enter Try.func8, Try.ntmps8
  go_wp2_with (first | (go_at_call 21; with_reducible refine c0.mono ?_; rintro e w1 ⟨rfl, b1⟩))
  have hA : 0 ≤ (a.tmod 1001 + 1001) % 1001 ∧ (a.tmod 1001 + 1001) % 1001 ≤ 1000 := by omega
  have hB : 0 ≤ (b.tmod 1001 + 1001) % 1001 ∧ (b.tmod 1001 + 1001) % 1001 ≤ 1000 := by omega
  generalize (a.tmod 1001 + 1001) % 1001 = A at *
  generalize (b.tmod 1001 + 1001) % 1001 = B at *
  generalize a.tmod 1001 = a0 at *
  generalize b.tmod 1001 = b0 at *
  have CA := C A w1 hA.1 hA.2
  have CB := C B w1 hB.1 hB.2
  clear C
  with_reducible refine (C0 w1).mono ?_
  rintro e w2 ⟨rfl, rfl⟩
  go_wp2_with fail
  with_reducible refine (C1 w1).mono ?_
  rintro e w2 ⟨rfl, rfl⟩
  go_wp2_with fail
  with_reducible refine CA.mono ?_
  rintro e w2 ⟨rfl, rfl⟩
  go_wp2_with fail
  with_reducible refine CB.mono ?_
  rintro e w2 ⟨rfl, rfl⟩
  clear CA CB C0 C1 c0
  by_cases hab : B < A
  · go_wp2_with (go_at_call 16; refine (num_any _ _).mono ?_; rintro e w3 ⟨rfl, rfl⟩)
    go_ret
    refine ⟨ret_bool ?_, b1⟩
    simp
  · by_cases hx : (K : Int) < A
    · have hy : (K : Int) < B := by omega
      go_wp2_with (go_at_call 16; refine (num_any _ _).mono ?_; rintro e w3 ⟨rfl, rfl⟩)
      go_ret
      refine ⟨ret_bool ?_, b1⟩
      simp
    · go_wp2_with (go_at_call 16; refine (num_any _ _).mono ?_; rintro e w3 ⟨rfl, rfl⟩)
      go_ret
      refine ⟨ret_bool ?_, b1⟩
      simp

theorem walk (x : Int) (w0 : (Lit.int .u64 x).wf = true) (a : Int) (w1 : (Lit.int .i64 a).wf = true) (b : Int) (w2 : (Lit.int .i64 b).wf = true) {w : World} :
    Calls Try.prog 8 #[.int .u64 x, .int .i64 a, .int .i64 b] w fun e w' => e = .returned (.bool true) ∧ Below w.heap.size w w' := by
  have hx := bounds_u64 w0
  clear w0 w1 w2
  obtain ⟨s, rfl⟩ := Int.eq_ofNat_of_zero_le hx.1
  have hk := Hp.one_lt s (n := 1000) (by decide)
  refine walk_v s a b w (Hp.one s 1000) (Hp.nx s) (by omega) ?_
  intro n v h1 h2
  have c := chance_any s n v
  rw [if_pos ⟨h1, h2⟩] at c
  exact c

set_option maxRecDepth 100000 in
theorem lifted (os : Os) (started : os.Started) (H : Type) (enc : TypeId × Value → H) :
    ReturnsInHanded {} Try.checked os 8 .any (Rows.drawChanceSpec.pre6 enc Try.prog Try.f8 Rows.drawChanceRow.domain false) (Rows.drawChanceSpec.post enc Try.prog Try.f8 false true false false) := by
  refine returnsInHanded_of_change (C := Try.checked) own started (by kernel_rfl) Try.func8
    (ChangeSpec.witness6 (enc := enc) (C := Try.checked) false ⟨#[], #[.int .u64 0, .int .i64 0, .int .i64 0], []⟩ 8 (by kernel_rfl) (by kernel_rfl) (by kernel_rfl) (by kernel_rfl)) ?_
  intro W base args ds gs before hval0 hW hcnd _
  have hval : ∀ (j : Nat) t v, Try.f8.params[j]? = some t → args[j]? = some v → Value.okWide Try.prog W .any base t v := hval0
  have hW' := hW
  obtain ⟨p, q, hA0, hV, rfl, hfz, hnd⟩ := hW
  have hA : DataW.TrodAll enc Try.prog W 0 (fun _ => true) true Try.f8.params.toList args.toList ds p := hA0
  rw [Try.params8] at hA hval
  obtain ⟨v0, vs0, d0, ds0, p0, q0, hargs, rfl, rfl, h0, r0⟩ := trodAll_cons hA
  obtain ⟨v1, vs1, d1, ds1, p1, q1, rfl, rfl, rfl, h1, r1⟩ := trodAll_cons r0
  obtain ⟨v2, vs2, d2, ds2, p2, q2, rfl, rfl, rfl, h2, r2⟩ := trodAll_cons r1
  obtain ⟨rfl, rfl, rfl⟩ := trodAll_nil r2
  obtain rfl : args = #[v0, v1, v2] := by cases args; simp_all
  obtain ⟨rfl, rfl⟩ := trodVars_none hV
  obtain ⟨a0, rfl, rfl, rfl, w0⟩ := open_int Try.underlying22 (hval 0 22 v0 rfl rfl) h0
  obtain ⟨a1, rfl, rfl, rfl, w1⟩ := open_int Try.underlying3 (hval 1 3 v1 rfl rfl) h1
  obtain ⟨a2, rfl, rfl, rfl, w2⟩ := open_int Try.underlying3 (hval 2 3 v2 rfl rfl) h2
  clear hA0 hval0
  refine (walk a0 w0 a1 w1 a2 w2).mono fun e W' ⟨he, bel⟩ => ?_
  subst he
  exact ⟨_, rfl, _, _, _, [], _, [], hW', trodAll_mk1 (shut_bool Try.underlying4 _), (trodAll_cons_mk (shut_int Try.underlying22 w0) (trodAll_cons_mk (shut_int Try.underlying3 w1) (trodAll_cons_mk (shut_int Try.underlying3 w2) trodAll_mk0))), rfl, bel.frame _, fun h => by cases h⟩

theorem over : Rows.drawChanceRow.holds Try.pinned (OpenSpec.ofChange Rows.drawChanceSpec) :=
  OpenClaim.holds_of_wide 8 Try.f8 rfl rfl rfl rfl rfl rfl rfl ⟨rfl, rfl, rfl, rfl, rfl⟩ rfl rfl rfl rfl rfl (by kernel_rfl) Try.func8 (by kernel_rfl)
    (of_decide_eq_true (by kernel_rfl)) (by unfold Func.isWrapper; first | (rw [if_pos (by decide +kernel)]; kernel_rfl) | (rw [if_neg (by decide +kernel)]; exact ⟨rfl, rfl⟩))
    (fun os started H enc _ => lifted os started H enc)
end Go.Proofs.Ytjdbfilbjpfajaa.drawChance

namespace Go.Proofs.Ytjdbfilbjpfajaa
/-- THE STATEMENT. -/
theorem drawChance_holds : Rows.DrawChanceSaid := drawChance.over
#print axioms drawChance_holds
end Go.Proofs.Ytjdbfilbjpfajaa
