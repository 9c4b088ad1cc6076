/- For all uint64 states and all ints n: the order that Shuffle tells of n, its state and its error are the reference's (the law DrawShuffles answers true), and the arguments stay: without a bound. -/
import Derived.Test.YtjdbfilbjpfajaaRows
import Derived.WalkKit
import Derived.ProofKit
import Derived.OpenShut
import Derived.ShutString
import Derived.Test.YtjdbfilbjpfajaaDG
import Derived.Test.YtjdbfilbjpfajaaOpen
namespace Go.Proofs.Ytjdbfilbjpfajaa.drawShuffles
open Go.ChangeShapes Go.WideShapes Go.ChangeAt Go.RowKit
open Go.ChangeMaps (open_string shut_string)
set_option linter.unusedVariables false
set_option maxRecDepth 20000

theorem walk_v (s : Nat) (n : Int) (w : World) (S : Nat) (L : List Int) (E : Int)
    (C1 : ∀ w : World, Calls Try.prog 22 #[.int .u64 s, .int .i64 n] w fun e w' => ∃ v', e = .returned (.tuple #[.int .u64 S, v', .int .i64 E]) ∧ Seg .i64 w' v' L ∧ Below w.heap.size w w')
    (C2 : ∀ w : World, Calls Try.prog 23 #[.int .u64 s, .int .i64 n] w fun e w' => ∃ v', e = .returned (.tuple #[.int .u64 S, v', .int .i64 E]) ∧ Seg .i64 w' v' L ∧ Below w.heap.size w w') :
    Calls Try.prog 4 #[.int .u64 s, .int .i64 n] w fun e w' => e = .returned (.bool true) ∧ Below w.heap.size w w' := by
  go_enter Try.func4, Try.ntmps4
  go_wp2_with fail
  with_reducible refine (C1 w).mono ?_
  rintro e w1 ⟨v1, rfl, h1, b1⟩
  go_wp2_with fail
  with_reducible refine (C2 w1).mono ?_
  rintro e w2 ⟨v2, rfl, h2, b2⟩
  have c3 := sameInts_any v1 v2 L L w2 (h1.below b2) h2
  rw [decide_eq_true rfl] at c3
  clear C1 C2
  go_wp2_with (first | (go_at_call 15; with_reducible refine c3.mono ?_; rintro e w3 ⟨rfl, b3⟩) | (go_at_call 16; refine (num_any _ _).mono ?_; rintro e w4 ⟨rfl, rfl⟩) | (go_at_call 21; with_reducible refine (alive_any w3).mono ?_; rintro e w5 ⟨rfl, b5⟩))
  go_ret
  exact ⟨rfl, Below.step (Below.step (Below.step b1 b2) b3) b5⟩

theorem walk (x : Int) (w0 : (Lit.int .u64 x).wf = true) (n : Int) (w1 : (Lit.int .i64 n).wf = true) {w : World} :
    Calls Try.prog 4 #[.int .u64 x, .int .i64 n] w fun e w' => e = .returned (.bool true) ∧ Below w.heap.size w w' := by
  have hx := bounds_u64 w0
  clear w0 w1
  obtain ⟨s, rfl⟩ := Int.eq_ofNat_of_zero_le hx.1
  have hs : s < 18446744073709551616 := by omega
  exact walk_v s n w _ _ _ (fun v => shuffle_any s n v hs) (fun v => rshuffle_any s n v hs)

set_option maxRecDepth 100000 in
theorem lifted (os : Os) (started : os.Started) (H : Type) (enc : TypeId × Value → H) :
    ReturnsInHanded {} Try.checked os 4 .any (Rows.drawShufflesSpec.pre6 enc Try.prog Try.f4 Rows.drawShufflesRow.domain false) (Rows.drawShufflesSpec.post enc Try.prog Try.f4 false true false false) := by
  refine returnsInHanded_of_change (C := Try.checked) own started (by kernel_rfl) Try.func4
    (ChangeSpec.witness6 (enc := enc) (C := Try.checked) false ⟨#[], #[.int .u64 0, .int .i64 0], []⟩ 8 (by kernel_rfl) (by kernel_rfl) (by kernel_rfl) (by kernel_rfl)) ?_
  intro W base args ds gs before hval0 hW hcnd _
  have hval : ∀ (j : Nat) t v, Try.f4.params[j]? = some t → args[j]? = some v → Value.okWide Try.prog W .any base t v := hval0
  have hW' := hW
  obtain ⟨p, q, hA0, hV, rfl, hfz, hnd⟩ := hW
  have hA : DataW.TrodAll enc Try.prog W 0 (fun _ => true) true Try.f4.params.toList args.toList ds p := hA0
  rw [Try.params4] at hA hval
  obtain ⟨v0, vs0, d0, ds0, p0, q0, hargs, rfl, rfl, h0, r0⟩ := trodAll_cons hA
  obtain ⟨v1, vs1, d1, ds1, p1, q1, rfl, rfl, rfl, h1, r1⟩ := trodAll_cons r0
  obtain ⟨rfl, rfl, rfl⟩ := trodAll_nil r1
  obtain rfl : args = #[v0, v1] := by cases args; simp_all
  obtain ⟨rfl, rfl⟩ := trodVars_none hV
  obtain ⟨a0, rfl, rfl, rfl, w0⟩ := open_int Try.underlying22 (hval 0 22 v0 rfl rfl) h0
  obtain ⟨a1, rfl, rfl, rfl, w1⟩ := open_int Try.underlying3 (hval 1 3 v1 rfl rfl) h1
  clear hA0 hval0
  refine (walk a0 w0 a1 w1).mono fun e W' ⟨he, bel⟩ => ?_
  subst he
  exact ⟨_, rfl, _, _, _, [], _, [], hW', trodAll_mk1 (shut_bool Try.underlying4 _), (trodAll_cons_mk (shut_int Try.underlying22 w0) (trodAll_cons_mk (shut_int Try.underlying3 w1) trodAll_mk0)), rfl, bel.frame _, fun h => by cases h⟩

theorem over : Rows.drawShufflesRow.holds Try.pinned (OpenSpec.ofChange Rows.drawShufflesSpec) :=
  OpenClaim.holds_of_wide 4 Try.f4 rfl rfl rfl rfl rfl rfl rfl ⟨rfl, rfl, rfl, rfl, rfl⟩ rfl rfl rfl rfl rfl (by kernel_rfl) Try.func4 (by kernel_rfl)
    (of_decide_eq_true (by kernel_rfl)) (by unfold Func.isWrapper; first | (rw [if_pos (by decide +kernel)]; kernel_rfl) | (rw [if_neg (by decide +kernel)]; exact ⟨rfl, rfl⟩))
    (fun os started H enc _ => lifted os started H enc)
end Go.Proofs.Ytjdbfilbjpfajaa.drawShuffles

namespace Go.Proofs.Ytjdbfilbjpfajaa
/-- THE STATEMENT. -/
theorem drawShuffles_holds : Rows.DrawShufflesSaid := drawShuffles.over
#print axioms drawShuffles_holds
end Go.Proofs.Ytjdbfilbjpfajaa
