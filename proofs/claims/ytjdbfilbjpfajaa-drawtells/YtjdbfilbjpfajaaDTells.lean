/- For all uint64 states and all ints a, b and n: Next of the state, Below of a and b, Two, Chance and Skip of n are the reference's (the law DrawTells answers true), and the arguments stay: without a bound. -/
import Derived.Test.YtjdbfilbjpfajaaRows
import Derived.WalkKit
import Derived.ProofKit
import Derived.OpenShut
import Derived.ShutString
import Derived.Test.YtjdbfilbjpfajaaDG
import Derived.Test.YtjdbfilbjpfajaaOpen
namespace Go.Proofs.Ytjdbfilbjpfajaa.drawTells
open Go.ChangeShapes Go.WideShapes Go.ChangeAt Go.RowKit
open Go.ChangeMaps (open_string shut_string)
set_option linter.unusedVariables false
set_option maxRecDepth 20000

theorem two_both (s : Nat) (n : Int) : ∃ (S A B E : Int), (∀ w, Calls Try.prog 13 #[.int .u64 s, .int .i64 n] w fun e w' => e = .returned (.tuple #[.int .u64 S, .int .i64 A, .int .i64 B, .int .i64 E]) ∧ w = w') ∧
    (∀ w, Calls Try.prog 14 #[.int .u64 s, .int .i64 n] w fun e w' => e = .returned (.tuple #[.int .u64 S, .int .i64 A, .int .i64 B, .int .i64 E]) ∧ w = w') := by
  have C := fun v => two_any s n v
  have D := fun v => rtwo_any s n v
  by_cases h : 2 ≤ n ∧ n ≤ 1048576
  · rw [if_pos h] at C D
    exact ⟨_, _, _, _, C, D⟩
  · rw [if_neg h] at C D
    exact ⟨_, _, _, _, C, D⟩
theorem chance_both (s : Nat) (n : Int) : ∃ (S : Int) (b : Bool) (E : Int), (∀ w, Calls Try.prog 17 #[.int .u64 s, .int .i64 n] w fun e w' => e = .returned (.tuple #[.int .u64 S, .bool b, .int .i64 E]) ∧ w = w') ∧
    (∀ w, Calls Try.prog 18 #[.int .u64 s, .int .i64 n] w fun e w' => e = .returned (.tuple #[.int .u64 S, .bool b, .int .i64 E]) ∧ w = w') := by
  have C := fun v => chance_any s n v
  have D := fun v => rchance_any s n v
  by_cases h : 0 ≤ n ∧ n ≤ 1000
  · rw [if_pos h] at C D
    exact ⟨_, _, _, C, D⟩
  · rw [if_neg h] at C D
    exact ⟨_, _, _, C, D⟩
theorem skip_both (s : Nat) (n : Int) (hs : s < 18446744073709551616) : ∃ (S E : Int), (∀ w, Calls Try.prog 19 #[.int .u64 s, .int .i64 n] w fun e w' => e = .returned (.tuple #[.int .u64 S, .int .i64 E]) ∧ w = w') ∧
    (∀ w, Calls Try.prog 20 #[.int .u64 s, .int .i64 n] w fun e w' => e = .returned (.tuple #[.int .u64 S, .int .i64 E]) ∧ w = w') := by
  have C := fun v => skip_any s n v
  have D := fun v => rskip_any s n v hs
  by_cases h : 0 ≤ n ∧ n ≤ 1073741824
  · rw [if_pos h] at C D
    exact ⟨_, _, C, D⟩
  · rw [if_neg h] at C D
    exact ⟨_, _, C, D⟩
set_option maxHeartbeats 1000000 in
theorem walk_v (s : Nat) (a b n : Int) (w : World) (N1 N2 BS TS TA TB TE CS CE KS KE BE : Int) (cb : Bool) (L : List Int)
    (A1 : ∀ w, Calls Try.prog 9 #[.int .u64 s] w fun e w' => e = .returned (.tuple #[.int .u64 N1, .int .u64 N2]) ∧ w = w')
    (A2 : ∀ w, Calls Try.prog 10 #[.int .u64 s] w fun e w' => e = .returned (.tuple #[.int .u64 N1, .int .u64 N2]) ∧ w = w')
    (B1 : ∀ w : World, Calls Try.prog 11 #[.int .u64 s, .slice (some ⟨w.heap.size, 0, none⟩) 2 2] (w.alloc (.cells #[.int .i64 a, .int .i64 b] 3)) fun e w' => ∃ v', e = .returned (.tuple #[.int .u64 BS, v', .int .i64 BE]) ∧ Seg .i64 w' v' L ∧ Below w.heap.size w w')
    (B2 : ∀ w : World, Calls Try.prog 12 #[.int .u64 s, .slice (some ⟨w.heap.size, 0, none⟩) 2 2] (w.alloc (.cells #[.int .i64 a, .int .i64 b] 3)) fun e w' => ∃ v', e = .returned (.tuple #[.int .u64 BS, v', .int .i64 BE]) ∧ Seg .i64 w' v' L ∧ Below w.heap.size w w')
    (T1 : ∀ w, Calls Try.prog 13 #[.int .u64 s, .int .i64 n] w fun e w' => e = .returned (.tuple #[.int .u64 TS, .int .i64 TA, .int .i64 TB, .int .i64 TE]) ∧ w = w')
    (T2 : ∀ w, Calls Try.prog 14 #[.int .u64 s, .int .i64 n] w fun e w' => e = .returned (.tuple #[.int .u64 TS, .int .i64 TA, .int .i64 TB, .int .i64 TE]) ∧ w = w')
    (C1 : ∀ w, Calls Try.prog 17 #[.int .u64 s, .int .i64 n] w fun e w' => e = .returned (.tuple #[.int .u64 CS, .bool cb, .int .i64 CE]) ∧ w = w')
    (C2 : ∀ w, Calls Try.prog 18 #[.int .u64 s, .int .i64 n] w fun e w' => e = .returned (.tuple #[.int .u64 CS, .bool cb, .int .i64 CE]) ∧ w = w')
    (K1 : ∀ w, Calls Try.prog 19 #[.int .u64 s, .int .i64 n] w fun e w' => e = .returned (.tuple #[.int .u64 KS, .int .i64 KE]) ∧ w = w')
    (K2 : ∀ w, Calls Try.prog 20 #[.int .u64 s, .int .i64 n] w fun e w' => e = .returned (.tuple #[.int .u64 KS, .int .i64 KE]) ∧ w = w') :
    Calls Try.prog 3 #[.int .u64 s, .int .i64 a, .int .i64 b, .int .i64 n] w fun e w' => e = .returned (.bool true) ∧ Below w.heap.size w w' := by
  go_enter Try.func3, Try.ntmps3
  go_wp2_with fail
  with_reducible refine (A1 w).mono ?_
  rintro e w1 ⟨rfl, rfl⟩
  go_wp2_with fail
  with_reducible refine (A2 w).mono ?_
  rintro e w1 ⟨rfl, rfl⟩
  go_wp2_with fail
  with_reducible refine (B1 w).mono ?_
  rintro e w1 ⟨v1, rfl, h1, b1⟩
  go_wp2_with fail
  with_reducible refine (B2 w1).mono ?_
  rintro e w2 ⟨v2, rfl, h2, b2⟩
  have c3 := sameInts_any v1 v2 L L w2 (h1.below b2) h2
  rw [decide_eq_true rfl] at c3
  go_wp2_with fail
  with_reducible refine (T1 w2).mono ?_
  rintro e w3 ⟨rfl, rfl⟩
  go_wp2_with fail
  with_reducible refine (T2 w2).mono ?_
  rintro e w3 ⟨rfl, rfl⟩
  clear A1 A2 B1 B2 T1 T2
  go_wp2_with (first | (go_at_call 15; with_reducible refine c3.mono ?_; rintro e w3 ⟨rfl, b3⟩) | (go_at_call 16; refine (num_any _ _).mono ?_; rintro e w4 ⟨rfl, rfl⟩))
  with_reducible refine (C1 w3).mono ?_
  rintro e w4 ⟨rfl, rfl⟩
  go_wp2_with fail
  with_reducible refine (C2 w3).mono ?_
  rintro e w4 ⟨rfl, rfl⟩
  go_wp2_with fail
  with_reducible refine (K1 w3).mono ?_
  rintro e w4 ⟨rfl, rfl⟩
  go_wp2_with fail
  with_reducible refine (K2 w3).mono ?_
  rintro e w4 ⟨rfl, rfl⟩
  clear C1 C2 K1 K2 c3
  go_wp2_with (first | (go_at_call 16; refine (num_any _ _).mono ?_; rintro e w4 ⟨rfl, rfl⟩) | (go_at_call 21; with_reducible refine (alive_any w3).mono ?_; rintro e w5 ⟨rfl, b5⟩))
  go_ret
  exact ⟨rfl, Below.step (Below.step (Below.step b1 b2) b3) b5⟩

theorem rbelow2_any (s : Nat) (a b : Int) (w : World) (hs : s < 18446744073709551616) :
    Calls Try.prog 12 #[.int .u64 s, .slice (some ⟨w.heap.size, 0, none⟩) 2 2] (w.alloc (.cells #[.int .i64 a, .int .i64 b] 3)) fun e w' => ∃ v', e = .returned (.tuple #[.int .u64 (belS s [a, b] : Nat), v', .int .i64 (belE [a, b])]) ∧ Seg .i64 w' v' (belL s [a, b]) ∧ Below w.heap.size w w' := by
  refine (rbelow_any s _ [a, b] _ hs (seg_new w [a, b] _ (by simp)) (by simp)).mono ?_
  rintro e w' ⟨v', rfl, h1, h2⟩
  exact ⟨v', rfl, h1, Below.step ((Below.refl _ w).alloc (Nat.le_refl _) _) h2⟩

theorem walk (x : Int) (w0 : (Lit.int .u64 x).wf = true) (a : Int) (w1 : (Lit.int .i64 a).wf = true) (b : Int) (w2 : (Lit.int .i64 b).wf = true) (n : Int) (w3 : (Lit.int .i64 n).wf = true) {w : World} :
    Calls Try.prog 3 #[.int .u64 x, .int .i64 a, .int .i64 b, .int .i64 n] w fun e w' => e = .returned (.bool true) ∧ Below w.heap.size w w' := by
  have hx := bounds_u64 w0
  clear w0 w1 w2 w3
  obtain ⟨s, rfl⟩ := Int.eq_ofNat_of_zero_le hx.1
  have hs : s < 18446744073709551616 := by omega
  obtain ⟨TS, TA, TB, TE, T1, T2⟩ := two_both s n
  obtain ⟨CS, cb, CE, C1, C2⟩ := chance_both s n
  obtain ⟨KS, KE, K1, K2⟩ := skip_both s n hs
  exact walk_v s a b n w _ _ _ TS TA TB TE CS CE KS KE _ cb _ (fun v => next_any s v) (fun v => rnext_any s v) (fun v => below2_any s a b v hs) (fun v => rbelow2_any s a b v hs) T1 T2 C1 C2 K1 K2

set_option maxRecDepth 100000 in
theorem lifted (os : Os) (started : os.Started) (H : Type) (enc : TypeId × Value → H) :
    ReturnsInHanded {} Try.checked os 3 .any (Rows.drawTellsSpec.pre6 enc Try.prog Try.f3 Rows.drawTellsRow.domain false) (Rows.drawTellsSpec.post enc Try.prog Try.f3 false true false false) := by
  refine returnsInHanded_of_change (C := Try.checked) own started (by kernel_rfl) Try.func3
    (ChangeSpec.witness6 (enc := enc) (C := Try.checked) false ⟨#[], #[.int .u64 0, .int .i64 0, .int .i64 0, .int .i64 0], []⟩ 8 (by kernel_rfl) (by kernel_rfl) (by kernel_rfl) (by kernel_rfl)) ?_
  intro W base args ds gs before hval0 hW hcnd _
  have hval : ∀ (j : Nat) t v, Try.f3.params[j]? = some t → args[j]? = some v → Value.okWide Try.prog W .any base t v := hval0
  have hW' := hW
  obtain ⟨p, q, hA0, hV, rfl, hfz, hnd⟩ := hW
  have hA : DataW.TrodAll enc Try.prog W 0 (fun _ => true) true Try.f3.params.toList args.toList ds p := hA0
  rw [Try.params3] at hA hval
  obtain ⟨v0, vs0, d0, ds0, p0, q0, hargs, rfl, rfl, h0, r0⟩ := trodAll_cons hA
  obtain ⟨v1, vs1, d1, ds1, p1, q1, rfl, rfl, rfl, h1, r1⟩ := trodAll_cons r0
  obtain ⟨v2, vs2, d2, ds2, p2, q2, rfl, rfl, rfl, h2, r2⟩ := trodAll_cons r1
  obtain ⟨v3, vs3, d3, ds3, p3, q3, rfl, rfl, rfl, h3, r3⟩ := trodAll_cons r2
  obtain ⟨rfl, rfl, rfl⟩ := trodAll_nil r3
  obtain rfl : args = #[v0, v1, v2, v3] := by cases args; simp_all
  obtain ⟨rfl, rfl⟩ := trodVars_none hV
  obtain ⟨a0, rfl, rfl, rfl, w0⟩ := open_int Try.underlying22 (hval 0 22 v0 rfl rfl) h0
  obtain ⟨a1, rfl, rfl, rfl, w1⟩ := open_int Try.underlying3 (hval 1 3 v1 rfl rfl) h1
  obtain ⟨a2, rfl, rfl, rfl, w2⟩ := open_int Try.underlying3 (hval 2 3 v2 rfl rfl) h2
  obtain ⟨a3, rfl, rfl, rfl, w3⟩ := open_int Try.underlying3 (hval 3 3 v3 rfl rfl) h3
  clear hA0 hval0
  refine (walk a0 w0 a1 w1 a2 w2 a3 w3).mono fun e W' ⟨he, bel⟩ => ?_
  subst he
  exact ⟨_, rfl, _, _, _, [], _, [], hW', trodAll_mk1 (shut_bool Try.underlying4 _), (trodAll_cons_mk (shut_int Try.underlying22 w0) (trodAll_cons_mk (shut_int Try.underlying3 w1) (trodAll_cons_mk (shut_int Try.underlying3 w2) (trodAll_cons_mk (shut_int Try.underlying3 w3) trodAll_mk0)))), rfl, bel.frame _, fun h => by cases h⟩

theorem over : Rows.drawTellsRow.holds Try.pinned (OpenSpec.ofChange Rows.drawTellsSpec) :=
  OpenClaim.holds_of_wide 3 Try.f3 rfl rfl rfl rfl rfl rfl rfl ⟨rfl, rfl, rfl, rfl, rfl⟩ rfl rfl rfl rfl rfl (by kernel_rfl) Try.func3 (by kernel_rfl)
    (of_decide_eq_true (by kernel_rfl)) (by unfold Func.isWrapper; first | (rw [if_pos (by decide +kernel)]; kernel_rfl) | (rw [if_neg (by decide +kernel)]; exact ⟨rfl, rfl⟩))
    (fun os started H enc _ => lifted os started H enc)
end Go.Proofs.Ytjdbfilbjpfajaa.drawTells

namespace Go.Proofs.Ytjdbfilbjpfajaa
/-- THE STATEMENT. -/
theorem drawTells_holds : Rows.DrawTellsSaid := drawTells.over
#print axioms drawTells_holds
end Go.Proofs.Ytjdbfilbjpfajaa
