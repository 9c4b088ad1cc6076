/- SubsetSome: a subset rises, is of the backends, and has size of them, or all: for every list, client, size and seed. -/
import Derived.Test.YtdgdhhbapgfjgaaRows
import Derived.BigQuiet
import Derived.Deep.QuietTactic
import Derived.WalkKit
import Derived.ProofKit
import Derived.OpenShut
import Derived.ShutString
import Derived.Test.YtdgdhhbapgfjgaaSSp
import Derived.Test.YtdgdhhbapgfjgaaOpen
import Derived.Test.YtdgdhhbapgfjgaaOpenN
namespace Go.Proofs.Ytdgdhhbapgfjgaa.subsetSome
open Go.ChangeShapes Go.WideShapes Go.ChangeAt Go.RowKit
open Go.ChangeMaps (open_string shut_string)
open Go.Sort Go.Shelf
set_option linter.unusedVariables false
set_option maxRecDepth 20000

set_option maxHeartbeats 4000000 in
theorem walk_v (v : Value) (ids : List Int) (c k : Int) (s : Nat) (w : World) (E : Int) (L : List Int) (hs : Seg .i64 w v ids) (h0 : E ≠ 0 → L = []) (hl : E = 0 → (L.length : Int) = min k ids.length) (hu : Sp.Up L) (hm : ∀ z ∈ L, z ∈ ids)
    (C1 : ∀ w : World, Seg .i64 w v ids → Calls Try.prog 10 #[v, .int .i64 c, .int .i64 k, .int .u64 s] w fun e w' => ∃ v', e = .returned (.tuple #[v', .int .i64 E]) ∧ Seg .i64 w' v' L ∧ Below w.heap.size w w') :
    Calls Try.prog 4 #[v, .int .i64 c, .int .i64 k, .int .u64 s] w fun e w' => e = .returned (.bool true) ∧ Below w.heap.size w w' := by
  have ca := alive_any w
  go_enter Try.func4, Try.ntmps4
  go_wp2_with fail
  with_reducible refine ca.mono ?_
  rintro e w1 ⟨rfl, b1⟩
  have hs1 := hs.below b1
  go_wp2_with fail
  with_reducible refine (C1 w1 hs1).mono ?_
  rintro e w2 ⟨v2, rfl, hs2, b2⟩
  have B2 := Below.step b1 b2
  have HS := hidD (hs1.below b2)
  have HS2 := hidD hs2
  obtain ⟨a, cap, rfl, q1, q2, _, _⟩ := hs
  unfold maxLen at q2
  obtain ⟨a2, cap2, rfl, q3, q4, _, _⟩ := hs2
  unfold maxLen at q4
  clear C1 ca b1 b2 hs1
  by_cases hE : E = 0
  · subst hE
    have hlen := hl rfl
    have HU := hidD hu
    have HM := hidD hm
    obtain ⟨M, hM⟩ : ∃ M, M = L.length := ⟨_, rfl⟩
    rw [← hM] at q3 hlen HS2 ⊢
    have HLM := hidD hM
    have HLEN : Hid (decide ((M : Int) = min k (ids.length : Nat)) = true) := decide_eq_true hlen
    clear hM hlen hl h0 hu hm
    obtain ⟨N, hN⟩ : ∃ N, N = ids.length := ⟨_, rfl⟩
    rw [← hN] at q1 HLEN HS ⊢
    clear hN
    go_wp2_with (go_at_call 19; refine (num_any _ _).mono ?_; rintro e w4 ⟨rfl, rfl⟩)
    go_loopw [11] (fun i wr => ∃ q : Nat, q ≤ M ∧ i = .int .i64 q ∧ Below w2.heap.size w2 wr) (fun i _ => M - (intOf i).toNat)
    case atStart => exact ⟨0, Nat.zero_le _, rfl, Below.refl _ _⟩
    case round =>
      obtain ⟨q, hq, rfl, hbel⟩ := hrel
      by_cases hlt : q < M
      · have ql : q < L.length := by have := HLM.out; omega
        obtain ⟨b5, o5, rfl, hb5, Q5⟩ := (HS2.out.below hbel).atD q ql
        have cn := hidD (fun m : Nat => has_same _ ids (L.getD q 0) (wr.drewN m) (HS.out.below (drewD hbel m)) (HM.out _ (by rw [dgetD_at ql]; exact List.getElem_mem _)))
        by_cases hq0 : q = 0
        · have d0 : decide (0 < (q : Int)) = false := decide_eq_false (by omega)
          have d9 : ¬ (0 < q) := by omega
          have d8 : decide (0 < q) = false := decide_eq_false d9
          clear ql hq0
          generalize L.getD q 0 = x at *
          go_wp2_with fail
          go_quiet (first | (go_at_call 21; exact Calls.quiet_of_same (cn.out _)))
          go_wp2
          exact ⟨⟨q + 1, by omega, by go_num, drewD hbel _⟩, by simp [intOf]; omega⟩
        · obtain ⟨J, hJ⟩ : ∃ J, q = J + 1 := ⟨q - 1, by omega⟩
          obtain ⟨b6, o6, e6, hb6, Q6⟩ := (HS2.out.below hbel).atD J (by omega)
          cases e6
          have hup := up_getD HU.out (show J < q by omega) ql
          have d1 : decide (L.getD q 0 ≤ L.getD J 0) = false := decide_eq_false (by omega)
          have i4 : IntKind.i64.wrap ((q : Int) - 1) = (J : Int) := by rw [IntKind.wrap_i64]; omega
          have d2 : decide (0 < (q : Int)) = true := decide_eq_true (by omega)
          have d3 : 0 < q := by omega
          have d8 : decide (0 < q) = true := decide_eq_true d3
          have d4 : J < M := by omega
          clear ql hup hq0 hJ
          generalize L.getD q 0 = x at *
          generalize L.getD J 0 = y at *
          go_wp2_with fail
          go_quiet (first | (go_at_call 21; exact Calls.quiet_of_same (cn.out _)))
          go_wp2
          exact ⟨⟨q + 1, by omega, by go_num, drewD hbel _⟩, by simp [intOf]; omega⟩
      · obtain rfl : q = M := by omega
        have HB := hidD (Below.step B2 hbel)
        clear hbel B2
        go_wp2
        go_ret
        exact ⟨by first | rfl | (simp; have := HLEN.out; simpa using this), HB.out⟩
  · have hL := h0 hE
    subst hL
    clear h0 hl hu hm
    go_wp2_with (go_at_call 19; refine (num_any _ _).mono ?_; rintro e w4 ⟨rfl, rfl⟩)
    go_ret
    exact ⟨rfl, B2⟩

theorem walk {w : World} (v0 : Value) (l0 : List Int) (hs0 : Seg .i64 w v0 l0) (ho0 : ∀ z ∈ l0, -9223372036854775808 ≤ z ∧ z ≤ 9223372036854775807) (c : Int) (w1 : (Lit.int .i64 c).wf = true) (k : Int) (w2 : (Lit.int .i64 k).wf = true) (x : Int) (w3 : (Lit.int .u64 x).wf = true) :
    Calls Try.prog 4 #[v0, .int .i64 c, .int .i64 k, .int .u64 x] w fun e w' => e = .returned (.bool true) ∧ Below w.heap.size w w' := by
  have hx := bounds_u64 w3
  clear w1 w2 w3
  obtain ⟨s, rfl⟩ := Int.eq_ofNat_of_zero_le hx.1
  have hs : s < 18446744073709551616 := by omega
  refine walk_v v0 l0 c k s w (Sp.ofE l0 c k) (Sp.ofL l0 c k s) hs0 (Sp.ofL_none s) (fun h => (Sp.ofL_some s h).1) ?_ ?_ (fun w h => of_any v0 l0 c k s w h hs)
  · by_cases h : Sp.ofE l0 c k = 0
    · exact (Sp.ofL_some s h).2.1
    · rw [Sp.ofL_none s h]; exact List.Pairwise.nil
  · by_cases h : Sp.ofE l0 c k = 0
    · exact (Sp.ofL_some s h).2.2
    · rw [Sp.ofL_none s h]; intro z hz; cases hz

set_option maxRecDepth 100000 in
theorem lifted (os : Os) (started : os.Started) (H : Type) (enc : TypeId × Value → H) :
    ReturnsInHanded {} Try.checked os 4 .any (Rows.subsetSomeSpec.pre6 enc Try.prog Try.f4 Rows.subsetSomeRow.domain false) (Rows.subsetSomeSpec.post enc Try.prog Try.f4 false true false false) := by
  refine returnsInHanded_of_change (C := Try.checked) own started (by kernel_rfl) Try.func4
    (ChangeSpec.witness6 (enc := enc) (C := Try.checked) false ⟨#[], #[.slice none 0 0, .int .i64 0, .int .i64 0, .int .u64 0], []⟩ 8 (by kernel_rfl) (by kernel_rfl) (by kernel_rfl) (by kernel_rfl)) ?_
  intro W base args ds gs before hval0 hW hcnd _
  have hval : ∀ (j : Nat) t v, Try.f4.params[j]? = some t → args[j]? = some v → Value.okWide Try.prog W .any base t v := hval0
  have hW' := hW
  obtain ⟨p, q, hA0, hV, rfl, hfz, hnd⟩ := hW
  have hA : DataW.TrodAll enc Try.prog W 0 (fun _ => true) true Try.f4.params.toList args.toList ds p := hA0
  rw [Try.params4] at hA hval
  obtain ⟨v0, vs0, d0, ds0, p0, q0, hargs, rfl, rfl, h0, r0⟩ := trodAll_cons hA
  obtain ⟨v1, vs1, d1, ds1, p1, q1, rfl, rfl, rfl, h1, r1⟩ := trodAll_cons r0
  obtain ⟨v2, vs2, d2, ds2, p2, q2, rfl, rfl, rfl, h2, r2⟩ := trodAll_cons r1
  obtain ⟨v3, vs3, d3, ds3, p3, q3, rfl, rfl, rfl, h3, r3⟩ := trodAll_cons r2
  obtain ⟨rfl, rfl, rfl⟩ := trodAll_nil r3
  obtain rfl : args = #[v0, v1, v2, v3] := by cases args; simp_all
  obtain ⟨rfl, rfl⟩ := trodVars_none hV
  have k0 := h0
  have lt0 : ∀ x ∈ p0, x.block < W.heap.size := by obtain ⟨m, hm⟩ := k0; exact DataW.trod_lt m _ _ _ hm
  obtain ⟨l0, hs0, ho0, e0⟩ := open_numbers (hval 0 22 v0 rfl rfl) h0
  obtain ⟨a1, rfl, rfl, rfl, w1⟩ := open_int Try.underlying3 (hval 1 3 v1 rfl rfl) h1
  obtain ⟨a2, rfl, rfl, rfl, w2⟩ := open_int Try.underlying3 (hval 2 3 v2 rfl rfl) h2
  obtain ⟨a3, rfl, rfl, rfl, w3⟩ := open_int Try.underlying23 (hval 3 23 v3 rfl rfl) h3
  clear hA0 hval0
  refine (walk v0 l0 hs0 ho0 a1 w1 a2 w2 a3 w3).mono fun e W' ⟨he, bel⟩ => ?_
  subst he
  exact ⟨_, rfl, _, _, _, [], _, [], hW', trodAll_mk1 (shut_bool Try.underlying4 _), (trodAll_cons_mk (Below.trod laidOut (by kernel_rfl) (of_decide_eq_true (by kernel_rfl)) k0 bel lt0) (trodAll_cons_mk (shut_int Try.underlying3 w1) (trodAll_cons_mk (shut_int Try.underlying3 w2) (trodAll_cons_mk (shut_int Try.underlying23 w3) trodAll_mk0)))), rfl, bel.frame _, fun h => by cases h⟩

theorem over : Rows.subsetSomeRow.holds Try.pinned (OpenSpec.ofChange Rows.subsetSomeSpec) :=
  OpenClaim.holds_of_wide 4 Try.f4 rfl rfl rfl rfl rfl rfl rfl ⟨rfl, rfl, rfl, rfl, rfl⟩ rfl rfl rfl rfl rfl (by kernel_rfl) Try.func4 (by kernel_rfl)
    (of_decide_eq_true (by kernel_rfl)) (by unfold Func.isWrapper; first | (rw [if_pos (by decide +kernel)]; kernel_rfl) | (rw [if_neg (by decide +kernel)]; exact ⟨rfl, rfl⟩))
    (fun os started H enc _ => lifted os started H enc)
end Go.Proofs.Ytdgdhhbapgfjgaa.subsetSome

namespace Go.Proofs.Ytdgdhhbapgfjgaa
/-- THE STATEMENT. -/
theorem subsetSome_holds : Rows.SubsetSomeSaid := subsetSome.over
#print axioms subsetSome_holds
end Go.Proofs.Ytdgdhhbapgfjgaa
