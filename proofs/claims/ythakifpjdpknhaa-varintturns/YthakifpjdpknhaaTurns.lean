/- For every int n, every uint64 m and every int k: Zag of Zig of n is n, Zig of Zag of m is m, and where n is not below 0 and k not below n, n turned has no more octets than k turned (the law VarintTurns answers true), and no argument changes. No condition. -/
import Derived.Test.YthakifpjdpknhaaRows
import Derived.WalkKit
import Derived.ProofKit
import Derived.OpenShut
import Derived.ShutString
import Derived.Test.YthakifpjdpknhaaCallsD
namespace Go.Proofs.Ythakifpjdpknhaa.varintTurns
open Go.ChangeShapes Go.WideShapes Go.ChangeAt Go.RowKit
open Go.ChangeMaps (open_string shut_string)
set_option linter.unusedVariables false      -- a walk need not use every 'w<i>' (that an integer argument fits its kind)

theorem own : ownKnob Try.prog.godebug = none := by kernel_rfl

set_option maxHeartbeats 400000 in
theorem walk (n : Int) (m : Int) (k : Int) (w0 : (Lit.int .i64 n).wf = true) (w1 : (Lit.int .u64 m).wf = true) (w2 : (Lit.int .i64 k).wf = true) (w : World) :
    Calls Try.prog 7 #[.int .i64 n, .int .u64 m, .int .i64 k] w fun e w' => e = .returned (.bool true) ∧ Below w.heap.size w w' := by
  have hn := bounds_i64 w0
  have hm := bounds_u64 w1
  have hk := bounds_i64 w2
  have b1 := Pl.zig_bd n hn.1 hn.2
  have b2 := Pl.zag_bd m hm.1 hm.2
  have b3 := Pl.zig_bd k hk.1 hk.2
  clear w0 w1 w2
  by_cases h1 : n < 0
  · have d1 : decide (n < 0) = true := decide_eq_true h1
    go_enter Try.func7, Try.ntmps7
    go_wp2_with fail
    refine (alive_any w).mono ?_
    rintro e w' ⟨rfl, hb⟩
    go_wp2_with fail
    refine (zig_any n w' hn.1 hn.2).mono ?_
    rintro e w2 ⟨rfl, rfl⟩
    go_wp2_with fail
    refine (zag_any (Pl.zig n) w' b1.1 b1.2).mono ?_
    rintro e w2 ⟨rfl, rfl⟩
    rw [Pl.zag_zig]
    go_wp2_with fail
    refine (zag_any m w' hm.1 hm.2).mono ?_
    rintro e w2 ⟨rfl, rfl⟩
    go_wp2_with fail
    refine (zig_any (Pl.zag m) w' b2.1 b2.2).mono ?_
    rintro e w2 ⟨rfl, rfl⟩
    rw [Pl.zig_zag m hm.1]
    go_wp2
    go_ret
    exact ⟨rfl, hb⟩
  · have d1 : decide (n < 0) = false := decide_eq_false h1
    by_cases h2 : k < n
    · have d2 : decide (k < n) = true := decide_eq_true h2
      go_enter Try.func7, Try.ntmps7
      go_wp2_with fail
      refine (alive_any w).mono ?_
      rintro e w' ⟨rfl, hb⟩
      go_wp2_with fail
      refine (zig_any n w' hn.1 hn.2).mono ?_
      rintro e w2 ⟨rfl, rfl⟩
      go_wp2_with fail
      refine (zag_any (Pl.zig n) w' b1.1 b1.2).mono ?_
      rintro e w2 ⟨rfl, rfl⟩
      rw [Pl.zag_zig]
      go_wp2_with fail
      refine (zag_any m w' hm.1 hm.2).mono ?_
      rintro e w2 ⟨rfl, rfl⟩
      go_wp2_with fail
      refine (zig_any (Pl.zag m) w' b2.1 b2.2).mono ?_
      rintro e w2 ⟨rfl, rfl⟩
      rw [Pl.zig_zag m hm.1]
      go_wp2
      go_ret
      exact ⟨rfl, hb⟩
    · have d2 : decide (k < n) = false := decide_eq_false h2
      have hle := Pl.enc_mono 9 (Pl.zig n) (Pl.zig k) b1.1 (by unfold Pl.zig; rw [if_pos (by omega), if_pos (by omega)]; omega)
      go_enter Try.func7, Try.ntmps7
      go_wp2_with fail
      refine (alive_any w).mono ?_
      rintro e w' ⟨rfl, hb⟩
      go_wp2_with fail
      refine (zig_any n w' hn.1 hn.2).mono ?_
      rintro e w2 ⟨rfl, rfl⟩
      go_wp2_with fail
      refine (zag_any (Pl.zig n) w' b1.1 b1.2).mono ?_
      rintro e w2 ⟨rfl, rfl⟩
      rw [Pl.zag_zig]
      go_wp2_with fail
      refine (zag_any m w' hm.1 hm.2).mono ?_
      rintro e w2 ⟨rfl, rfl⟩
      go_wp2_with fail
      refine (zig_any (Pl.zag m) w' b2.1 b2.2).mono ?_
      rintro e w2 ⟨rfl, rfl⟩
      rw [Pl.zig_zag m hm.1]
      go_wp2_with fail
      refine (zig_any n w' hn.1 hn.2).mono ?_
      rintro e w2 ⟨rfl, rfl⟩
      go_wp2_with fail
      refine (size_any (Pl.zig n) w' b1.1 b1.2).mono ?_
      rintro e w2 ⟨rfl, rfl⟩
      go_wp2_with fail
      refine (zig_any k w' hk.1 hk.2).mono ?_
      rintro e w2 ⟨rfl, rfl⟩
      go_wp2_with fail
      refine (size_any (Pl.zig k) w' b3.1 b3.2).mono ?_
      rintro e w2 ⟨rfl, rfl⟩
      go_wp2
      go_ret
      exact ⟨ret_bool (by simp), hb⟩

/-! ### THE ROW's STEP: WRITTEN OUT: LEAVE IT -/
set_option maxRecDepth 100000 in
theorem lifted (os : Os) (started : os.Started) (H : Type) (enc : TypeId × Value → H) :
    ReturnsInHanded {} Try.checked os 7 .any (Rows.varintTurnsSpec.pre6 enc Try.prog Try.f7 Rows.varintTurnsRow.domain false) (Rows.varintTurnsSpec.post enc Try.prog Try.f7 false true false false) := by
  refine returnsInHanded_of_change (C := Try.checked) own started (by kernel_rfl) Try.func7
    (ChangeSpec.witness6 (enc := enc) (C := Try.checked) false ⟨#[], #[.int .i64 0, .int .u64 0, .int .i64 0], []⟩ 8 (by kernel_rfl) (by kernel_rfl) (by kernel_rfl) (by kernel_rfl)) ?_
  intro W base args ds gs before hval0 hW hcnd _
  have hval : ∀ (j : Nat) t v, Try.f7.params[j]? = some t → args[j]? = some v → Value.okWide Try.prog W .any base t v := hval0
  have hW' := hW
  obtain ⟨p, q, hA0, hV, rfl, hfz, hnd⟩ := hW
  have hA : DataW.TrodAll enc Try.prog W 0 (fun _ => true) true Try.f7.params.toList args.toList ds p := hA0
  rw [Try.params7] at hA hval
  obtain ⟨v0, vs0, d0, ds0, p0, q0, hargs, rfl, rfl, h0, r0⟩ := trodAll_cons hA
  obtain ⟨v1, vs1, d1, ds1, p1, q1, rfl, rfl, rfl, h1, r1⟩ := trodAll_cons r0
  obtain ⟨v2, vs2, d2, ds2, p2, q2, rfl, rfl, rfl, h2, r2⟩ := trodAll_cons r1
  obtain ⟨rfl, rfl, rfl⟩ := trodAll_nil r2
  obtain rfl : args = #[v0, v1, v2] := by cases args; simp_all
  obtain ⟨rfl, rfl⟩ := trodVars_none hV
  obtain ⟨a0, rfl, rfl, rfl, w0⟩ := open_int Try.underlying3 (hval 0 3 v0 rfl rfl) h0
  obtain ⟨a1, rfl, rfl, rfl, w1⟩ := open_int Try.underlying23 (hval 1 23 v1 rfl rfl) h1
  obtain ⟨a2, rfl, rfl, rfl, w2⟩ := open_int Try.underlying3 (hval 2 3 v2 rfl rfl) h2
  clear hA0 hval0
  simp only [List.append_nil] at hW'
  refine (walk a0 a1 a2 w0 w1 w2 W).mono fun e W' ⟨he, bel⟩ => ?_
  subst he
  exact ⟨_, rfl, _, _, _, [], _, [], hW', trodAll_mk1 (shut_bool Try.underlying4 _), (trodAll_cons_mk (shut_int Try.underlying3 w0) (trodAll_cons_mk (shut_int Try.underlying23 w1) (trodAll_cons_mk (shut_int Try.underlying3 w2) trodAll_mk0))), rfl, bel.frame _, fun h => by cases h⟩

theorem over : Rows.varintTurnsRow.holds Try.pinned (OpenSpec.ofChange Rows.varintTurnsSpec) :=
  OpenClaim.holds_of_wide 7 Try.f7 rfl rfl rfl rfl rfl rfl rfl ⟨rfl, rfl, rfl, rfl, rfl⟩ rfl rfl rfl rfl rfl (by kernel_rfl) Try.func7 (by kernel_rfl)
    (of_decide_eq_true (by kernel_rfl)) (by unfold Func.isWrapper; first | (rw [if_pos (by decide +kernel)]; kernel_rfl) | (rw [if_neg (by decide +kernel)]; exact ⟨rfl, rfl⟩))
    (fun os started H enc _ => lifted os started H enc)

end Go.Proofs.Ythakifpjdpknhaa.varintTurns

namespace Go.Proofs.Ythakifpjdpknhaa
/-- THE STATEMENT. -/
theorem varintTurns_holds : Rows.VarintTurnsSaid := varintTurns.over
#print axioms varintTurns_holds
end Go.Proofs.Ythakifpjdpknhaa
