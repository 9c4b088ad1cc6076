/- For all settings and draws: what Total tells of as many draws as may be is the sum of the delays of 1, 2, .. with them, and at least as great as their number; where it is refused nothing is told (the law BackoffSums answers true), and the arguments stay: without a bound. -/
import Derived.Test.YtekldjfmdapgpaaRows
import Derived.BigQuiet
import Derived.Deep.QuietTactic
import Derived.WalkKit
import Derived.ProofKit
import Derived.OpenShut
import Derived.ShutString
import Derived.Test.YtekldjfmdapgpaaBkL
namespace Go.Proofs.Ytekldjfmdapgpaa.backoffSums
open Go.ChangeShapes Go.WideShapes Go.ChangeAt Go.RowKit
open Go.ChangeMaps (open_string shut_string)
set_option linter.unusedVariables false
set_option maxRecDepth 20000

set_option maxHeartbeats 4000000 in
theorem walk (s : Bf.Se) (v : Value) (l : List Int) {w : World} (hv : Seg .u64 w v l) (ho : ∀ z ∈ l, 0 ≤ z ∧ z ≤ 18446744073709551615) :
    Calls Try.prog 6 #[vS s, v] w fun e w' => e = .returned (.bool true) ∧ Below w.heap.size w w' := by
  have hl : ∀ k, k < l.length → 0 ≤ l.getD k 0 ∧ l.getD k 0 < 18446744073709551616 := fun k hk => by
    have hm : l.getD k 0 ∈ l := by rw [List.getD_eq_getElem?_getD, List.getElem?_eq_getElem hk]; exact List.getElem_mem hk
    have := ho _ hm
    omega
  have HV : Hid (∀ W, Below w.heap.size w W → Seg .u64 W v l) := hidD (fun W h => hv.below h)
  have C1 := hidD (fun W h => total_any s v l W h hl)
  have HA := hidD (fun h => @Bf.sum_all s l (fun k hk => by have := hl k hk; omega) h)
  have HB0 : Hid (¬ Bf.sumE s l = 0 → Bf.sumR s l = 0) := hidD (fun h => if_neg h)
  have HLL := hidD hl
  obtain ⟨av, cv, hva, q1, q2, _, _⟩ := id hv
  unfold maxLen at q2
  have HVA := hidD hva
  obtain ⟨n, hn⟩ : ∃ n, n = l.length := ⟨_, rfl⟩
  rw [← hn] at hva HLL HA q1
  have HNL := hidD hn
  subst hva
  clear hn ho hl hv
  have HSUM := hidD (fun m => @rfl _ (Bf.sum s l m))
  obtain ⟨SM, hSM⟩ : ∃ SM, SM = Bf.sumR s l := ⟨_, rfl⟩
  rw [← hSM] at C1 HA HB0
  clear HSUM hSM
  generalize Bf.sumE s l = k at *
  have X0 := hidD (Bo.new w (sL s) 23)
  have HB := hidD ((Below.refl w.heap.size w).alloc (Nat.le_refl _) (.cells (sL s).toArray 23))
  have HS : Hid (w.heap.size + 1 ≤ (w.alloc (.cells (sL s).toArray 23)).heap.size) := hidD (by rw [World.size_alloc]; omega)
  obtain ⟨W0, hW0⟩ : ∃ W0, W0 = w.alloc (.cells (sL s).toArray 23) := ⟨_, rfl⟩
  obtain ⟨N, hN⟩ : ∃ N, N = w.heap.size := ⟨_, rfl⟩
  rw [← hW0] at X0 HB HS
  rw [← hN] at X0 HB HS HV ⊢
  simp only [sL] at hW0
  go_enter Try.func6, Try.ntmps6
  go_wp2_with fail
  rw [← hN, ← hW0]
  clear hN hW0
  with_reducible refine (alive_any W0).mono ?_
  rintro e v0 ⟨rfl, h⟩
  replace X0 := hidD (X0.out.below h)
  replace HB := hidD (below_on HB.out (Nat.le_of_succ_le HS.out) h)
  replace HS := hidD (Nat.le_trans HS.out h.size)
  clear h
  have p0 := X0.out.cell 0 rfl
  have p1 := X0.out.cell 1 rfl
  have p2 := X0.out.cell 2 rfl
  have c := hidD (C1.out v0 (HV.out _ HB.out))
  go_wp2_with fail
  with_reducible refine c.out.mono ?_
  rintro e v1 ⟨rfl, h⟩
  clear c p0 p1 p2
  replace X0 := hidD (X0.out.below h)
  replace HB := hidD (below_on HB.out (Nat.le_of_succ_le HS.out) h)
  replace HS := hidD (Nat.le_trans HS.out h.size)
  clear h
  clear C1
  by_cases hk : k = 0
  case neg =>
    have e1 := HB0.out hk
    subst e1
    have hk1 : (k != 0) = true := by simp [hk]
    have HBB := HB
    clear HA HB0 HV HVA X0 HB HS
    go_wp2_with (go_at_call 17; refine (num_any _ _).mono ?_; rintro e ww ⟨rfl, rfl⟩)
    go_ret
    exact ⟨rfl, HBB.out⟩
  subst hk
  obtain ⟨hs, hn64, hsm, hge⟩ := HA.out rfl
  have HSS := hidD hs
  have HSM := hidD hsm
  have HGE := hidD hge
  clear HA HB0 hs hsm hge
  go_upto_region 6 with (go_at_call 17; refine (num_any _ _).mono ?_; rintro e ww ⟨rfl, rfl⟩)
  go_wp2_with fail
  go_loopw [7, 8] (fun a i wr => ∃ m : Nat, m ≤ n ∧ i = .int .i64 (m : Int) ∧ a = .int .i64 (Bf.sum s l m) ∧ Hid (Below N w wr ∧ Bo wr N (sL s) 23 ∧ N + 1 ≤ wr.heap.size)) (fun _ i _ => 100 - (intOf i).toNat)
  case atStart => exact ⟨0, Nat.zero_le _, rfl, rfl, hidD ⟨HB.out, X0.out, HS.out⟩⟩
  case round =>
    obtain ⟨m, hm, rfl, rfl, hI⟩ := hrel
    obtain ⟨i1, i2, i3⟩ := hI.out
    have I1 := hidD i1
    have I2 := hidD i2
    have HNL2 : Hid (N ≤ wr.heap.size) := hidD (by omega)
    clear hI X0 HB HS i3
    by_cases hlt : m < n
    · have hseg := HV.out _ i1
      obtain ⟨a', cap', he, _, _, h3, h4⟩ := id hseg
      rw [← HNL.out] at he
      injection he with he1 he2 he3
      subst he1 he3
      obtain ⟨gb, off, rfl, hgb, hcell⟩ := seg_at (l := l) (by have := HNL.out; omega) h3 h4
      have Q := hcell m (by have := HNL.out; omega)
      obtain ⟨x0, x1⟩ := HLL.out m hlt
      obtain ⟨x, hx⟩ := Int.eq_ofNat_of_zero_le x0
      rw [hx] at Q
      have hxlt : x < 18446744073709551616 := by omega
      obtain ⟨d0, d1⟩ := Bf.d_num HSS.out m
      have c2 := bdelay_any s ((m : Int) + 1) x hxlt wr.drew
      obtain ⟨f1, f2, _⟩ := Bf.delay_at HSS.out m (by omega) x
      rw [f1, f2] at c2
      obtain ⟨o0, o1⟩ := Bf.one_range HSS.out d0 d1 hxlt
      obtain ⟨s0, s1⟩ := Bf.sum_range HSS.out (l := l) (fun j hj => by have := HLL.out j (by have := HNL.out; omega); omega) m (by have := HNL.out; omega)
      have hnext : Hid (Bf.sum s l (m + 1) = Bf.sum s l m + Bf.one s (Bf.d s m) x) := hidD (by
        show Bf.sum s l m + Bf.one s (Bf.d s m) (l.getD m 0).toNat = _
        rw [hx]
        rfl)
      have hw : IntKind.i64.wrap (Bf.sum s l m + Bf.one s (Bf.d s m) x) = Bf.sum s l m + Bf.one s (Bf.d s m) x := wrap_ok (by omega) (by omega)
      have p0 := i2.cell 0 rfl
      have p1 := i2.cell 1 rfl
      have p2 := i2.cell 2 rfl
      have hi : (m : Int) < (n : Int) := by omega
      have hkw : IntKind.i64.wrap ((m : Int) + 1) = (m : Int) + 1 := wrap_ok (by omega) (by omega)
      have c3 := c2
      rw [← hkw] at c3
      clear i1 i2 hseg h3 h4 hcell he2 x0 x1 hx d0 d1 o0 o1 s0 s1 f1 f2
      generalize Bf.one s (Bf.d s m) x = y at *
      generalize Bf.sum s l m = sm at *
      go_wp2_with fail
      go_region_with (go_at_call 11; (first | with_reducible refine c3.mono ?_ | with_reducible refine c2.mono ?_); rintro e w2 ⟨rfl, h2⟩; have hb2 := hidD (below_on (below_drewN I1.out 1) HNL2.out h2); have J2 := hidD (Bo.below (w := wr.drew) I2.out h2); have hs2 := hidD (Nat.le_trans I2.out.lt h2.size); clear h2 c2 c3)
      all_goals go_wp2_with (go_at_call 17; refine (num_any _ _).mono ?_; rintro e ww ⟨rfl, rfl⟩)
      all_goals exact ⟨⟨m + 1, by omega, by go_num, by rw [hnext.out], hidD ⟨hb2.out, J2.out, hs2.out⟩⟩, by simp [intOf]; omega⟩
    · have hke : m = n := by omega
      subst hke
      have hz := HSM.out
      have hge := HGE.out
      rw [← hz] at hge
      rw [← hz]
      clear hz
      clear HV HVA HLL
      go_wp2_with fail
      go_ret
      exact ⟨by simp, I1.out⟩

set_option maxRecDepth 100000 in
theorem lifted (os : Os) (started : os.Started) (H : Type) (enc : TypeId × Value → H) :
    ReturnsInHanded {} Try.checked os 6 .any (Rows.backoffSumsSpec.pre6 enc Try.prog Try.f6 Rows.backoffSumsRow.domain false) (Rows.backoffSumsSpec.post enc Try.prog Try.f6 false true false false) := by
  refine returnsInHanded_of_change (C := Try.checked) own started (by kernel_rfl) Try.func6
    (ChangeSpec.witness6 (enc := enc) (C := Try.checked) false ⟨#[], #[.agg #[.int .i64 0, .int .i64 0, .int .i64 0], .slice none 0 0], []⟩ 8 (by kernel_rfl) (by kernel_rfl) (by kernel_rfl) (by kernel_rfl)) ?_
  intro W base args ds gs before hval0 hW hcnd _
  have hval : ∀ (j : Nat) t v, Try.f6.params[j]? = some t → args[j]? = some v → Value.okWide Try.prog W .any base t v := hval0
  have hW' := hW
  obtain ⟨p, q, hA0, hV, rfl, hfz, hnd⟩ := hW
  have hA : DataW.TrodAll enc Try.prog W 0 (fun _ => true) true Try.f6.params.toList args.toList ds p := hA0
  rw [Try.params6] at hA hval
  obtain ⟨v0, vs0, d0, ds0, p0, q0, hargs, rfl, rfl, h0, r0⟩ := trodAll_cons hA
  obtain ⟨v1, vs1, d1, ds1, p1, q1, rfl, rfl, rfl, h1, r1⟩ := trodAll_cons r0
  obtain ⟨rfl, rfl, rfl⟩ := trodAll_nil r1
  obtain rfl : args = #[v0, v1] := by cases args; simp_all
  obtain ⟨rfl, rfl⟩ := trodVars_none hV
  have k0 := h0
  have lt0 : ∀ x ∈ p0, x.block < W.heap.size := by obtain ⟨m, hm⟩ := k0; exact DataW.trod_lt m _ _ _ hm
  obtain ⟨x0, hv0⟩ := open_bset (hval 0 23 v0 rfl rfl) h0
  subst hv0
  have k1 := h1
  have lt1 : ∀ x ∈ p1, x.block < W.heap.size := by obtain ⟨m, hm⟩ := k1; exact DataW.trod_lt m _ _ _ hm
  obtain ⟨l1, hs1, ho1, e1⟩ := open_draws (hval 1 25 v1 rfl rfl) h1
  clear hA0 hval0
  refine (walk x0 v1 l1 hs1 ho1).mono fun e W' ⟨he, bel⟩ => ?_
  subst he
  exact ⟨_, rfl, _, _, _, [], _, [], hW', trodAll_mk1 (shut_bool Try.underlying4 _), (trodAll_cons_mk (Below.trod laidOut (by kernel_rfl) (of_decide_eq_true (by kernel_rfl)) k0 bel lt0) (trodAll_cons_mk (Below.trod laidOut (by kernel_rfl) (of_decide_eq_true (by kernel_rfl)) k1 bel lt1) trodAll_mk0)), rfl, bel.frame _, fun h => by cases h⟩

theorem over : Rows.backoffSumsRow.holds Try.pinned (OpenSpec.ofChange Rows.backoffSumsSpec) :=
  OpenClaim.holds_of_wide 6 Try.f6 rfl rfl rfl rfl rfl rfl rfl ⟨rfl, rfl, rfl, rfl, rfl⟩ rfl rfl rfl rfl rfl (by kernel_rfl) Try.func6 (by kernel_rfl)
    (of_decide_eq_true (by kernel_rfl)) (by unfold Func.isWrapper; first | (rw [if_pos (by decide +kernel)]; kernel_rfl) | (rw [if_neg (by decide +kernel)]; exact ⟨rfl, rfl⟩))
    (fun os started H enc _ => lifted os started H enc)
end Go.Proofs.Ytekldjfmdapgpaa.backoffSums

namespace Go.Proofs.Ytekldjfmdapgpaa
/-- THE STATEMENT. -/
theorem backoffSums_holds : Rows.BackoffSumsSaid := backoffSums.over
#print axioms backoffSums_holds
end Go.Proofs.Ytekldjfmdapgpaa
