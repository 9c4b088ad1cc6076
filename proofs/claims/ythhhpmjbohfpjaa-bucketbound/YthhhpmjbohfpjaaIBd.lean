/- The statement BucketBound. -/
import Derived.Test.YthhhpmjbohfpjaaRows
import Derived.BigQuiet
import Derived.Deep.QuietTactic
import Derived.WalkKit
import Derived.ProofKit
import Derived.OpenShut
import Derived.ShutString
import Derived.Test.YthhhpmjbohfpjaaIJ
import Derived.Test.YthhhpmjbohfpjaaOpenN
namespace Go.Proofs.Ythhhpmjbohfpjaa.bucketBound
open Go.ChangeShapes Go.WideShapes Go.ChangeAt Go.RowKit
open Go.ChangeMaps (open_string shut_string)
set_option linter.unusedVariables false
set_option maxRecDepth 20000

set_option maxHeartbeats 2000000 in
theorem walk (s : Bu.Se) (v : Value) (l : List Int) {w : World} (hv : Seg .i64 w v l) (ho : ∀ z ∈ l, -9223372036854775808 ≤ z ∧ z ≤ 9223372036854775807) :
    Calls Try.prog 5 #[vS s, v] w fun e w' => e = .returned (.bool true) ∧ Below w.heap.size w w' := by
  have HV : Hid (∀ W, Below w.heap.size w W → Seg .i64 W v l) := hidD (fun W h => hv.below h)
  have C1 := hidD (fun W h => orun_any s v l W h)
  have HG := hidD (@Bu.bound_all s l)
  have HB0 := hidD (@Bu.bad_all s l)
  obtain ⟨av, cv, hva, _, q2, _, _⟩ := hv
  unfold maxLen at q2
  have HVA := hidD hva
  obtain ⟨n, hn⟩ : ∃ n, n = l.length := ⟨_, rfl⟩
  rw [← hn] at hva
  have HNL := hidD hn
  subst hva
  clear hn ho
  generalize Bu.runV s l = FV at *
  generalize Bu.runN s l = FN at *
  generalize Bu.runE s l = k at *
  have X0 := hidD (Bo.new w (sL s) 23)
  have HB := hidD ((Below.refl w.heap.size w).alloc (Nat.le_refl _) (.cells (sL s).toArray 23))
  have HS : Hid (w.heap.size + 1 ≤ (w.alloc (.cells (sL s).toArray 23)).heap.size) := hidD (by rw [World.size_alloc]; omega)
  obtain ⟨W0, hW0⟩ : ∃ W0, W0 = w.alloc (.cells (sL s).toArray 23) := ⟨_, rfl⟩
  obtain ⟨N, hN⟩ : ∃ N, N = w.heap.size := ⟨_, rfl⟩
  rw [← hW0] at X0 HB HS
  rw [← hN] at X0 HB HS HV ⊢
  simp only [sL] at hW0
  go_enter Try.func5, Try.ntmps5
  go_wp2_with fail
  rw [← hN, ← hW0]
  clear hN hW0
  with_reducible refine (ualive_any W0).mono ?_
  rintro e v0 ⟨rfl, h⟩
  replace X0 := hidD (X0.out.below h)
  replace HB := hidD (below_on HB.out (Nat.le_of_succ_le HS.out) h)
  replace HS := hidD (Nat.le_trans HS.out h.size)
  clear h
  have p0 := X0.out.cell 0 rfl
  have p1 := X0.out.cell 1 rfl
  have p2 := X0.out.cell 2 rfl
  have p3 := X0.out.cell 3 rfl
  have c := hidD (C1.out v0 (HV.out _ HB.out))
  go_wp2_with fail
  with_reducible refine c.out.mono ?_
  rintro e v1 ⟨rfl, h⟩
  clear c p0 p1 p2 p3
  replace X0 := hidD (X0.out.below h)
  replace HB := hidD (below_on HB.out (Nat.le_of_succ_le HS.out) h)
  replace HS := hidD (Nat.le_trans HS.out h.size)
  clear h
  clear C1
  by_cases hk : k = 0
  case neg =>
    obtain ⟨e1, e2⟩ := HB0.out hk
    subst e1 e2
    have hk1 : (k != 0) = true := by simp [hk]
    have HBB := HB
    clear HG HB0 HV HVA X0 HB HS
    go_wp2_with (go_at_call 17; refine (num_any _ _).mono ?_; rintro e ww ⟨rfl, rfl⟩)
    go_ret
    exact ⟨rfl, HBB.out⟩
  subst hk
  obtain ⟨hl, hvr, hnr, hb, hr, hp, hc1, hc2⟩ := HG.out rfl
  rw [← HNL.out] at hl hb hc1 hc2
  have HBD := hidD hb
  have HC1 := hidD hc1
  have HC2 := hidD hc2
  clear HG HB0 hb hc1 hc2
  have HCR : Hid (∀ a (m : Nat), 0 ≤ Bu.cnt a (l.take m) ∧ Bu.cnt a (l.take m) ≤ m) := hidD (fun a m => Bu.cnt_range a l m)
  have HCT : Hid (∀ a (m : Nat), m < n → Bu.cnt a (l.take (m + 1)) = Bu.cnt a (l.take m) + (if l.getD m 0 = a then 1 else 0)) := hidD (fun a m hm => Bu.cnt_take a l m (by have := HNL.out; omega))
  go_upto_region 7 with (go_at_call 17; refine (num_any _ _).mono ?_; rintro e ww ⟨rfl, rfl⟩)
  go_wp2_with fail
  go_loopw [8, 9, 10] (fun cv tv i wr => ∃ m : Nat, m ≤ n ∧ i = .int .i64 m ∧ cv = .int .i64 (Bu.cnt 1 (l.take m)) ∧ tv = .int .i64 (Bu.cnt 2 (l.take m)) ∧ wr = v1) (fun _ _ i _ => n - (intOf i).toNat)
  case atStart => exact ⟨0, Nat.zero_le _, rfl, by rw [Bu.cnt_zero], by rw [Bu.cnt_zero], (by first | trivial | rfl)⟩
  case round =>
    obtain ⟨m, hm, rfl, rfl, rfl, rfl⟩ := hrel
    by_cases hlt : m < n
    · have hlt2 : decide ((m : Int) < (n : Int)) = true := decide_eq_true (by omega)
      obtain ⟨g, off, cap', e1, hg, hcell⟩ := nseg_at (by have := HNL.out; omega) (HV.out _ HB.out)
      have q := hcell m (by have := HNL.out; omega)
      have H1 := hidD (HCT.out 1 m hlt)
      have H2 := hidD (HCT.out 2 m hlt)
      obtain ⟨r1, r2⟩ := HCR.out 1 m
      obtain ⟨r3, r4⟩ := HCR.out 2 m
      rw [HVA.out, ← HNL.out] at e1
      cases e1
      clear hcell HCT HCR HC1 HC2 HBD
      generalize Bu.cnt 1 (l.take m) = x at *
      generalize Bu.cnt 2 (l.take m) = y at *
      generalize l.getD m 0 = a at *
      by_cases ha : a = 1
      · subst ha
        have e1 := H1.out
        have e2 := H2.out
        rw [if_pos rfl] at e1
        rw [if_neg (by decide), Int.add_zero] at e2
        have E1 := hidD e1
        have E2 := hidD e2
        clear H1 H2 e1 e2
        go_wp2_with fail
        have hm1 : m + 1 ≤ n := by omega
        exact ⟨⟨m + 1, hm1, by go_num, by rw [E1.out], by rw [E2.out], (by first | trivial | rfl)⟩, by simp [intOf]; omega⟩
      · by_cases hb : a = 2
        · subst hb
          have e1 := H1.out
          have e2 := H2.out
          rw [if_neg (by decide), Int.add_zero] at e1
          rw [if_pos rfl] at e2
          have E1 := hidD e1
          have E2 := hidD e2
          clear H1 H2 e1 e2 ha
          go_wp2_with fail
          have hm1 : m + 1 ≤ n := by omega
          exact ⟨⟨m + 1, hm1, by go_num, by rw [E1.out], by rw [E2.out], (by first | trivial | rfl)⟩, by simp [intOf]; omega⟩
        · have e1 := H1.out
          have e2 := H2.out
          rw [if_neg ha, Int.add_zero] at e1
          rw [if_neg hb, Int.add_zero] at e2
          have E1 := hidD e1
          have E2 := hidD e2
          have ha2 : (a == 1) = false := by simp [ha]
          have hb2 : (a == 2) = false := by simp [hb]
          clear H1 H2 e1 e2
          go_wp2_with fail
          have hm1 : m + 1 ≤ n := by omega
          exact ⟨⟨m + 1, hm1, by go_num, by rw [E1.out], by rw [E2.out], (by first | trivial | rfl)⟩, by simp [intOf]; omega⟩
    · have hmn : m = n := by omega
      subst hmn
      have hlt2 : decide ((m : Int) < (m : Int)) = false := decide_eq_false (by omega)
      have p0 := X0.out.cell 0 rfl
      have p1 := X0.out.cell 1 rfl
      have p2 := X0.out.cell 2 rfl
      have p3 := X0.out.cell 3 rfl
      obtain ⟨d1, d2⟩ := HC1.out
      obtain ⟨d3, d4⟩ := HC2.out
      have d5 := HBD.out
      have HBB := HB
      clear HCT HCR HC1 HC2 HBD HV HVA X0 HB HS
      generalize Bu.cnt 1 (l.take m) = x at *
      generalize Bu.cnt 2 (l.take m) = y at *
      obtain ⟨C, K, R, P⟩ := s
      dsimp only at *
      have u1 : IntKind.i64.wrap (C * x) = C * x := wrap_ok (by omega) (by omega)
      have u2 : IntKind.i64.wrap (K * y) = K * y := wrap_ok (by omega) (by omega)
      have u3 : IntKind.i64.wrap (C * x + K * y) = C * x + K * y := wrap_ok (by omega) (by omega)
      have u4 : 0 ≤ C * x + K * y := by omega
      have g1 : FN ≤ R + (C * x + K * y) / 1000 := by omega
      have g2 : 1000 * FN + FV ≤ 1000 * R + C * x + K * y := d5
      have g3 : FV ≤ 1000 * P := by omega
      have u5 : IntKind.i64.wrap ((C * x + K * y) / 1000) = (C * x + K * y) / 1000 := wrap_ok (by omega) (by omega)
      have u6 : IntKind.i64.wrap (R + (C * x + K * y) / 1000) = R + (C * x + K * y) / 1000 := wrap_ok (by omega) (by omega)
      have u7 : IntKind.i64.wrap (1000 * FN) = 1000 * FN := wrap_ok (by omega) (by omega)
      have u8 : IntKind.i64.wrap (1000 * FN + FV) = 1000 * FN + FV := wrap_ok (by omega) (by omega)
      have u9 : IntKind.i64.wrap (1000 * R) = 1000 * R := wrap_ok (by omega) (by omega)
      have u10 : IntKind.i64.wrap (1000 * R + C * x) = 1000 * R + C * x := wrap_ok (by omega) (by omega)
      have u11 : IntKind.i64.wrap (1000 * R + C * x + K * y) = 1000 * R + C * x + K * y := wrap_ok (by omega) (by omega)
      have u12 : IntKind.i64.wrap (1000 * P) = 1000 * P := wrap_ok (by omega) (by omega)
      go_wp2_with fail
      go_ret
      exact ⟨by first | rfl | simp [g1, g2, g3], HBB.out⟩

set_option maxRecDepth 100000 in
theorem lifted (os : Os) (started : os.Started) (H : Type) (enc : TypeId × Value → H) :
    ReturnsInHanded {} Try.checked os 5 .any (Rows.bucketBoundSpec.pre6 enc Try.prog Try.f5 Rows.bucketBoundRow.domain false) (Rows.bucketBoundSpec.post enc Try.prog Try.f5 false true false false) := by
  refine returnsInHanded_of_change (C := Try.checked) own started (by kernel_rfl) Try.func5
    (ChangeSpec.witness6 (enc := enc) (C := Try.checked) false ⟨#[], #[.agg #[.int .i64 0, .int .i64 0, .int .i64 0, .int .i64 0], .slice none 0 0], []⟩ 8 (by kernel_rfl) (by kernel_rfl) (by kernel_rfl) (by kernel_rfl)) ?_
  intro W base args ds gs before hval0 hW hcnd _
  have hval : ∀ (j : Nat) t v, Try.f5.params[j]? = some t → args[j]? = some v → Value.okWide Try.prog W .any base t v := hval0
  have hW' := hW
  obtain ⟨p, q, hA0, hV, rfl, hfz, hnd⟩ := hW
  have hA : DataW.TrodAll enc Try.prog W 0 (fun _ => true) true Try.f5.params.toList args.toList ds p := hA0
  rw [Try.params5] at hA hval
  obtain ⟨v0, vs0, d0, ds0, p0, q0, hargs, rfl, rfl, h0, r0⟩ := trodAll_cons hA
  obtain ⟨v1, vs1, d1, ds1, p1, q1, rfl, rfl, rfl, h1, r1⟩ := trodAll_cons r0
  obtain ⟨rfl, rfl, rfl⟩ := trodAll_nil r1
  obtain rfl : args = #[v0, v1] := by cases args; simp_all
  obtain ⟨rfl, rfl⟩ := trodVars_none hV
  have k0 := h0
  have lt0 : ∀ x ∈ p0, x.block < W.heap.size := by obtain ⟨m, hm⟩ := k0; exact DataW.trod_lt m _ _ _ hm
  obtain ⟨x0, hv0⟩ := open_uset (hval 0 23 v0 rfl rfl) h0
  subst hv0
  have k1 := h1
  have lt1 : ∀ x ∈ p1, x.block < W.heap.size := by obtain ⟨m, hm⟩ := k1; exact DataW.trod_lt m _ _ _ hm
  obtain ⟨l1, hs1, ho1, e1⟩ := open_numbers (hval 1 40 v1 rfl rfl) h1
  clear hA0 hval0
  refine (walk x0 v1 l1 hs1 ho1).mono fun e W' ⟨he, bel⟩ => ?_
  subst he
  exact ⟨_, rfl, _, _, _, [], _, [], hW', trodAll_mk1 (shut_bool Try.underlying4 _), (trodAll_cons_mk (Below.trod laidOut (by kernel_rfl) (of_decide_eq_true (by kernel_rfl)) k0 bel lt0) (trodAll_cons_mk (Below.trod laidOut (by kernel_rfl) (of_decide_eq_true (by kernel_rfl)) k1 bel lt1) trodAll_mk0)), rfl, bel.frame _, fun h => by cases h⟩

theorem over : Rows.bucketBoundRow.holds Try.pinned (OpenSpec.ofChange Rows.bucketBoundSpec) :=
  OpenClaim.holds_of_wide 5 Try.f5 rfl rfl rfl rfl rfl rfl rfl ⟨rfl, rfl, rfl, rfl, rfl⟩ rfl rfl rfl rfl rfl (by kernel_rfl) Try.func5 (by kernel_rfl)
    (of_decide_eq_true (by kernel_rfl)) (by unfold Func.isWrapper; first | (rw [if_pos (by decide +kernel)]; kernel_rfl) | (rw [if_neg (by decide +kernel)]; exact ⟨rfl, rfl⟩))
    (fun os started H enc _ => lifted os started H enc)
end Go.Proofs.Ythhhpmjbohfpjaa.bucketBound

namespace Go.Proofs.Ythhhpmjbohfpjaa
/-- THE STATEMENT. -/
theorem bucketBound_holds : Rows.BucketBoundSaid := bucketBound.over
#print axioms bucketBound_holds
end Go.Proofs.Ythhhpmjbohfpjaa
