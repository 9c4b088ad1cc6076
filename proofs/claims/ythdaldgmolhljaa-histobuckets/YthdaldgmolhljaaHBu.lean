/- For all numbers: a number lies in its bucket, above 15 at most a quarter below the bucket's top (the law HistoBuckets answers true), and no memory is touched. -/
import Derived.Test.YthdaldgmolhljaaRows
import Derived.BigQuiet
import Derived.Deep.QuietTactic
import Derived.WalkKit
import Derived.ProofKit
import Derived.OpenShut
import Derived.ShutString
import Derived.Test.YthdaldgmolhljaaHsG
import Derived.Test.YthdaldgmolhljaaOpenH
namespace Go.Proofs.Ythdaldgmolhljaa.histoBuckets
open Go.ChangeShapes Go.WideShapes Go.ChangeAt Go.RowKit
open Go.ChangeMaps (open_string shut_string)
set_option linter.unusedVariables false
set_option maxRecDepth 20000

theorem bk_facts (n : Int) (h : 0 ≤ n) : ∃ b t : Int, Hi.bkR n = b ∧ Hi.bkE n = 0 ∧ Hi.tpR b = t ∧ Hi.tpE b = 0 ∧ 0 ≤ b ∧ b ≤ 80 ∧ Hi.most n ≤ t ∧ (16 ≤ Hi.most n ∨ t = Hi.most n) ∧ 4 * (t - Hi.most n) ≤ Hi.most n ∧ t ≤ 1048576 ∧ (b = 0 → Hi.most n = 0) ∧ (¬ b = 0 → Hi.tpE (b - 1) = 0 ∧ Hi.tpR (b - 1) < Hi.most n) := by
  obtain ⟨a1, a2, a3, a4⟩ := Hi.buckets h
  have hb := Hi.bn_le n
  have ht := Hi.top_range hb
  refine ⟨(Hi.bn n : Nat), Hi.top (Hi.bn n), if_neg (by omega), if_neg (by omega), ?_, if_neg (by omega), by omega, by omega, a1, a2, a3, ht.2, fun e => by omega, fun e => ⟨if_neg (by omega), ?_⟩⟩
  · unfold Hi.tpR
    rw [if_neg (by omega), Int.toNat_natCast]
  · have e1 : Hi.tpR (((Hi.bn n : Nat) : Int) - 1) = Hi.top (Hi.bn n - 1) := by
      unfold Hi.tpR
      rw [if_neg (by omega)]
      congr 1
      omega
    rw [e1]
    omega
theorem most_min (n : Int) : (n ≤ 1048576 → Hi.most n = n) ∧ (1048576 < n → Hi.most n = 1048576) := ⟨fun h => if_pos h, fun h => if_neg (by omega)⟩
set_option maxHeartbeats 4000000 in
theorem walk (n : Int) (wn : (Lit.int .i64 n).wf = true) {w : World} :
    Calls Try.prog 4 #[.int .i64 n] w fun e w' => e = .returned (.bool true) ∧ Below w.heap.size w w' := by
  have ca := alive_any w
  have c1 := bucket_any n w
  by_cases h0 : n < 0
  · rw [show Hi.bkR n = 0 from if_pos h0, show Hi.bkE n = 4 from if_pos h0] at c1
    go_enter Try.func4, Try.ntmps4
    go_wp2_with fail
    with_reducible refine ca.mono ?_
    rintro e w2 ⟨rfl, rfl⟩
    go_wp2_with fail
    with_reducible refine c1.mono ?_
    rintro e w2 ⟨rfl, rfl⟩
    go_wp2_with (go_at_call 20; refine (num_any _ _).mono ?_; rintro e ww ⟨rfl, rfl⟩)
    go_ret
    exact ⟨by first | rfl | simp [h0], Below.refl _ _⟩
  obtain ⟨b, t, f1, f2, f3, f4, f5, f6, f7, f8, f9, f10, f11, f12⟩ := bk_facts n (by omega)
  obtain ⟨m1, m2⟩ := most_min n
  rw [f1, f2] at c1
  have c2 := top_any b w
  rw [f3, f4] at c2
  have hm0 : 0 ≤ Hi.most n := by omega
  by_cases hle : n ≤ 1048576
  · have hm := m1 hle
    rw [hm] at f7 f8 f9 f11 f12
    clear m1 m2 hm hm0 f1 f2 f3 f4 wn
    by_cases hb0 : b = 0
    · have hn0 := f11 hb0
      subst hb0 hn0
      have ht : t = 0 := by omega
      subst ht
      clear f12 f11
      go_enter Try.func4, Try.ntmps4
      go_wp2_with fail
      with_reducible refine ca.mono ?_
      rintro e w2 ⟨rfl, rfl⟩
      go_wp2_with fail
      with_reducible refine c1.mono ?_
      rintro e w2 ⟨rfl, rfl⟩
      go_wp2_with (first | (go_at_call 20; refine (num_any _ _).mono ?_; rintro e ww ⟨rfl, rfl⟩))
      with_reducible refine c2.mono ?_
      rintro e w2 ⟨rfl, rfl⟩
      go_wp2_with (first | (go_at_call 20; refine (num_any _ _).mono ?_; rintro e ww ⟨rfl, rfl⟩))
      go_ret
      exact ⟨by first | rfl | simp | (simp; omega), Below.refl _ _⟩
    · by_cases h16 : n < 16
      · have ht : t = n := by omega
        subst ht
        obtain ⟨g1, g2⟩ := f12 hb0
        have c3 := top_any (b - 1) w
        rw [g1] at c3
        generalize Hi.tpR (b - 1) = t2 at *
        have d0 : (b == 0) = false := by simp [hb0]
        clear f12 f11 g1
        go_enter Try.func4, Try.ntmps4
        go_wp2_with fail
        with_reducible refine ca.mono ?_
        rintro e w2 ⟨rfl, rfl⟩
        go_wp2_with fail
        with_reducible refine c1.mono ?_
        rintro e w2 ⟨rfl, rfl⟩
        go_wp2_with (first | (go_at_call 20; refine (num_any _ _).mono ?_; rintro e ww ⟨rfl, rfl⟩))
        with_reducible refine c2.mono ?_
        rintro e w2 ⟨rfl, rfl⟩
        go_wp2_with (first | (go_at_call 20; refine (num_any _ _).mono ?_; rintro e ww ⟨rfl, rfl⟩))
        with_reducible refine c3.mono ?_
        rintro e w2 ⟨rfl, rfl⟩
        go_wp2_with (first | (go_at_call 20; refine (num_any _ _).mono ?_; rintro e ww ⟨rfl, rfl⟩))
        go_ret
        exact ⟨by first | rfl | simp | (simp; omega), Below.refl _ _⟩
      · have h17 : 16 ≤ n := by omega
        obtain ⟨g1, g2⟩ := f12 hb0
        have c3 := top_any (b - 1) w
        rw [g1] at c3
        generalize Hi.tpR (b - 1) = t2 at *
        have d0 : (b == 0) = false := by simp [hb0]
        clear f12 f11 g1
        go_enter Try.func4, Try.ntmps4
        go_wp2_with fail
        with_reducible refine ca.mono ?_
        rintro e w2 ⟨rfl, rfl⟩
        go_wp2_with fail
        with_reducible refine c1.mono ?_
        rintro e w2 ⟨rfl, rfl⟩
        go_wp2_with (first | (go_at_call 20; refine (num_any _ _).mono ?_; rintro e ww ⟨rfl, rfl⟩))
        with_reducible refine c2.mono ?_
        rintro e w2 ⟨rfl, rfl⟩
        go_wp2_with (first | (go_at_call 20; refine (num_any _ _).mono ?_; rintro e ww ⟨rfl, rfl⟩))
        with_reducible refine c3.mono ?_
        rintro e w2 ⟨rfl, rfl⟩
        go_wp2_with (first | (go_at_call 20; refine (num_any _ _).mono ?_; rintro e ww ⟨rfl, rfl⟩))
        go_ret
        exact ⟨by first | rfl | simp | (simp; omega), Below.refl _ _⟩
  · have hm := m2 (by omega)
    rw [hm] at f7 f8 f9 f11 f12
    clear m1 m2 hm hm0 f1 f2 f3 f4 wn
    have hb0 : ¬ b = 0 := fun e => by have := f11 e; omega
    have ht : t = 1048576 := by omega
    subst ht
    obtain ⟨g1, g2⟩ := f12 hb0
    have c3 := top_any (b - 1) w
    rw [g1] at c3
    generalize Hi.tpR (b - 1) = t2 at *
    have d0 : (b == 0) = false := by simp [hb0]
    clear f12 f11 g1
    go_enter Try.func4, Try.ntmps4
    go_wp2_with fail
    with_reducible refine ca.mono ?_
    rintro e w2 ⟨rfl, rfl⟩
    go_wp2_with fail
    with_reducible refine c1.mono ?_
    rintro e w2 ⟨rfl, rfl⟩
    go_wp2_with (first | (go_at_call 20; refine (num_any _ _).mono ?_; rintro e ww ⟨rfl, rfl⟩))
    with_reducible refine c2.mono ?_
    rintro e w2 ⟨rfl, rfl⟩
    go_wp2_with (first | (go_at_call 20; refine (num_any _ _).mono ?_; rintro e ww ⟨rfl, rfl⟩))
    with_reducible refine c3.mono ?_
    rintro e w2 ⟨rfl, rfl⟩
    go_wp2_with (first | (go_at_call 20; refine (num_any _ _).mono ?_; rintro e ww ⟨rfl, rfl⟩))
    go_ret
    exact ⟨by first | rfl | simp | (simp; omega), Below.refl _ _⟩

set_option maxRecDepth 100000 in
theorem lifted (os : Os) (started : os.Started) (H : Type) (enc : TypeId × Value → H) :
    ReturnsInHanded {} Try.checked os 4 .any (Rows.histoBucketsSpec.pre6 enc Try.prog Try.f4 Rows.histoBucketsRow.domain false) (Rows.histoBucketsSpec.post enc Try.prog Try.f4 false true false false) := by
  refine returnsInHanded_of_change (C := Try.checked) own started (by kernel_rfl) Try.func4
    (ChangeSpec.witness6 (enc := enc) (C := Try.checked) false ⟨#[], #[.int .i64 0], []⟩ 8 (by kernel_rfl) (by kernel_rfl) (by kernel_rfl) (by kernel_rfl)) ?_
  intro W base args ds gs before hval0 hW hcnd _
  have hval : ∀ (j : Nat) t v, Try.f4.params[j]? = some t → args[j]? = some v → Value.okWide Try.prog W .any base t v := hval0
  have hW' := hW
  obtain ⟨p, q, hA0, hV, rfl, hfz, hnd⟩ := hW
  have hA : DataW.TrodAll enc Try.prog W 0 (fun _ => true) true Try.f4.params.toList args.toList ds p := hA0
  rw [Try.params4] at hA hval
  obtain ⟨v0, vs0, d0, ds0, p0, q0, hargs, rfl, rfl, h0, r0⟩ := trodAll_cons hA
  obtain ⟨rfl, rfl, rfl⟩ := trodAll_nil r0
  obtain rfl : args = #[v0] := by cases args; simp_all
  obtain ⟨rfl, rfl⟩ := trodVars_none hV
  obtain ⟨a0, rfl, rfl, rfl, w0⟩ := open_int Try.underlying3 (hval 0 3 v0 rfl rfl) h0
  clear hA0 hval0
  refine (walk a0 w0).mono fun e W' ⟨he, bel⟩ => ?_
  subst he
  exact ⟨_, rfl, _, _, _, [], _, [], hW', trodAll_mk1 (shut_bool Try.underlying4 _), (trodAll_cons_mk (shut_int Try.underlying3 w0) trodAll_mk0), rfl, bel.frame _, fun h => by cases h⟩

theorem over : Rows.histoBucketsRow.holds Try.pinned (OpenSpec.ofChange Rows.histoBucketsSpec) :=
  OpenClaim.holds_of_wide 4 Try.f4 rfl rfl rfl rfl rfl rfl rfl ⟨rfl, rfl, rfl, rfl, rfl⟩ rfl rfl rfl rfl rfl (by kernel_rfl) Try.func4 (by kernel_rfl)
    (of_decide_eq_true (by kernel_rfl)) (by unfold Func.isWrapper; first | (rw [if_pos (by decide +kernel)]; kernel_rfl) | (rw [if_neg (by decide +kernel)]; exact ⟨rfl, rfl⟩))
    (fun os started H enc _ => lifted os started H enc)
end Go.Proofs.Ythdaldgmolhljaa.histoBuckets

namespace Go.Proofs.Ythdaldgmolhljaa
/-- THE STATEMENT. -/
theorem histoBuckets_holds : Rows.HistoBucketsSaid := histoBuckets.over
#print axioms histoBuckets_holds
end Go.Proofs.Ythdaldgmolhljaa
