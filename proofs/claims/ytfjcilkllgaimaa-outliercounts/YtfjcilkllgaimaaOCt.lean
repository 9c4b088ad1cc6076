/- The statement OutlierCounts. -/
import Derived.Test.YtfjcilkllgaimaaRows
import Derived.BigQuiet
import Derived.Deep.QuietTactic
import Derived.WalkKit
import Derived.ProofKit
import Derived.OpenShut
import Derived.ShutString
import Derived.Test.YtfjcilkllgaimaaEM
import Derived.Test.YtfjcilkllgaimaaOpen
namespace Go.Proofs.Ytfjcilkllgaimaa.outlierCounts
open Go.ChangeShapes Go.WideShapes Go.ChangeAt Go.RowKit
open Go.ChangeMaps (open_string shut_string)
set_option linter.unusedVariables false
set_option maxRecDepth 20000

set_option maxHeartbeats 4000000 in
theorem walk (s : Ou.Se) (v : Value) (l : List Bool) {w : World} (hv : GSeg w v l) :
    Calls Try.prog 4 #[vS s, v] w fun e w' => e = .returned (.bool true) ∧ Below w.heap.size w w' := by
  have HV : Hid (∀ W, Below w.heap.size w W → GSeg W v l) := hidD (fun W h => hv.below h)
  have HC := hidD (fun W h => orecord_any Ou.zero s 0 v l W h)
  have HCN : Hid (Ou.chk Ou.zero s 0 = 0 → l.length ≤ 524288 → Ou.recR Ou.zero s 0 l = ⟨(Ou.recs Ou.zero (l.take l.length)).r, (Ou.recs Ou.zero (l.take l.length)).g, (Ou.recs Ou.zero (l.take l.length)).b, 0, 0, 0, false⟩) := hidD (fun h h2 => (if_pos h).trans (Ou.recs_whole l h2))
  have HCB : Hid (¬ Ou.chk Ou.zero s 0 = 0 → Ou.recR Ou.zero s 0 l = ⟨0, 0, 0, 0, 0, 0, false⟩) := hidD (fun h => if_neg h)
  obtain ⟨a, cap, hva, g1, g2, g3, g4⟩ := hv
  obtain ⟨n, hn⟩ : ∃ n, n = l.length := ⟨_, rfl⟩
  rw [← hn] at hva g1
  unfold maxLen at g2
  have HL := hidD hn
  clear hn g3 g4
  subst hva
  generalize Ou.recR Ou.zero s 0 l = A at *
  generalize Ou.chk Ou.zero s 0 = k at *
  unfold Ou.zero at HC
  have X1 := hidD (Bo.new w (sL s) 25)
  have HB := hidD ((Below.refl w.heap.size w).alloc (Nat.le_refl _) (.cells (sL s).toArray 25))
  have HS : Hid (w.heap.size + 1 ≤ (w.alloc (.cells (sL s).toArray 25)).heap.size) := hidD (by simp)
  obtain ⟨W0, hW0⟩ : ∃ W0, W0 = w.alloc (.cells (sL s).toArray 25) := ⟨_, rfl⟩
  obtain ⟨N, hN⟩ : ∃ N, N = w.heap.size := ⟨_, rfl⟩
  rw [← hW0] at X1 HB HS
  rw [← hN] at X1 HB HS HV ⊢
  simp only [sL] at hW0
  go_enter Try.func4, Try.ntmps4
  go_wp2_with fail
  rw [← hN, ← hW0]
  clear hN hW0
  with_reducible refine (oalive_any W0).mono ?_
  rintro e v0 ⟨rfl, h⟩
  replace X1 := hidD (X1.out.below h)
  replace HB := hidD (below_on HB.out (by have := HS.out; omega) h)
  replace HS := hidD (Nat.le_trans HS.out h.size)
  clear h
  have q0 := X1.out.cell 0 rfl
  have q1 := X1.out.cell 1 rfl
  have q2 := X1.out.cell 2 rfl
  have q3 := X1.out.cell 3 rfl
  have q4 := X1.out.cell 4 rfl
  have q5 := X1.out.cell 5 rfl
  have q6 := X1.out.cell 6 rfl
  have c := HC.out v0 (HV.out _ HB.out)
  go_wp2_with fail
  with_reducible refine c.mono ?_
  rintro e v1 ⟨rfl, h⟩
  clear c
  clear q0 q1 q2 q3 q4 q5 q6
  replace X1 := hidD (X1.out.below h)
  replace HB := hidD (below_on HB.out (by have := HS.out; omega) h)
  replace HS := hidD (Nat.le_trans HS.out h.size)
  clear h
  by_cases hk : k = 0
  · skip
    subst hk
    by_cases hlen : 524288 < n
    · skip
      have X5 := hidD (Bo.new v1 [.int .i64 A.r, .int .i64 A.g, .int .i64 A.b, .int .i64 A.n, .int .i64 A.s, .int .i64 A.u, .bool A.o] 23)
      have L0X1 := hidD X1.out.lt
      replace X1 := hidD (X1.out.alloc (.cells #[.int .i64 A.r, .int .i64 A.g, .int .i64 A.b, .int .i64 A.n, .int .i64 A.s, .int .i64 A.u, .bool A.o] 23))
      have LTX1C := L0X1
      clear L0X1
      have LC := HS
      replace HB := hidD (HB.out.alloc (by have := HS.out; omega) (.cells #[.int .i64 A.r, .int .i64 A.g, .int .i64 A.b, .int .i64 A.n, .int .i64 A.s, .int .i64 A.u, .bool A.o] 23))
      replace HS : Hid (N + 1 ≤ (v1.alloc (.cells #[.int .i64 A.r, .int .i64 A.g, .int .i64 A.b, .int .i64 A.n, .int .i64 A.s, .int .i64 A.u, .bool A.o] 23)).heap.size) := hidD (by rw [World.size_alloc]; have := HS.out; omega)
      go_upto_region 4 with fail
      generalize v1.alloc (.cells #[.int .i64 A.r, .int .i64 A.g, .int .i64 A.b, .int .i64 A.n, .int .i64 A.s, .int .i64 A.u, .bool A.o] 23) = v2 at *
      generalize v1.heap.size = C at *
      have q0 := X1.out.cell 0 rfl
      have q1 := X1.out.cell 1 rfl
      have q2 := X1.out.cell 2 rfl
      have q3 := X1.out.cell 3 rfl
      have q4 := X1.out.cell 4 rfl
      have q5 := X1.out.cell 5 rfl
      have q6 := X1.out.cell 6 rfl
      have b0 := X5.out.cell 0 rfl
      have b1 := X5.out.cell 1 rfl
      have b2 := X5.out.cell 2 rfl
      have b3 := X5.out.cell 3 rfl
      have b4 := X5.out.cell 4 rfl
      have b5 := X5.out.cell 5 rfl
      have b6 := X5.out.cell 6 rfl
      have hl2 := decide_eq_true hlen
      have HBB := hidD HB.out
      clear HB HS X1 X5
      go_wp2_with (go_at_call 17; refine (num_any _ _).mono ?_; rintro e ww ⟨rfl, rfl⟩)
      go_ret
      exact ⟨by first | rfl | simp [*], HBB.out⟩
    · skip
      have hA := HCN.out rfl (by have := HL.out; omega)
      subst hA
      clear HCN HCB HC
      have HST := hidD (Ou.recs_step l (by have := HL.out; omega))
      have HRG := hidD (Ou.recs_count l (by have := HL.out; omega))
      have HE : Hid ((Ou.recs Ou.zero (l.take 0)).r = 0 ∧ (Ou.recs Ou.zero (l.take 0)).g = 0 ∧ (Ou.recs Ou.zero (l.take 0)).b = 0) := hidD (by rw [List.take_zero]; exact ⟨rfl, rfl, rfl⟩)
      have hl2 : decide (524288 < n) = false := decide_eq_false hlen
      have HLE : Hid (n ≤ 524288) := hidD (by omega)
      rw [← HL.out]
      have HI : Hid ((Ou.recs Ou.zero (l.take n)) = Ou.recs Ou.zero (l.take n)) := hidD rfl
      generalize hR : (Ou.recs Ou.zero (l.take n)).r = R at *
      generalize hG : (Ou.recs Ou.zero (l.take n)).g = G at *
      generalize hB : (Ou.recs Ou.zero (l.take n)).b = BD at *
      have HR := hidD hR
      have HG := hidD hG
      have HBD := hidD hB
      clear hR hG hB HI
      have X5 := hidD (Bo.new v1 [.int .i64 R, .int .i64 G, .int .i64 BD, .int .i64 0, .int .i64 0, .int .i64 0, .bool false] 23)
      have L0X1 := hidD X1.out.lt
      replace X1 := hidD (X1.out.alloc (.cells #[.int .i64 R, .int .i64 G, .int .i64 BD, .int .i64 0, .int .i64 0, .int .i64 0, .bool false] 23))
      have LTX1C := L0X1
      clear L0X1
      have LC := HS
      replace HB := hidD (HB.out.alloc (by have := HS.out; omega) (.cells #[.int .i64 R, .int .i64 G, .int .i64 BD, .int .i64 0, .int .i64 0, .int .i64 0, .bool false] 23))
      replace HS : Hid (N + 1 ≤ (v1.alloc (.cells #[.int .i64 R, .int .i64 G, .int .i64 BD, .int .i64 0, .int .i64 0, .int .i64 0, .bool false] 23)).heap.size) := hidD (by rw [World.size_alloc]; have := HS.out; omega)
      go_upto_region 4 with fail
      generalize v1.alloc (.cells #[.int .i64 R, .int .i64 G, .int .i64 BD, .int .i64 0, .int .i64 0, .int .i64 0, .bool false] 23) = v2 at *
      generalize v1.heap.size = C at *
      go_upto_region 7 with (go_at_call 17; refine (num_any _ _).mono ?_; rintro e ww ⟨rfl, rfl⟩)
      go_wp2_with fail
      go_loopw [7, 8, 9, 10] (fun ga ba ra i wr => ∃ k : Nat, k ≤ n ∧ i = .int .i64 k ∧ ga = .int .i64 (Ou.recs Ou.zero (l.take k)).g ∧ ba = .int .i64 (Ou.recs Ou.zero (l.take k)).b ∧ ra = .int .i64 (Ou.recs Ou.zero (l.take k)).r ∧ v2 = wr) (fun _ _ _ i _ => n - (intOf i).toNat)
      case atStart => exact ⟨0, Nat.zero_le _, rfl, by rw [HE.out.2.1], by rw [HE.out.2.2], by rw [HE.out.1], rfl⟩
      case round =>
        obtain ⟨k, hk, rfl, rfl, rfl, rfl, rfl⟩ := hrel
        by_cases hlt : k < n
        · skip
          obtain ⟨g, off, cap', e1, hg, hcell⟩ := gseg_at (by have := HL.out; omega) (HV.out _ HB.out)
          rw [← HL.out] at e1
          cases e1
          have hq := hcell k (by have := HL.out; omega)
          obtain ⟨s1, s2, s3⟩ := HST.out k (by have := HL.out; omega)
          obtain ⟨t1, t2, t3, t4, t5, _⟩ := HRG.out k (by have := HL.out; omega)
          have hle := HLE.out
          generalize hR1 : (Ou.recs Ou.zero (l.take (k + 1))).r = R1 at *
          generalize hG1 : (Ou.recs Ou.zero (l.take (k + 1))).g = G1 at *
          generalize hB1 : (Ou.recs Ou.zero (l.take (k + 1))).b = B1 at *
          generalize (Ou.recs Ou.zero (l.take k)).r = R0 at *
          generalize (Ou.recs Ou.zero (l.take k)).g = G0 at *
          generalize (Ou.recs Ou.zero (l.take k)).b = B0 at *
          have HR1 := hidD hR1
          have HG1 := hidD hG1
          have HB1 := hidD hB1
          clear hcell hR1 hG1 hB1
          generalize l.getD k false = gd at *
          have w1 : IntKind.i64.wrap (G0 + 1) = G0 + 1 := wrap_ok (by omega) (by omega)
          have w2 : IntKind.i64.wrap (B0 + 1) = B0 + 1 := wrap_ok (by omega) (by omega)
          have w3 : IntKind.i64.wrap (R0 + 1) = R0 + 1 := wrap_ok (by omega) (by omega)
          cases gd
          · skip
            rw [if_neg (by decide)] at s1 s2 s3
            have S1 := hidD s1
            have S2 := hidD s2
            have S3 := hidD s3
            clear s1 s2 s3
            go_wp2_with fail
            exact ⟨⟨k + 1, by omega, by go_num, by rw [HG1.out, S2.out], by rw [HB1.out, S3.out], by rw [HR1.out, S1.out], by first | trivial | rfl⟩, by simp [intOf]; omega⟩
          · skip
            rw [if_pos rfl] at s1 s2 s3
            have S1 := hidD s1
            have S2 := hidD s2
            have S3 := hidD s3
            clear s1 s2 s3
            go_wp2_with fail
            exact ⟨⟨k + 1, by omega, by go_num, by rw [HG1.out, S2.out], by rw [HB1.out, S3.out], by rw [HR1.out, S1.out], by first | trivial | rfl⟩, by simp [intOf]; omega⟩
        · skip
          have hkn : k = n := by omega
          subst hkn
          rw [HR.out, HG.out, HBD.out] at *
          have HBB := hidD HB.out
          have b0 := X5.out.cell 0 rfl
          have b1 := X5.out.cell 1 rfl
          have b2 := X5.out.cell 2 rfl
          have b3 := X5.out.cell 3 rfl
          have b4 := X5.out.cell 4 rfl
          have b5 := X5.out.cell 5 rfl
          have b6 := X5.out.cell 6 rfl
          clear HB HS X1 X5
          go_wp2_with fail
          go_ret
          exact ⟨by first | rfl | simp [*], HBB.out⟩
  · skip
    have hA := HCB.out hk
    subst hA
    have hk1 : (k != 0) = true := by simp [hk]
    have hk2 : (k == 0) = false := by simp [hk]
    have X5 := hidD (Bo.new v1 [.int .i64 0, .int .i64 0, .int .i64 0, .int .i64 0, .int .i64 0, .int .i64 0, .bool false] 23)
    have L0X1 := hidD X1.out.lt
    replace X1 := hidD (X1.out.alloc (.cells #[.int .i64 0, .int .i64 0, .int .i64 0, .int .i64 0, .int .i64 0, .int .i64 0, .bool false] 23))
    have LTX1C := L0X1
    clear L0X1
    have LC := HS
    replace HB := hidD (HB.out.alloc (by have := HS.out; omega) (.cells #[.int .i64 0, .int .i64 0, .int .i64 0, .int .i64 0, .int .i64 0, .int .i64 0, .bool false] 23))
    replace HS : Hid (N + 1 ≤ (v1.alloc (.cells #[.int .i64 0, .int .i64 0, .int .i64 0, .int .i64 0, .int .i64 0, .int .i64 0, .bool false] 23)).heap.size) := hidD (by rw [World.size_alloc]; have := HS.out; omega)
    go_upto_region 4 with fail
    generalize v1.alloc (.cells #[.int .i64 0, .int .i64 0, .int .i64 0, .int .i64 0, .int .i64 0, .int .i64 0, .bool false] 23) = v2 at *
    generalize v1.heap.size = C at *
    have q0 := X1.out.cell 0 rfl
    have q1 := X1.out.cell 1 rfl
    have q2 := X1.out.cell 2 rfl
    have q3 := X1.out.cell 3 rfl
    have q4 := X1.out.cell 4 rfl
    have q5 := X1.out.cell 5 rfl
    have q6 := X1.out.cell 6 rfl
    have b0 := X5.out.cell 0 rfl
    have b1 := X5.out.cell 1 rfl
    have b2 := X5.out.cell 2 rfl
    have b3 := X5.out.cell 3 rfl
    have b4 := X5.out.cell 4 rfl
    have b5 := X5.out.cell 5 rfl
    have b6 := X5.out.cell 6 rfl
    have HBB := hidD HB.out
    clear HB HS X1 X5
    go_wp2_with (go_at_call 17; refine (num_any _ _).mono ?_; rintro e ww ⟨rfl, rfl⟩)
    go_ret
    exact ⟨by first | rfl | simp [*], HBB.out⟩

set_option maxRecDepth 100000 in
theorem lifted (os : Os) (started : os.Started) (H : Type) (enc : TypeId × Value → H) :
    ReturnsInHanded {} Try.checked os 4 .any (Rows.outlierCountsSpec.pre6 enc Try.prog Try.f4 Rows.outlierCountsRow.domain false) (Rows.outlierCountsSpec.post enc Try.prog Try.f4 false true false false) := by
  refine returnsInHanded_of_change (C := Try.checked) own started (by kernel_rfl) Try.func4
    (ChangeSpec.witness6 (enc := enc) (C := Try.checked) false ⟨#[], #[.agg #[.int .i64 0, .int .i64 0, .int .i64 0, .int .i64 0, .int .i64 0, .int .i64 0, .int .i64 0], .slice none 0 0], []⟩ 8 (by kernel_rfl) (by kernel_rfl) (by kernel_rfl) (by kernel_rfl)) ?_
  intro W base args ds gs before hval0 hW hcnd _
  have hval : ∀ (j : Nat) t v, Try.f4.params[j]? = some t → args[j]? = some v → Value.okWide Try.prog W .any base t v := hval0
  have hW' := hW
  obtain ⟨p, q, hA0, hV, rfl, hfz, hnd⟩ := hW
  have hA : DataW.TrodAll enc Try.prog W 0 (fun _ => true) true Try.f4.params.toList args.toList ds p := hA0
  rw [Try.params4] at hA hval
  obtain ⟨v0, vs0, d0, ds0, p0, q0, hargs, rfl, rfl, h0, r0⟩ := trodAll_cons hA
  obtain ⟨v1, vs1, d1, ds1, p1, q1, rfl, rfl, rfl, h1, r1⟩ := trodAll_cons r0
  obtain ⟨rfl, rfl, rfl⟩ := trodAll_nil r1
  obtain rfl : args = #[v0, v1] := by cases args; simp_all
  obtain ⟨rfl, rfl⟩ := trodVars_none hV
  have k0 := h0
  have lt0 : ∀ x ∈ p0, x.block < W.heap.size := by obtain ⟨m, hm⟩ := k0; exact DataW.trod_lt m _ _ _ hm
  obtain ⟨x0, hv0⟩ := open_oset (hval 0 25 v0 rfl rfl) h0
  subst hv0
  have k1 := h1
  have lt1 : ∀ x ∈ p1, x.block < W.heap.size := by obtain ⟨m, hm⟩ := k1; exact DataW.trod_lt m _ _ _ hm
  obtain ⟨l1, hs1, e1⟩ := open_bools (hval 1 26 v1 rfl rfl) h1
  clear hA0 hval0
  refine (walk x0 v1 l1 hs1).mono fun e W' ⟨he, bel⟩ => ?_
  subst he
  exact ⟨_, rfl, _, _, _, [], _, [], hW', trodAll_mk1 (shut_bool Try.underlying4 _), (trodAll_cons_mk (Below.trod laidOut (by kernel_rfl) (of_decide_eq_true (by kernel_rfl)) k0 bel lt0) (trodAll_cons_mk (Below.trod laidOut (by kernel_rfl) (of_decide_eq_true (by kernel_rfl)) k1 bel lt1) trodAll_mk0)), rfl, bel.frame _, fun h => by cases h⟩

theorem over : Rows.outlierCountsRow.holds Try.pinned (OpenSpec.ofChange Rows.outlierCountsSpec) :=
  OpenClaim.holds_of_wide 4 Try.f4 rfl rfl rfl rfl rfl rfl rfl ⟨rfl, rfl, rfl, rfl, rfl⟩ rfl rfl rfl rfl rfl (by kernel_rfl) Try.func4 (by kernel_rfl)
    (of_decide_eq_true (by kernel_rfl)) (by unfold Func.isWrapper; first | (rw [if_pos (by decide +kernel)]; kernel_rfl) | (rw [if_neg (by decide +kernel)]; exact ⟨rfl, rfl⟩))
    (fun os started H enc _ => lifted os started H enc)
end Go.Proofs.Ytfjcilkllgaimaa.outlierCounts

namespace Go.Proofs.Ytfjcilkllgaimaa
/-- THE STATEMENT. -/
theorem outlierCounts_holds : Rows.OutlierCountsSaid := outlierCounts.over
#print axioms outlierCounts_holds
end Go.Proofs.Ytfjcilkllgaimaa
