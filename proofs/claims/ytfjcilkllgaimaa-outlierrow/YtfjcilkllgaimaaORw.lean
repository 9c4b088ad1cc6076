/- The statement OutlierRow. -/
import Derived.Test.YtfjcilkllgaimaaRows
import Derived.BigQuiet
import Derived.Deep.QuietTactic
import Derived.WalkKit
import Derived.ProofKit
import Derived.OpenShut
import Derived.ShutString
import Derived.Test.YtfjcilkllgaimaaEO
import Derived.Test.YtfjcilkllgaimaaOpen
namespace Go.Proofs.Ytfjcilkllgaimaa.outlierRow
open Go.ChangeShapes Go.WideShapes Go.ChangeAt Go.RowKit
open Go.ChangeMaps (open_string shut_string)
set_option linter.unusedVariables false
set_option maxRecDepth 20000

set_option maxHeartbeats 4000000 in
theorem walk (s : Ou.Se) (v : Value) (l : List Bool) {w : World} (hv : GSeg w v l) (t : Int) (wt : (Lit.int .i64 t).wf = true) :
    Calls Try.prog 6 #[vS s, v, .int .i64 t] w fun e w' => e = .returned (.bool true) ∧ Below w.heap.size w w' := by
  have HV : Hid (∀ W, Below w.heap.size w W → GSeg W v l) := hidD (fun W h => hv.below h)
  have HC := hidD (fun W h => orecord_any Ou.zero s t v l W h)
  have HCN := hidD (fun h => Ou.first (s := s) (t := t) (l := l) h)
  have HSW : Hid (Ou.chk Ou.zero s t = 0 → 1 ≤ s.w ∧ s.w ≤ 1000) := hidD (fun h => ⟨(Ou.sets_iff.1 (Ou.chk_zero h).1).1.1, (Ou.sets_iff.1 (Ou.chk_zero h).1).1.2.1⟩)
  have HCB : Hid (¬ Ou.chk Ou.zero s t = 0 → Ou.recR Ou.zero s t l = ⟨0, 0, 0, 0, 0, 0, false⟩) := hidD (fun h => if_neg h)
  obtain ⟨a, cap, hva, g1, g2, g3, g4⟩ := hv
  obtain ⟨n, hn⟩ : ∃ n, n = l.length := ⟨_, rfl⟩
  rw [← hn] at hva g1
  unfold maxLen at g2
  have HL := hidD hn
  clear hn g3 g4
  subst hva
  generalize Ou.recR Ou.zero s t l = A at *
  generalize Ou.chk Ou.zero s t = k at *
  unfold Ou.zero at HC
  have X1 := hidD (Bo.new w (sL s) 25)
  have HB := hidD ((Below.refl w.heap.size w).alloc (Nat.le_refl _) (.cells (sL s).toArray 25))
  have HS : Hid (w.heap.size + 1 ≤ (w.alloc (.cells (sL s).toArray 25)).heap.size) := hidD (by simp)
  obtain ⟨W0, hW0⟩ : ∃ W0, W0 = w.alloc (.cells (sL s).toArray 25) := ⟨_, rfl⟩
  obtain ⟨N, hN⟩ : ∃ N, N = w.heap.size := ⟨_, rfl⟩
  rw [← hW0] at X1 HB HS
  rw [← hN] at X1 HB HS HV ⊢
  simp only [sL] at hW0
  go_enter Try.func6, Try.ntmps6
  go_wp2_with fail
  rw [← hN, ← hW0]
  clear hN hW0
  with_reducible refine (oalive_any W0).mono ?_
  rintro e v0 ⟨rfl, h⟩
  replace X1 := hidD (X1.out.below h)
  replace HB := hidD (below_on HB.out (by have := HS.out; omega) h)
  replace HS := hidD (Nat.le_trans HS.out h.size)
  clear h
  have q0 := X1.out.cell 0 rfl
  have q1 := X1.out.cell 1 rfl
  have q2 := X1.out.cell 2 rfl
  have q3 := X1.out.cell 3 rfl
  have q4 := X1.out.cell 4 rfl
  have q5 := X1.out.cell 5 rfl
  have q6 := X1.out.cell 6 rfl
  have c := HC.out v0 (HV.out _ HB.out)
  go_wp2_with fail
  with_reducible refine c.mono ?_
  rintro e v1 ⟨rfl, h⟩
  clear c
  clear q0 q1 q2 q3 q4 q5 q6
  replace X1 := hidD (X1.out.below h)
  replace HB := hidD (below_on HB.out (by have := HS.out; omega) h)
  replace HS := hidD (Nat.le_trans HS.out h.size)
  clear h
  by_cases hk : k = 0
  · skip
    subst hk
    by_cases hlen : 10000 < n
    · skip
      have X5 := hidD (Bo.new v1 [.int .i64 A.r, .int .i64 A.g, .int .i64 A.b, .int .i64 A.n, .int .i64 A.s, .int .i64 A.u, .bool A.o] 23)
      have L0X1 := hidD X1.out.lt
      replace X1 := hidD (X1.out.alloc (.cells #[.int .i64 A.r, .int .i64 A.g, .int .i64 A.b, .int .i64 A.n, .int .i64 A.s, .int .i64 A.u, .bool A.o] 23))
      have LTX1C := L0X1
      clear L0X1
      have LC := HS
      replace HB := hidD (HB.out.alloc (by have := HS.out; omega) (.cells #[.int .i64 A.r, .int .i64 A.g, .int .i64 A.b, .int .i64 A.n, .int .i64 A.s, .int .i64 A.u, .bool A.o] 23))
      replace HS : Hid (N + 1 ≤ (v1.alloc (.cells #[.int .i64 A.r, .int .i64 A.g, .int .i64 A.b, .int .i64 A.n, .int .i64 A.s, .int .i64 A.u, .bool A.o] 23)).heap.size) := hidD (by rw [World.size_alloc]; have := HS.out; omega)
      go_upto_region 4 with fail
      generalize v1.alloc (.cells #[.int .i64 A.r, .int .i64 A.g, .int .i64 A.b, .int .i64 A.n, .int .i64 A.s, .int .i64 A.u, .bool A.o] 23) = v2 at *
      generalize v1.heap.size = C at *
      have q0 := X1.out.cell 0 rfl
      have q1 := X1.out.cell 1 rfl
      have q2 := X1.out.cell 2 rfl
      have q3 := X1.out.cell 3 rfl
      have q4 := X1.out.cell 4 rfl
      have q5 := X1.out.cell 5 rfl
      have q6 := X1.out.cell 6 rfl
      have b0 := X5.out.cell 0 rfl
      have b1 := X5.out.cell 1 rfl
      have b2 := X5.out.cell 2 rfl
      have b3 := X5.out.cell 3 rfl
      have b4 := X5.out.cell 4 rfl
      have b5 := X5.out.cell 5 rfl
      have b6 := X5.out.cell 6 rfl
      have hl2 := decide_eq_true hlen
      have HBB := hidD HB.out
      clear HB HS X1 X5
      go_wp2_with (go_at_call 17; refine (num_any _ _).mono ?_; rintro e ww ⟨rfl, rfl⟩)
      go_ret
      exact ⟨by first | rfl | simp [*], HBB.out⟩
    · skip
      obtain ⟨hA, hAo⟩ := HCN.out rfl
      have hsw := HSW.out rfl
      have HST := hidD (fun k => Ou.bads_step hA k)
      have HEN := hidD (fun k hk => Ou.bads_end hA hAo k hk)
      have HZ := hidD (Ou.bads_zero A)
      have hl2 : decide (10000 < n) = false := decide_eq_false hlen
      clear HCN HSW HCB HC hA hAo
      have X5 := hidD (Bo.new v1 [.int .i64 A.r, .int .i64 A.g, .int .i64 A.b, .int .i64 A.n, .int .i64 A.s, .int .i64 A.u, .bool A.o] 23)
      have L0X1 := hidD X1.out.lt
      replace X1 := hidD (X1.out.alloc (.cells #[.int .i64 A.r, .int .i64 A.g, .int .i64 A.b, .int .i64 A.n, .int .i64 A.s, .int .i64 A.u, .bool A.o] 23))
      have LTX1C := L0X1
      clear L0X1
      have LC := HS
      replace HB := hidD (HB.out.alloc (by have := HS.out; omega) (.cells #[.int .i64 A.r, .int .i64 A.g, .int .i64 A.b, .int .i64 A.n, .int .i64 A.s, .int .i64 A.u, .bool A.o] 23))
      replace HS : Hid (N + 1 ≤ (v1.alloc (.cells #[.int .i64 A.r, .int .i64 A.g, .int .i64 A.b, .int .i64 A.n, .int .i64 A.s, .int .i64 A.u, .bool A.o] 23)).heap.size) := hidD (by rw [World.size_alloc]; have := HS.out; omega)
      go_upto_region 4 with fail
      generalize v1.alloc (.cells #[.int .i64 A.r, .int .i64 A.g, .int .i64 A.b, .int .i64 A.n, .int .i64 A.s, .int .i64 A.u, .bool A.o] 23) = v2 at *
      generalize v1.heap.size = C at *
      go_upto_region 6 with (go_at_call 17; refine (num_any _ _).mono ?_; rintro e ww ⟨rfl, rfl⟩)
      go_wp2_with fail
      go_loopw [8, 9] (fun ev i wr => ∃ k : Nat, (k : Int) ≤ s.w ∧ i = .int .i64 k ∧ ev = .int .i64 0 ∧ Hid (Bo wr N (sL s) 25) ∧ Hid (Bo wr C (oL (Ou.bads A k)) 23) ∧ Hid (Below N w wr) ∧ Hid (N + 1 ≤ wr.heap.size)) (fun _ i _ => (s.w - intOf i).toNat)
      case atStart => exact ⟨0, by omega, rfl, rfl, X1, hidD (by rw [HZ.out]; exact X5.out), HB, HS⟩
      case round =>
        clear X1 X5 HB HS
        obtain ⟨k, hk, rfl, rfl, X1, X5, HB, HS⟩ := hrel
        by_cases hlt : (k : Int) < s.w
        · skip
          obtain ⟨e1, e2⟩ := HST.out k
          have HC := hidD (fun W v h => orecord_any (Ou.bads A k) s t v [false] W h)
          rw [e1, e2] at HC
          have hwk : IntKind.i64.wrap ((k : Int) + 1) = (k : Int) + 1 := wrap_ok (by omega) (by omega)
          clear e1 e2
          have HLT := hidD hlt
          generalize hy : Ou.bads A (k + 1) = y at *
          have HY := hidD hy
          clear hy
          generalize Ou.bads A k = x at *
          have hlt2 := decide_eq_true hlt
          have HC2 := hidD (fun W h => HC.out W (.slice (some ⟨wr.heap.size, 0, none⟩) 1 1) h)
          clear HC
          have L0X1 := hidD X1.out.lt
          have MX1 := hidD (X1.out.alloc (.cells #[.bool false] 4))
          have L0X5 := hidD X5.out.lt
          have MX5 := hidD (X5.out.alloc (.cells #[.bool false] 4))
          have MHB := hidD (HB.out.alloc (by have := HS.out; omega) (.cells #[.bool false] 4))
          have MHS : Hid (N + 1 ≤ (wr.alloc (.cells #[.bool false] 4)).heap.size) := hidD (by rw [World.size_alloc]; have := HS.out; omega)
          have c := HC2.out _ (gseg_one wr false 4)
          have q0 := X1.out.cell 0 rfl
          have q1 := X1.out.cell 1 rfl
          have q2 := X1.out.cell 2 rfl
          have q3 := X1.out.cell 3 rfl
          have q4 := X1.out.cell 4 rfl
          have q5 := X1.out.cell 5 rfl
          have q6 := X1.out.cell 6 rfl
          have b0 := X5.out.cell 0 rfl
          have b1 := X5.out.cell 1 rfl
          have b2 := X5.out.cell 2 rfl
          have b3 := X5.out.cell 3 rfl
          have b4 := X5.out.cell 4 rfl
          have b5 := X5.out.cell 5 rfl
          have b6 := X5.out.cell 6 rfl
          go_wp2_with fail
          generalize wr.alloc (.cells #[.bool false] 4) = v3 at *
          generalize wr.heap.size = D at *
          with_reducible refine c.mono ?_
          rintro e v4 ⟨rfl, h⟩
          clear c
          clear q0 q1 q2 q3 q4 q5 q6 b0 b1 b2 b3 b4 b5 b6
          clear L0X1
          replace X1 := MX1
          clear MX1
          clear L0X5
          replace X5 := MX5
          clear MX5
          replace HB := MHB
          replace HS := MHS
          clear MHB MHS
          replace X1 := hidD (X1.out.below h)
          replace X5 := hidD (X5.out.below h)
          replace HB := hidD (below_on HB.out (by have := HS.out; omega) h)
          replace HS := hidD (Nat.le_trans HS.out h.size)
          clear h
          have b0 := X5.out.cell 0 rfl
          have bf0 := X5.out.frozen 0
          have b1 := X5.out.cell 1 rfl
          have bf1 := X5.out.frozen 1
          have b2 := X5.out.cell 2 rfl
          have bf2 := X5.out.frozen 2
          have b3 := X5.out.cell 3 rfl
          have bf3 := X5.out.frozen 3
          have b4 := X5.out.cell 4 rfl
          have bf4 := X5.out.frozen 4
          have b5 := X5.out.cell 5 rfl
          have bf5 := X5.out.frozen 5
          have b6 := X5.out.cell 6 rfl
          have bf6 := X5.out.frozen 6
          have S5 := hidD (put7_bo y X5.out)
          have CG := put7_cg v4 C y
          have S1 := hidD (CG.bo (by have := LTX1C.out; omega) X1.out)
          have SBB := hidD (CG.below (B := N) (by have := LTX1C.out; omega) (by have := HS.out; omega) HB.out)
          have SS := hidD (Nat.le_trans HS.out CG.size)
          clear CG X1 X5 HB HS
          go_wp2_with fail
          have hlt3 := HLT.out
          exact ⟨⟨k + 1, by omega, by go_num, rfl, S1, by rw [HY.out]; exact S5, SBB, SS⟩, by simp [intOf]; omega⟩
        · skip
          have hkn : (k : Int) = s.w := by omega
          obtain ⟨e1, e2, e3⟩ := HEN.out k hkn
          have HR := hidD (fun W => oripe_any (Ou.bads A k) s t W)
          have HC := hidD (fun W v h => orecord_any (Ou.bads A k) s t v [true] W h)
          rw [e1, e2] at HR
          rw [e2] at HC
          clear e1 e2 HST HEN HZ
          have hlt2 := decide_eq_false hlt
          generalize Ou.recR (Ou.bads A k) s t [true] = y at *
          generalize Ou.bads A k = x at *
          obtain ⟨YR, YG, YB, YN, YS, YU, YQ⟩ := y
          dsimp only at e3
          subst e3
          have q0 := X1.out.cell 0 rfl
          have q1 := X1.out.cell 1 rfl
          have q2 := X1.out.cell 2 rfl
          have q3 := X1.out.cell 3 rfl
          have q4 := X1.out.cell 4 rfl
          have q5 := X1.out.cell 5 rfl
          have q6 := X1.out.cell 6 rfl
          have b0 := X5.out.cell 0 rfl
          have b1 := X5.out.cell 1 rfl
          have b2 := X5.out.cell 2 rfl
          have b3 := X5.out.cell 3 rfl
          have b4 := X5.out.cell 4 rfl
          have b5 := X5.out.cell 5 rfl
          have b6 := X5.out.cell 6 rfl
          have c := HR.out wr
          go_wp2_with fail
          with_reducible refine c.mono ?_
          rintro e v3 ⟨rfl, h⟩
          clear c
          clear q0 q1 q2 q3 q4 q5 q6 b0 b1 b2 b3 b4 b5 b6
          replace X1 := hidD (X1.out.below h)
          replace X5 := hidD (X5.out.below h)
          replace HB := hidD (below_on HB.out (by have := HS.out; omega) h)
          replace HS := hidD (Nat.le_trans HS.out h.size)
          clear h
          go_upto_region 11 with fail
          have HC2 := hidD (fun W h => HC.out W (.slice (some ⟨v3.heap.size, 0, none⟩) 1 1) h)
          clear HC
          have L0X1 := hidD X1.out.lt
          have MX1 := hidD (X1.out.alloc (.cells #[.bool true] 4))
          have L0X5 := hidD X5.out.lt
          have MX5 := hidD (X5.out.alloc (.cells #[.bool true] 4))
          have MHB := hidD (HB.out.alloc (by have := HS.out; omega) (.cells #[.bool true] 4))
          have MHS : Hid (N + 1 ≤ (v3.alloc (.cells #[.bool true] 4)).heap.size) := hidD (by rw [World.size_alloc]; have := HS.out; omega)
          have c := HC2.out _ (gseg_one v3 true 4)
          have q0 := X1.out.cell 0 rfl
          have q1 := X1.out.cell 1 rfl
          have q2 := X1.out.cell 2 rfl
          have q3 := X1.out.cell 3 rfl
          have q4 := X1.out.cell 4 rfl
          have q5 := X1.out.cell 5 rfl
          have q6 := X1.out.cell 6 rfl
          have b0 := X5.out.cell 0 rfl
          have b1 := X5.out.cell 1 rfl
          have b2 := X5.out.cell 2 rfl
          have b3 := X5.out.cell 3 rfl
          have b4 := X5.out.cell 4 rfl
          have b5 := X5.out.cell 5 rfl
          have b6 := X5.out.cell 6 rfl
          go_wp2_with fail
          generalize v3.alloc (.cells #[.bool true] 4) = v4 at *
          generalize v3.heap.size = D at *
          with_reducible refine c.mono ?_
          rintro e v5 ⟨rfl, h⟩
          clear c
          clear q0 q1 q2 q3 q4 q5 q6 b0 b1 b2 b3 b4 b5 b6
          clear L0X1
          replace X1 := MX1
          clear MX1
          clear L0X5
          replace X5 := MX5
          clear MX5
          replace HB := MHB
          replace HS := MHS
          clear MHB MHS
          replace X1 := hidD (X1.out.below h)
          replace X5 := hidD (X5.out.below h)
          replace HB := hidD (below_on HB.out (by have := HS.out; omega) h)
          replace HS := hidD (Nat.le_trans HS.out h.size)
          clear h
          have X12 := hidD (Bo.new v5 [.int .i64 0, .int .i64 YG, .int .i64 YB, .int .i64 YN, .int .i64 YS, .int .i64 YU, .bool YQ] 23)
          have L0X1 := hidD X1.out.lt
          replace X1 := hidD (X1.out.alloc (.cells #[.int .i64 0, .int .i64 YG, .int .i64 YB, .int .i64 YN, .int .i64 YS, .int .i64 YU, .bool YQ] 23))
          have L0X5 := hidD X5.out.lt
          replace X5 := hidD (X5.out.alloc (.cells #[.int .i64 0, .int .i64 YG, .int .i64 YB, .int .i64 YN, .int .i64 YS, .int .i64 YU, .bool YQ] 23))
          have LTX1E := L0X1
          clear L0X1
          have LTX5E := L0X5
          clear L0X5
          have LE := HS
          replace HB := hidD (HB.out.alloc (by have := HS.out; omega) (.cells #[.int .i64 0, .int .i64 YG, .int .i64 YB, .int .i64 YN, .int .i64 YS, .int .i64 YU, .bool YQ] 23))
          replace HS : Hid (N + 1 ≤ (v5.alloc (.cells #[.int .i64 0, .int .i64 YG, .int .i64 YB, .int .i64 YN, .int .i64 YS, .int .i64 YU, .bool YQ] 23)).heap.size) := hidD (by rw [World.size_alloc]; have := HS.out; omega)
          go_upto_region 12 with fail
          generalize v5.alloc (.cells #[.int .i64 0, .int .i64 YG, .int .i64 YB, .int .i64 YN, .int .i64 YS, .int .i64 YU, .bool YQ] 23) = v6 at *
          generalize v5.heap.size = E at *
          have d0 := X12.out.cell 0 rfl
          have d1 := X12.out.cell 1 rfl
          have d2 := X12.out.cell 2 rfl
          have d3 := X12.out.cell 3 rfl
          have d4 := X12.out.cell 4 rfl
          have d5 := X12.out.cell 5 rfl
          have d6 := X12.out.cell 6 rfl
          have HBB := hidD HB.out
          clear HB HS X1 X5 X12
          go_wp2_with (go_at_call 17; refine (num_any _ _).mono ?_; rintro e ww ⟨rfl, rfl⟩)
          go_ret
          exact ⟨by first | rfl | simp [*], HBB.out⟩
  · skip
    have hA := HCB.out hk
    subst hA
    have hk1 : (k != 0) = true := by simp [hk]
    have hk2 : (k == 0) = false := by simp [hk]
    have X5 := hidD (Bo.new v1 [.int .i64 0, .int .i64 0, .int .i64 0, .int .i64 0, .int .i64 0, .int .i64 0, .bool false] 23)
    have L0X1 := hidD X1.out.lt
    replace X1 := hidD (X1.out.alloc (.cells #[.int .i64 0, .int .i64 0, .int .i64 0, .int .i64 0, .int .i64 0, .int .i64 0, .bool false] 23))
    have LTX1C := L0X1
    clear L0X1
    have LC := HS
    replace HB := hidD (HB.out.alloc (by have := HS.out; omega) (.cells #[.int .i64 0, .int .i64 0, .int .i64 0, .int .i64 0, .int .i64 0, .int .i64 0, .bool false] 23))
    replace HS : Hid (N + 1 ≤ (v1.alloc (.cells #[.int .i64 0, .int .i64 0, .int .i64 0, .int .i64 0, .int .i64 0, .int .i64 0, .bool false] 23)).heap.size) := hidD (by rw [World.size_alloc]; have := HS.out; omega)
    go_upto_region 4 with fail
    generalize v1.alloc (.cells #[.int .i64 0, .int .i64 0, .int .i64 0, .int .i64 0, .int .i64 0, .int .i64 0, .bool false] 23) = v2 at *
    generalize v1.heap.size = C at *
    have q0 := X1.out.cell 0 rfl
    have q1 := X1.out.cell 1 rfl
    have q2 := X1.out.cell 2 rfl
    have q3 := X1.out.cell 3 rfl
    have q4 := X1.out.cell 4 rfl
    have q5 := X1.out.cell 5 rfl
    have q6 := X1.out.cell 6 rfl
    have b0 := X5.out.cell 0 rfl
    have b1 := X5.out.cell 1 rfl
    have b2 := X5.out.cell 2 rfl
    have b3 := X5.out.cell 3 rfl
    have b4 := X5.out.cell 4 rfl
    have b5 := X5.out.cell 5 rfl
    have b6 := X5.out.cell 6 rfl
    have HBB := hidD HB.out
    clear HB HS X1 X5
    go_wp2_with (go_at_call 17; refine (num_any _ _).mono ?_; rintro e ww ⟨rfl, rfl⟩)
    go_ret
    exact ⟨by first | rfl | simp [*], HBB.out⟩

set_option maxRecDepth 100000 in
theorem lifted (os : Os) (started : os.Started) (H : Type) (enc : TypeId × Value → H) :
    ReturnsInHanded {} Try.checked os 6 .any (Rows.outlierRowSpec.pre6 enc Try.prog Try.f6 Rows.outlierRowRow.domain false) (Rows.outlierRowSpec.post enc Try.prog Try.f6 false true false false) := by
  refine returnsInHanded_of_change (C := Try.checked) own started (by kernel_rfl) Try.func6
    (ChangeSpec.witness6 (enc := enc) (C := Try.checked) false ⟨#[], #[.agg #[.int .i64 0, .int .i64 0, .int .i64 0, .int .i64 0, .int .i64 0, .int .i64 0, .int .i64 0], .slice none 0 0, .int .i64 0], []⟩ 8 (by kernel_rfl) (by kernel_rfl) (by kernel_rfl) (by kernel_rfl)) ?_
  intro W base args ds gs before hval0 hW hcnd _
  have hval : ∀ (j : Nat) t v, Try.f6.params[j]? = some t → args[j]? = some v → Value.okWide Try.prog W .any base t v := hval0
  have hW' := hW
  obtain ⟨p, q, hA0, hV, rfl, hfz, hnd⟩ := hW
  have hA : DataW.TrodAll enc Try.prog W 0 (fun _ => true) true Try.f6.params.toList args.toList ds p := hA0
  rw [Try.params6] at hA hval
  obtain ⟨v0, vs0, d0, ds0, p0, q0, hargs, rfl, rfl, h0, r0⟩ := trodAll_cons hA
  obtain ⟨v1, vs1, d1, ds1, p1, q1, rfl, rfl, rfl, h1, r1⟩ := trodAll_cons r0
  obtain ⟨v2, vs2, d2, ds2, p2, q2, rfl, rfl, rfl, h2, r2⟩ := trodAll_cons r1
  obtain ⟨rfl, rfl, rfl⟩ := trodAll_nil r2
  obtain rfl : args = #[v0, v1, v2] := by cases args; simp_all
  obtain ⟨rfl, rfl⟩ := trodVars_none hV
  have k0 := h0
  have lt0 : ∀ x ∈ p0, x.block < W.heap.size := by obtain ⟨m, hm⟩ := k0; exact DataW.trod_lt m _ _ _ hm
  obtain ⟨x0, hv0⟩ := open_oset (hval 0 25 v0 rfl rfl) h0
  subst hv0
  have k1 := h1
  have lt1 : ∀ x ∈ p1, x.block < W.heap.size := by obtain ⟨m, hm⟩ := k1; exact DataW.trod_lt m _ _ _ hm
  obtain ⟨l1, hs1, e1⟩ := open_bools (hval 1 26 v1 rfl rfl) h1
  obtain ⟨a2, rfl, rfl, rfl, w2⟩ := open_int Try.underlying3 (hval 2 3 v2 rfl rfl) h2
  clear hA0 hval0
  refine (walk x0 v1 l1 hs1 a2 w2).mono fun e W' ⟨he, bel⟩ => ?_
  subst he
  exact ⟨_, rfl, _, _, _, [], _, [], hW', trodAll_mk1 (shut_bool Try.underlying4 _), (trodAll_cons_mk (Below.trod laidOut (by kernel_rfl) (of_decide_eq_true (by kernel_rfl)) k0 bel lt0) (trodAll_cons_mk (Below.trod laidOut (by kernel_rfl) (of_decide_eq_true (by kernel_rfl)) k1 bel lt1) (trodAll_cons_mk (shut_int Try.underlying3 w2) trodAll_mk0))), rfl, bel.frame _, fun h => by cases h⟩

theorem over : Rows.outlierRowRow.holds Try.pinned (OpenSpec.ofChange Rows.outlierRowSpec) :=
  OpenClaim.holds_of_wide 6 Try.f6 rfl rfl rfl rfl rfl rfl rfl ⟨rfl, rfl, rfl, rfl, rfl⟩ rfl rfl rfl rfl rfl (by kernel_rfl) Try.func6 (by kernel_rfl)
    (of_decide_eq_true (by kernel_rfl)) (by unfold Func.isWrapper; first | (rw [if_pos (by decide +kernel)]; kernel_rfl) | (rw [if_neg (by decide +kernel)]; exact ⟨rfl, rfl⟩))
    (fun os started H enc _ => lifted os started H enc)
end Go.Proofs.Ytfjcilkllgaimaa.outlierRow

namespace Go.Proofs.Ytfjcilkllgaimaa
/-- THE STATEMENT. -/
theorem outlierRow_holds : Rows.OutlierRowSaid := outlierRow.over
#print axioms outlierRow_holds
end Go.Proofs.Ytfjcilkllgaimaa
