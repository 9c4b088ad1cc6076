/- The statement OutlierLonger. -/
import Derived.Test.YtfjcilkllgaimaaRows
import Derived.BigQuiet
import Derived.Deep.QuietTactic
import Derived.WalkKit
import Derived.ProofKit
import Derived.OpenShut
import Derived.ShutString
import Derived.Test.YtfjcilkllgaimaaEK
import Derived.Test.YtfjcilkllgaimaaOpen
namespace Go.Proofs.Ytfjcilkllgaimaa.outlierLonger
open Go.ChangeShapes Go.WideShapes Go.ChangeAt Go.RowKit
open Go.ChangeMaps (open_string shut_string)
set_option linter.unusedVariables false
set_option maxRecDepth 20000

set_option maxHeartbeats 4000000 in
theorem walk (s : Ou.Se) (n : Int) (wn : (Lit.int .i64 n).wf = true) {w : World} :
    Calls Try.prog 5 #[vS s, .int .i64 n] w fun e w' => e = .returned (.bool true) ∧ Below w.heap.size w w' := by
  have X1 := hidD (Bo.new w (sL s) 25)
  have HB := hidD ((Below.refl w.heap.size w).alloc (Nat.le_refl _) (.cells (sL s).toArray 25))
  have HS : Hid (w.heap.size + 1 ≤ (w.alloc (.cells (sL s).toArray 25)).heap.size) := hidD (by simp)
  obtain ⟨W0, hW0⟩ : ∃ W0, W0 = w.alloc (.cells (sL s).toArray 25) := ⟨_, rfl⟩
  obtain ⟨N, hN⟩ : ∃ N, N = w.heap.size := ⟨_, rfl⟩
  rw [← hW0] at X1 HB HS
  rw [← hN] at X1 HB HS ⊢
  simp only [sL] at hW0
  go_enter Try.func5, Try.ntmps5
  go_wp2_with fail
  rw [← hN, ← hW0]
  clear hN hW0
  with_reducible refine (oalive_any W0).mono ?_
  rintro e v0 ⟨rfl, h⟩
  replace X1 := hidD (X1.out.below h)
  replace HB := hidD (below_on HB.out (by have := HS.out; omega) h)
  replace HS := hidD (Nat.le_trans HS.out h.size)
  clear h
  have hw1 := Ou.twenty_wraps n
  have HT : Hid (Int.tmod (Int.tmod n 20 + 20) 20 = Ou.twenty n) := hidD rfl
  have HR := hidD (Ou.twenty_range n)
  generalize Ou.twenty n = m at *
  have ht := HT.out
  have ht2 : IntKind.i64.wrap (Int.tmod (Int.tmod n 20 + 20) 20) = m := by rw [ht]; exact wrap_ok (by have := HR.out; omega) (by have := HR.out; omega)
  have ht3 : IntKind.i64.wrap (Int.tmod n 20) = Int.tmod n 20 := by
    have h1 := Int.tmod_lt_of_pos n (show (0 : Int) < 20 by decide)
    have h2 := Int.lt_tmod_of_pos n (show (0 : Int) < 20 by decide)
    exact wrap_ok (by omega) (by omega)
  have X5 := hidD (Bo.new v0 [.int .i64 0, .int .i64 0, .int .i64 0, .int .i64 0, .int .i64 0, .int .i64 0, .bool false] 23)
  have L0X1 := hidD X1.out.lt
  replace X1 := hidD (X1.out.alloc (.cells #[.int .i64 0, .int .i64 0, .int .i64 0, .int .i64 0, .int .i64 0, .int .i64 0, .bool false] 23))
  have LTX1C := L0X1
  clear L0X1
  have LC := HS
  replace HB := hidD (HB.out.alloc (by have := HS.out; omega) (.cells #[.int .i64 0, .int .i64 0, .int .i64 0, .int .i64 0, .int .i64 0, .int .i64 0, .bool false] 23))
  replace HS : Hid (N + 1 ≤ (v0.alloc (.cells #[.int .i64 0, .int .i64 0, .int .i64 0, .int .i64 0, .int .i64 0, .int .i64 0, .bool false] 23)).heap.size) := hidD (by rw [World.size_alloc]; have := HS.out; omega)
  go_upto_region 5 with fail
  generalize v0.alloc (.cells #[.int .i64 0, .int .i64 0, .int .i64 0, .int .i64 0, .int .i64 0, .int .i64 0, .bool false] 23) = v1 at *
  generalize v0.heap.size = C at *
  clear ht ht2 ht3 hw1 HT
  go_wp2_with fail
  by_cases hs : Ou.sets s = true
  · skip
    have HLO := hidD (fun k hk => Ou.longer (s := s) hs k hk)
    go_loopw [6, 7, 8] (fun la tk i wr => ∃ k : Nat, (k : Int) ≤ m ∧ i = .int .i64 k ∧ la = .int .i64 (Ou.lg s k) ∧ tk = .int .i64 (Ou.tk s k) ∧ Hid (Bo wr N (sL s) 25) ∧ Hid (Bo wr C (oL (Ou.ok s k)) 23) ∧ Hid (Below N w wr) ∧ Hid (N + 1 ≤ wr.heap.size)) (fun _ _ i _ => (m - intOf i).toNat)
    case atStart => exact ⟨0, by have := HR.out; omega, rfl, rfl, rfl, X1, X5, HB, HS⟩
    case round =>
      clear X1 X5 HB HS
      obtain ⟨k, hk, rfl, rfl, rfl, X1, X5, HB, HS⟩ := hrel
      by_cases hlt : (k : Int) < m
      · skip
        have hlong := HLO.out k (by have := HR.out; omega)
        have HOK : Hid (Ou.ok s (k + 1) = ⟨0, 0, 0, (k : Int) + 1, Ou.tk s k, Ou.tk s (k + 1), false⟩) := hidD rfl
        obtain ⟨⟨e1, e2⟩, ⟨e3, e4⟩, ⟨e5, e6⟩, ⟨w1, w2⟩, l1, l2, l3⟩ := hlong
        have c1 := hidD (fun W => oeject_any (Ou.ok s k) s (Ou.tk s k) W)
        have c2 := hidD (fun W => otick_any ⟨0, 0, 0, (k : Int) + 1, Ou.tk s k, Ou.tk s (k + 1), true⟩ s (Ou.tk s (k + 1) - 1) W)
        have c3 := hidD (fun W => otick_any ⟨0, 0, 0, (k : Int) + 1, Ou.tk s k, Ou.tk s (k + 1), true⟩ s (Ou.tk s (k + 1)) W)
        rw [e1, e2] at c1
        rw [e3, e4] at c2
        rw [e5, e6] at c3
        clear e1 e2 e3 e4 e5 e6
        generalize hlg1 : Ou.lg s (k + 1) = lg1 at *
        generalize hlg0 : Ou.lg s k = lg0 at *
        generalize htk1 : Ou.tk s (k + 1) = t1 at *
        generalize htk0 : Ou.tk s k = t0 at *
        generalize Ou.ok s k = b at *
        generalize hkk : (k : Int) + 1 = kk at *
        have Hlg1 := hidD hlg1
        have Htk1 := hidD htk1
        have Hkk := hidD hkk
        have HLT := hidD hlt
        have hwk : IntKind.i64.wrap ((k : Int) + 1) = (k : Int) + 1 := wrap_ok (by have := HR.out; omega) (by have := HR.out; omega)
        have HK := hidD hk
        clear hlg1 hlg0 htk1 htk0 hkk hk
        obtain ⟨SW, SM, SL, SB, SX, SP, SC⟩ := s
        dsimp only at *
        have hlt2 := decide_eq_true hlt
        have q0 := X1.out.cell 0 rfl
        have q1 := X1.out.cell 1 rfl
        have q2 := X1.out.cell 2 rfl
        have q3 := X1.out.cell 3 rfl
        have q4 := X1.out.cell 4 rfl
        have q5 := X1.out.cell 5 rfl
        have q6 := X1.out.cell 6 rfl
        have b0 := X5.out.cell 0 rfl
        have b1 := X5.out.cell 1 rfl
        have b2 := X5.out.cell 2 rfl
        have b3 := X5.out.cell 3 rfl
        have b4 := X5.out.cell 4 rfl
        have b5 := X5.out.cell 5 rfl
        have b6 := X5.out.cell 6 rfl
        have c := c1.out wr
        go_wp2_with fail
        with_reducible refine c.mono ?_
        rintro e v2 ⟨rfl, h⟩
        clear c
        clear q0 q1 q2 q3 q4 q5 q6 b0 b1 b2 b3 b4 b5 b6
        replace X1 := hidD (X1.out.below h)
        replace X5 := hidD (X5.out.below h)
        replace HB := hidD (below_on HB.out (by have := HS.out; omega) h)
        replace HS := hidD (Nat.le_trans HS.out h.size)
        clear h
        have X9 := hidD (Bo.new v2 [.int .i64 0, .int .i64 0, .int .i64 0, .int .i64 kk, .int .i64 t0, .int .i64 t1, .bool true] 23)
        have L0X1 := hidD X1.out.lt
        replace X1 := hidD (X1.out.alloc (.cells #[.int .i64 0, .int .i64 0, .int .i64 0, .int .i64 kk, .int .i64 t0, .int .i64 t1, .bool true] 23))
        have L0X5 := hidD X5.out.lt
        replace X5 := hidD (X5.out.alloc (.cells #[.int .i64 0, .int .i64 0, .int .i64 0, .int .i64 kk, .int .i64 t0, .int .i64 t1, .bool true] 23))
        have LTX1A := L0X1
        clear L0X1
        have LTX5A := L0X5
        clear L0X5
        have LA := HS
        replace HB := hidD (HB.out.alloc (by have := HS.out; omega) (.cells #[.int .i64 0, .int .i64 0, .int .i64 0, .int .i64 kk, .int .i64 t0, .int .i64 t1, .bool true] 23))
        replace HS : Hid (N + 1 ≤ (v2.alloc (.cells #[.int .i64 0, .int .i64 0, .int .i64 0, .int .i64 kk, .int .i64 t0, .int .i64 t1, .bool true] 23)).heap.size) := hidD (by rw [World.size_alloc]; have := HS.out; omega)
        go_upto_region 10 with fail
        generalize v2.alloc (.cells #[.int .i64 0, .int .i64 0, .int .i64 0, .int .i64 kk, .int .i64 t0, .int .i64 t1, .bool true] 23) = v3 at *
        generalize v2.heap.size = A at *
        have q0 := X1.out.cell 0 rfl
        have q1 := X1.out.cell 1 rfl
        have q2 := X1.out.cell 2 rfl
        have q3 := X1.out.cell 3 rfl
        have q4 := X1.out.cell 4 rfl
        have q5 := X1.out.cell 5 rfl
        have q6 := X1.out.cell 6 rfl
        have d0 := X9.out.cell 0 rfl
        have d1 := X9.out.cell 1 rfl
        have d2 := X9.out.cell 2 rfl
        have d3 := X9.out.cell 3 rfl
        have d4 := X9.out.cell 4 rfl
        have d5 := X9.out.cell 5 rfl
        have d6 := X9.out.cell 6 rfl
        have c := c2.out v3
        go_wp2_with (go_at_call 17; refine (num_any _ _).mono ?_; rintro e ww ⟨rfl, rfl⟩)
        with_reducible refine c.mono ?_
        rintro e v4 ⟨rfl, h⟩
        clear c
        clear q0 q1 q2 q3 q4 q5 q6 d0 d1 d2 d3 d4 d5 d6
        replace X1 := hidD (X1.out.below h)
        replace X5 := hidD (X5.out.below h)
        replace X9 := hidD (X9.out.below h)
        replace HB := hidD (below_on HB.out (by have := HS.out; omega) h)
        replace HS := hidD (Nat.le_trans HS.out h.size)
        clear h
        have X12 := hidD (Bo.new v4 [.int .i64 0, .int .i64 0, .int .i64 0, .int .i64 kk, .int .i64 t0, .int .i64 t1, .bool true] 23)
        have L0X1 := hidD X1.out.lt
        replace X1 := hidD (X1.out.alloc (.cells #[.int .i64 0, .int .i64 0, .int .i64 0, .int .i64 kk, .int .i64 t0, .int .i64 t1, .bool true] 23))
        have L0X5 := hidD X5.out.lt
        replace X5 := hidD (X5.out.alloc (.cells #[.int .i64 0, .int .i64 0, .int .i64 0, .int .i64 kk, .int .i64 t0, .int .i64 t1, .bool true] 23))
        have L0X9 := hidD X9.out.lt
        replace X9 := hidD (X9.out.alloc (.cells #[.int .i64 0, .int .i64 0, .int .i64 0, .int .i64 kk, .int .i64 t0, .int .i64 t1, .bool true] 23))
        have LTX1A2 := L0X1
        clear L0X1
        have LTX5A2 := L0X5
        clear L0X5
        have LTX9A2 := L0X9
        clear L0X9
        have LA2 := HS
        replace HB := hidD (HB.out.alloc (by have := HS.out; omega) (.cells #[.int .i64 0, .int .i64 0, .int .i64 0, .int .i64 kk, .int .i64 t0, .int .i64 t1, .bool true] 23))
        replace HS : Hid (N + 1 ≤ (v4.alloc (.cells #[.int .i64 0, .int .i64 0, .int .i64 0, .int .i64 kk, .int .i64 t0, .int .i64 t1, .bool true] 23)).heap.size) := hidD (by rw [World.size_alloc]; have := HS.out; omega)
        go_upto_region 14 with fail
        generalize v4.alloc (.cells #[.int .i64 0, .int .i64 0, .int .i64 0, .int .i64 kk, .int .i64 t0, .int .i64 t1, .bool true] 23) = v5 at *
        generalize v4.heap.size = A2 at *
        have q0 := X1.out.cell 0 rfl
        have q1 := X1.out.cell 1 rfl
        have q2 := X1.out.cell 2 rfl
        have q3 := X1.out.cell 3 rfl
        have q4 := X1.out.cell 4 rfl
        have q5 := X1.out.cell 5 rfl
        have q6 := X1.out.cell 6 rfl
        have d0 := X9.out.cell 0 rfl
        have d1 := X9.out.cell 1 rfl
        have d2 := X9.out.cell 2 rfl
        have d3 := X9.out.cell 3 rfl
        have d4 := X9.out.cell 4 rfl
        have d5 := X9.out.cell 5 rfl
        have d6 := X9.out.cell 6 rfl
        have c := c3.out v5
        go_wp2_with fail
        with_reducible refine c.mono ?_
        rintro e v6 ⟨rfl, h⟩
        clear c
        clear q0 q1 q2 q3 q4 q5 q6 d0 d1 d2 d3 d4 d5 d6
        replace X1 := hidD (X1.out.below h)
        replace X5 := hidD (X5.out.below h)
        replace X9 := hidD (X9.out.below h)
        replace X12 := hidD (X12.out.below h)
        replace HB := hidD (below_on HB.out (by have := HS.out; omega) h)
        replace HS := hidD (Nat.le_trans HS.out h.size)
        clear h
        have X14 := hidD (Bo.new v6 [.int .i64 0, .int .i64 0, .int .i64 0, .int .i64 kk, .int .i64 t0, .int .i64 t1, .bool false] 23)
        have L0X1 := hidD X1.out.lt
        replace X1 := hidD (X1.out.alloc (.cells #[.int .i64 0, .int .i64 0, .int .i64 0, .int .i64 kk, .int .i64 t0, .int .i64 t1, .bool false] 23))
        have L0X5 := hidD X5.out.lt
        replace X5 := hidD (X5.out.alloc (.cells #[.int .i64 0, .int .i64 0, .int .i64 0, .int .i64 kk, .int .i64 t0, .int .i64 t1, .bool false] 23))
        have L0X9 := hidD X9.out.lt
        replace X9 := hidD (X9.out.alloc (.cells #[.int .i64 0, .int .i64 0, .int .i64 0, .int .i64 kk, .int .i64 t0, .int .i64 t1, .bool false] 23))
        have L0X12 := hidD X12.out.lt
        replace X12 := hidD (X12.out.alloc (.cells #[.int .i64 0, .int .i64 0, .int .i64 0, .int .i64 kk, .int .i64 t0, .int .i64 t1, .bool false] 23))
        have LTX1A3 := L0X1
        clear L0X1
        have LTX5A3 := L0X5
        clear L0X5
        have LTX9A3 := L0X9
        clear L0X9
        have LTX12A3 := L0X12
        clear L0X12
        have LA3 := HS
        replace HB := hidD (HB.out.alloc (by have := HS.out; omega) (.cells #[.int .i64 0, .int .i64 0, .int .i64 0, .int .i64 kk, .int .i64 t0, .int .i64 t1, .bool false] 23))
        replace HS : Hid (N + 1 ≤ (v6.alloc (.cells #[.int .i64 0, .int .i64 0, .int .i64 0, .int .i64 kk, .int .i64 t0, .int .i64 t1, .bool false] 23)).heap.size) := hidD (by rw [World.size_alloc]; have := HS.out; omega)
        go_upto_region 15 with fail
        generalize v6.alloc (.cells #[.int .i64 0, .int .i64 0, .int .i64 0, .int .i64 kk, .int .i64 t0, .int .i64 t1, .bool false] 23) = v7 at *
        generalize v6.heap.size = A3 at *
        have q0 := X1.out.cell 0 rfl
        have q1 := X1.out.cell 1 rfl
        have q2 := X1.out.cell 2 rfl
        have q3 := X1.out.cell 3 rfl
        have q4 := X1.out.cell 4 rfl
        have q5 := X1.out.cell 5 rfl
        have q6 := X1.out.cell 6 rfl
        have d0 := X9.out.cell 0 rfl
        have d1 := X9.out.cell 1 rfl
        have d2 := X9.out.cell 2 rfl
        have d3 := X9.out.cell 3 rfl
        have d4 := X9.out.cell 4 rfl
        have d5 := X9.out.cell 5 rfl
        have d6 := X9.out.cell 6 rfl
        have f0 := X12.out.cell 0 rfl
        have f1 := X12.out.cell 1 rfl
        have f2 := X12.out.cell 2 rfl
        have f3 := X12.out.cell 3 rfl
        have f4 := X12.out.cell 4 rfl
        have f5 := X12.out.cell 5 rfl
        have f6 := X12.out.cell 6 rfl
        have g0 := X14.out.cell 0 rfl
        have g1 := X14.out.cell 1 rfl
        have g2 := X14.out.cell 2 rfl
        have g3 := X14.out.cell 3 rfl
        have g4 := X14.out.cell 4 rfl
        have g5 := X14.out.cell 5 rfl
        have g6 := X14.out.cell 6 rfl
        have n1 : ¬ lg1 < lg0 := by omega
        have n1' := decide_eq_false n1
        have n3 : ¬ SX < lg1 := by omega
        have n3' := decide_eq_false n3
        have n4 : (lg1 < SX && lg1 == lg0) = false := by
          by_cases h : lg1 < SX
          · have := l2 h
            simp [this]
          · simp [h]
        have n5 : lg1 < SX → (lg1 == lg0) = false := fun h => by simp [l2 h]
        have n6 := lg1 < SX
        by_cases hlx : lg1 < SX
        · skip
          have hlx2 := decide_eq_true hlx
          have n7 := n5 hlx
          clear n4 n5 n6 l1 l2 l3
          go_upto_region 17 with (go_at_call 17; refine (num_any _ _).mono ?_; rintro e ww ⟨rfl, rfl⟩)
          have b0 := X5.out.cell 0 rfl
          have bf0 := X5.out.frozen 0
          have b1 := X5.out.cell 1 rfl
          have bf1 := X5.out.frozen 1
          have b2 := X5.out.cell 2 rfl
          have bf2 := X5.out.frozen 2
          have b3 := X5.out.cell 3 rfl
          have bf3 := X5.out.frozen 3
          have b4 := X5.out.cell 4 rfl
          have bf4 := X5.out.frozen 4
          have b5 := X5.out.cell 5 rfl
          have bf5 := X5.out.frozen 5
          have b6 := X5.out.cell 6 rfl
          have bf6 := X5.out.frozen 6
          have hAC : Hid (C < A3) := hidD (by have := LTX5A3.out; omega)
          have S5 := hidD (put7_bo ⟨0, 0, 0, kk, t0, t1, false⟩ X5.out).drew
          have CG : Cg C v7 (put7 v7 C ⟨0, 0, 0, kk, t0, t1, false⟩).drew := (put7_cg v7 C ⟨0, 0, 0, kk, t0, t1, false⟩).trans (Cg.drewN _ 1)
          have S1 := hidD (CG.bo (by have := LTX1C.out; omega) X1.out)
          have SBB := hidD (CG.below (B := N) (by have := LTX1C.out; omega) (by have := HS.out; omega) HB.out)
          have SS := hidD (Nat.le_trans HS.out CG.size)
          have hA3 : Hid (A3 ≠ C) := hidD (by have := hAC.out; omega)
          have hA1 : Hid (A ≠ C) := hidD (by have := LTX5A.out; omega)
          have hA3' := hA3.out
          have hA1' := hA1.out
          have hA3s := hA3'.symm
          have hA1s := hA1'.symm
          clear CG X1 X5 X9 X12 X14 HB HS
          go_region_held (fun w' => w'.cell? ⟨A3, 0, none⟩ = some (.int .i64 0) ∧ w'.cell? ⟨A3, 1, none⟩ = some (.int .i64 0) ∧ w'.cell? ⟨A3, 2, none⟩ = some (.int .i64 0) ∧ w'.cell? ⟨A3, 3, none⟩ = some (.int .i64 kk) ∧ w'.cell? ⟨A3, 4, none⟩ = some (.int .i64 t0) ∧ w'.cell? ⟨A3, 5, none⟩ = some (.int .i64 t1) ∧ w'.cell? ⟨A3, 6, none⟩ = some (.bool false) ∧ w'.cell? ⟨A, 5, none⟩ = some (.int .i64 t1)) (go_keep) (fail)
          all_goals
            go_wp2_with fail
            have hr2 := HR.out
            have hlt3 := HLT.out
            exact ⟨⟨k + 1, by omega, by go_num, by rw [Hlg1.out], by rw [Htk1.out], S1, by rw [HOK.out]; exact S5, SBB, SS⟩, by simp [intOf]; omega⟩
        · skip
          have hlx2 := decide_eq_false hlx
          clear n4 n5 n6 l1 l2 l3
          go_upto_region 17 with (go_at_call 17; refine (num_any _ _).mono ?_; rintro e ww ⟨rfl, rfl⟩)
          have b0 := X5.out.cell 0 rfl
          have bf0 := X5.out.frozen 0
          have b1 := X5.out.cell 1 rfl
          have bf1 := X5.out.frozen 1
          have b2 := X5.out.cell 2 rfl
          have bf2 := X5.out.frozen 2
          have b3 := X5.out.cell 3 rfl
          have bf3 := X5.out.frozen 3
          have b4 := X5.out.cell 4 rfl
          have bf4 := X5.out.frozen 4
          have b5 := X5.out.cell 5 rfl
          have bf5 := X5.out.frozen 5
          have b6 := X5.out.cell 6 rfl
          have bf6 := X5.out.frozen 6
          have hAC : Hid (C < A3) := hidD (by have := LTX5A3.out; omega)
          have S5 := hidD (put7_bo ⟨0, 0, 0, kk, t0, t1, false⟩ X5.out).drew
          have CG : Cg C v7 (put7 v7 C ⟨0, 0, 0, kk, t0, t1, false⟩).drew := (put7_cg v7 C ⟨0, 0, 0, kk, t0, t1, false⟩).trans (Cg.drewN _ 1)
          have S1 := hidD (CG.bo (by have := LTX1C.out; omega) X1.out)
          have SBB := hidD (CG.below (B := N) (by have := LTX1C.out; omega) (by have := HS.out; omega) HB.out)
          have SS := hidD (Nat.le_trans HS.out CG.size)
          have hA3 : Hid (A3 ≠ C) := hidD (by have := hAC.out; omega)
          have hA1 : Hid (A ≠ C) := hidD (by have := LTX5A.out; omega)
          have hA3' := hA3.out
          have hA1' := hA1.out
          have hA3s := hA3'.symm
          have hA1s := hA1'.symm
          clear CG X1 X5 X9 X12 X14 HB HS
          go_region_held (fun w' => w'.cell? ⟨A3, 0, none⟩ = some (.int .i64 0) ∧ w'.cell? ⟨A3, 1, none⟩ = some (.int .i64 0) ∧ w'.cell? ⟨A3, 2, none⟩ = some (.int .i64 0) ∧ w'.cell? ⟨A3, 3, none⟩ = some (.int .i64 kk) ∧ w'.cell? ⟨A3, 4, none⟩ = some (.int .i64 t0) ∧ w'.cell? ⟨A3, 5, none⟩ = some (.int .i64 t1) ∧ w'.cell? ⟨A3, 6, none⟩ = some (.bool false) ∧ w'.cell? ⟨A, 5, none⟩ = some (.int .i64 t1)) (go_keep) (fail)
          all_goals
            go_wp2_with fail
            have hr2 := HR.out
            have hlt3 := HLT.out
            exact ⟨⟨k + 1, by omega, by go_num, by rw [Hlg1.out], by rw [Htk1.out], S1, by rw [HOK.out]; exact S5, SBB, SS⟩, by simp [intOf]; omega⟩
      · skip
        have hlt2 := decide_eq_false hlt
        have HBB := hidD HB.out
        clear HB HS X1 X5 HLO
        go_wp2
        go_ret
        exact ⟨rfl, HBB.out⟩
  · skip
    have e1 : Ou.ejR ⟨0, 0, 0, 0, 0, 0, false⟩ s 0 = ⟨0, 0, 0, 0, 0, 0, false⟩ := if_neg (fun e => by rw [Ou.bad_chk hs] at e; exact absurd e.1 (by decide))
    have e2 : Ou.ejE ⟨0, 0, 0, 0, 0, 0, false⟩ s 0 = 4 := by unfold Ou.ejE; rw [Ou.bad_chk hs]; rfl
    have e3 : Ou.chk ⟨0, 0, 0, 0, 0, 0, false⟩ s 0 = 4 := Ou.bad_chk hs
    have c1 := hidD (fun W => oeject_any ⟨0, 0, 0, 0, 0, 0, false⟩ s 0 W)
    have c2 := hidD (fun W => rcheck_any ⟨0, 0, 0, 0, 0, 0, false⟩ s 0 W)
    rw [e1, e2] at c1
    rw [e3] at c2
    clear e1 e2 e3 hs
    go_loopw [6, 7, 8] (fun la tk i wr => i = .int .i64 0 ∧ la = .int .i64 0 ∧ tk = .int .i64 0 ∧ Hid (Bo wr N (sL s) 25) ∧ Hid (Bo wr C (oL Ou.zero) 23) ∧ Hid (Below N w wr) ∧ Hid (N + 1 ≤ wr.heap.size)) (fun _ _ i _ => (m - intOf i).toNat)
    case atStart => exact ⟨rfl, rfl, rfl, X1, X5, HB, HS⟩
    case round =>
      clear X1 X5 HB HS
      obtain ⟨rfl, rfl, rfl, X1, X5, HB, HS⟩ := hrel
      unfold Ou.zero at X5
      by_cases hlt : 0 < m
      · skip
        have hlt2 := decide_eq_true hlt
        have q0 := X1.out.cell 0 rfl
        have q1 := X1.out.cell 1 rfl
        have q2 := X1.out.cell 2 rfl
        have q3 := X1.out.cell 3 rfl
        have q4 := X1.out.cell 4 rfl
        have q5 := X1.out.cell 5 rfl
        have q6 := X1.out.cell 6 rfl
        have b0 := X5.out.cell 0 rfl
        have b1 := X5.out.cell 1 rfl
        have b2 := X5.out.cell 2 rfl
        have b3 := X5.out.cell 3 rfl
        have b4 := X5.out.cell 4 rfl
        have b5 := X5.out.cell 5 rfl
        have b6 := X5.out.cell 6 rfl
        have c := c1.out wr
        go_wp2_with fail
        with_reducible refine c.mono ?_
        rintro e v2 ⟨rfl, h⟩
        clear c
        clear q0 q1 q2 q3 q4 q5 q6 b0 b1 b2 b3 b4 b5 b6
        replace X1 := hidD (X1.out.below h)
        replace X5 := hidD (X5.out.below h)
        replace HB := hidD (below_on HB.out (by have := HS.out; omega) h)
        replace HS := hidD (Nat.le_trans HS.out h.size)
        clear h
        have X9 := hidD (Bo.new v2 [.int .i64 0, .int .i64 0, .int .i64 0, .int .i64 0, .int .i64 0, .int .i64 0, .bool false] 23)
        have L0X1 := hidD X1.out.lt
        replace X1 := hidD (X1.out.alloc (.cells #[.int .i64 0, .int .i64 0, .int .i64 0, .int .i64 0, .int .i64 0, .int .i64 0, .bool false] 23))
        have L0X5 := hidD X5.out.lt
        replace X5 := hidD (X5.out.alloc (.cells #[.int .i64 0, .int .i64 0, .int .i64 0, .int .i64 0, .int .i64 0, .int .i64 0, .bool false] 23))
        have LTX1A := L0X1
        clear L0X1
        have LTX5A := L0X5
        clear L0X5
        have LA := HS
        replace HB := hidD (HB.out.alloc (by have := HS.out; omega) (.cells #[.int .i64 0, .int .i64 0, .int .i64 0, .int .i64 0, .int .i64 0, .int .i64 0, .bool false] 23))
        replace HS : Hid (N + 1 ≤ (v2.alloc (.cells #[.int .i64 0, .int .i64 0, .int .i64 0, .int .i64 0, .int .i64 0, .int .i64 0, .bool false] 23)).heap.size) := hidD (by rw [World.size_alloc]; have := HS.out; omega)
        go_upto_region 10 with fail
        generalize v2.alloc (.cells #[.int .i64 0, .int .i64 0, .int .i64 0, .int .i64 0, .int .i64 0, .int .i64 0, .bool false] 23) = v3 at *
        generalize v2.heap.size = A at *
        have q0 := X1.out.cell 0 rfl
        have q1 := X1.out.cell 1 rfl
        have q2 := X1.out.cell 2 rfl
        have q3 := X1.out.cell 3 rfl
        have q4 := X1.out.cell 4 rfl
        have q5 := X1.out.cell 5 rfl
        have q6 := X1.out.cell 6 rfl
        have b0 := X5.out.cell 0 rfl
        have b1 := X5.out.cell 1 rfl
        have b2 := X5.out.cell 2 rfl
        have b3 := X5.out.cell 3 rfl
        have b4 := X5.out.cell 4 rfl
        have b5 := X5.out.cell 5 rfl
        have b6 := X5.out.cell 6 rfl
        have d0 := X9.out.cell 0 rfl
        have d1 := X9.out.cell 1 rfl
        have d2 := X9.out.cell 2 rfl
        have d3 := X9.out.cell 3 rfl
        have d4 := X9.out.cell 4 rfl
        have d5 := X9.out.cell 5 rfl
        have d6 := X9.out.cell 6 rfl
        have c := c2.out v3
        go_wp2_with (go_at_call 17; refine (num_any _ _).mono ?_; rintro e ww ⟨rfl, rfl⟩)
        with_reducible refine c.mono ?_
        rintro e v4 ⟨rfl, h⟩
        clear c
        clear q0 q1 q2 q3 q4 q5 q6 b0 b1 b2 b3 b4 b5 b6 d0 d1 d2 d3 d4 d5 d6
        replace X1 := hidD (X1.out.below h)
        replace X5 := hidD (X5.out.below h)
        replace X9 := hidD (X9.out.below h)
        replace HB := hidD (below_on HB.out (by have := HS.out; omega) h)
        replace HS := hidD (Nat.le_trans HS.out h.size)
        clear h
        have HBB := hidD HB.out
        clear HB HS X1 X5
        go_wp2_with fail
        go_ret
        exact ⟨by first | rfl | simp, HBB.out⟩
      · skip
        have hlt2 := decide_eq_false hlt
        have HBB := hidD HB.out
        clear HB HS X1 X5
        go_wp2
        go_ret
        exact ⟨rfl, HBB.out⟩

set_option maxRecDepth 100000 in
theorem lifted (os : Os) (started : os.Started) (H : Type) (enc : TypeId × Value → H) :
    ReturnsInHanded {} Try.checked os 5 .any (Rows.outlierLongerSpec.pre6 enc Try.prog Try.f5 Rows.outlierLongerRow.domain false) (Rows.outlierLongerSpec.post enc Try.prog Try.f5 false true false false) := by
  refine returnsInHanded_of_change (C := Try.checked) own started (by kernel_rfl) Try.func5
    (ChangeSpec.witness6 (enc := enc) (C := Try.checked) false ⟨#[], #[.agg #[.int .i64 0, .int .i64 0, .int .i64 0, .int .i64 0, .int .i64 0, .int .i64 0, .int .i64 0], .int .i64 0], []⟩ 8 (by kernel_rfl) (by kernel_rfl) (by kernel_rfl) (by kernel_rfl)) ?_
  intro W base args ds gs before hval0 hW hcnd _
  have hval : ∀ (j : Nat) t v, Try.f5.params[j]? = some t → args[j]? = some v → Value.okWide Try.prog W .any base t v := hval0
  have hW' := hW
  obtain ⟨p, q, hA0, hV, rfl, hfz, hnd⟩ := hW
  have hA : DataW.TrodAll enc Try.prog W 0 (fun _ => true) true Try.f5.params.toList args.toList ds p := hA0
  rw [Try.params5] at hA hval
  obtain ⟨v0, vs0, d0, ds0, p0, q0, hargs, rfl, rfl, h0, r0⟩ := trodAll_cons hA
  obtain ⟨v1, vs1, d1, ds1, p1, q1, rfl, rfl, rfl, h1, r1⟩ := trodAll_cons r0
  obtain ⟨rfl, rfl, rfl⟩ := trodAll_nil r1
  obtain rfl : args = #[v0, v1] := by cases args; simp_all
  obtain ⟨rfl, rfl⟩ := trodVars_none hV
  have k0 := h0
  have lt0 : ∀ x ∈ p0, x.block < W.heap.size := by obtain ⟨m, hm⟩ := k0; exact DataW.trod_lt m _ _ _ hm
  obtain ⟨x0, hv0⟩ := open_oset (hval 0 25 v0 rfl rfl) h0
  subst hv0
  obtain ⟨a1, rfl, rfl, rfl, w1⟩ := open_int Try.underlying3 (hval 1 3 v1 rfl rfl) h1
  clear hA0 hval0
  refine (walk x0 a1 w1).mono fun e W' ⟨he, bel⟩ => ?_
  subst he
  exact ⟨_, rfl, _, _, _, [], _, [], hW', trodAll_mk1 (shut_bool Try.underlying4 _), (trodAll_cons_mk (Below.trod laidOut (by kernel_rfl) (of_decide_eq_true (by kernel_rfl)) k0 bel lt0) (trodAll_cons_mk (shut_int Try.underlying3 w1) trodAll_mk0)), rfl, bel.frame _, fun h => by cases h⟩

theorem over : Rows.outlierLongerRow.holds Try.pinned (OpenSpec.ofChange Rows.outlierLongerSpec) :=
  OpenClaim.holds_of_wide 5 Try.f5 rfl rfl rfl rfl rfl rfl rfl ⟨rfl, rfl, rfl, rfl, rfl⟩ rfl rfl rfl rfl rfl (by kernel_rfl) Try.func5 (by kernel_rfl)
    (of_decide_eq_true (by kernel_rfl)) (by unfold Func.isWrapper; first | (rw [if_pos (by decide +kernel)]; kernel_rfl) | (rw [if_neg (by decide +kernel)]; exact ⟨rfl, rfl⟩))
    (fun os started H enc _ => lifted os started H enc)
end Go.Proofs.Ytfjcilkllgaimaa.outlierLonger

namespace Go.Proofs.Ytfjcilkllgaimaa
/-- THE STATEMENT. -/
theorem outlierLonger_holds : Rows.OutlierLongerSaid := outlierLonger.over
#print axioms outlierLonger_holds
end Go.Proofs.Ytfjcilkllgaimaa
