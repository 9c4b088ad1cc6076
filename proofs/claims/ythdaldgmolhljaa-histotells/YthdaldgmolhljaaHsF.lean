/- histo: Quantile. -/
import Derived.Test.YthdaldgmolhljaaHsE
namespace Go.Proofs.Ythdaldgmolhljaa
open Go.RowKit
set_option linter.unusedVariables false
set_option maxRecDepth 20000

set_option maxHeartbeats 1000000 in
theorem reach_any (A R : Nat) (x n r : Int) (w : World) (hA : Bo w A [.int .i64 x] tI) (hR : Bo w R [.int .i64 r] tI) (hAR : R ≠ A) (h1 : IntKind.i64.wrap (x + n) = x + n) :
    Calls Try.prog 34 #[.int .i64 n, .pointer (some ⟨A, 0, none⟩), .pointer (some ⟨R, 0, none⟩)] w fun e w' => e = .returned (.bool (decide (r ≤ x + n))) ∧ w' = w.setCell ⟨A, 0, none⟩ (.int .i64 (x + n)) := by
  obtain ⟨W1, hW1⟩ : ∃ W1, W1 = w.setCell ⟨A, 0, none⟩ (.int .i64 (x + n)) := ⟨_, rfl⟩
  have B1 := hA.set 0 (.int .i64 (x + n))
  have B2 := hR.other (c := A) (k := 0) hAR (.int .i64 (x + n))
  rw [← hW1] at B1 B2 ⊢
  have p := hA.cell 0 rfl
  have f := hA.frozen 0
  have q1 := B1.cell 0 rfl
  have q2 := B2.cell 0 rfl
  clear hA hR B1 B2
  go_enter Try.func34, Try.ntmps34
  go_upto_region 2 with fail
  rw [← hW1]
  clear hW1 p f
  go_wp2_with fail
  go_ret
  exact ⟨rfl, rfl⟩

set_option maxHeartbeats 2000000 in
theorem reached_any (B A R i : Nat) (row : Value) (c : List Int) (r : Int) (w : World) (hA : Bo w A [.int .i64 0] tI) (hR : Bo w R [.int .i64 r] tI) (hAR : R ≠ A) (hBA : B ≤ A) (hlow : ∀ W, Below B w W → Seg .i64 W row c) (hc : c.length = 81)
    (h0 : ∀ j, 0 ≤ c.getD j 0 ∧ c.getD j 0 ≤ 1073741824) (hat : Hi.at c r i) (hi : i < 81) :
    Calls Try.prog 35 #[row, .func (.func 34) #[] #[.pointer (some ⟨A, 0, none⟩), .pointer (some ⟨R, 0, none⟩)]] w fun e w' => e = .returned (.int .i64 (i : Int)) ∧ Below B w w' := by
  obtain ⟨a, cap, rfl, h1, h2, _, _⟩ := hlow w (Below.refl _ _)
  unfold maxLen at h2
  have HN := hidD hc
  have HLOW : Hid (∀ W, Below B w W → Seg .i64 W (.slice a 81 cap) c) := hidD (by rw [← hc]; exact hlow)
  rw [hc] at h1 ⊢
  have H0 := hidD h0
  have HAT := hidD hat
  have X0 := hidD hA
  have HRR := hidD hR
  have HB := hidD (And.intro hBA hA.lt)
  clear hlow hc h0 hat hA hR
  go_enter Try.func35, Try.ntmps35
  go_wp2_with fail
  go_loopw [8] (fun n wr => ∃ k : Nat, k ≤ i ∧ n = .int .i64 (k : Int) ∧ Hid (Bo wr A [.int .i64 (Hi.pre c k)] tI ∧ Bo wr R [.int .i64 r] tI ∧ Below B w wr)) (fun n _ => 100 - (intOf n).toNat)
  case atStart => exact ⟨0, Nat.zero_le _, rfl, hidD ⟨X0.out, HRR.out, Below.refl _ _⟩⟩
  case round =>
    clear X0 HRR
    obtain ⟨k, hk, rfl, hJ⟩ := hrel
    obtain ⟨j1, j2, j3⟩ := hJ.out
    obtain ⟨b, off, rfl, hb, Q⟩ := Seg.atE (HLOW.out wr j3) k (by have := HN.out; omega)
    obtain ⟨s0, s1⟩ := Hi.pre_range H0.out k
    obtain ⟨x0, x1⟩ := H0.out k
    have cR := reach_any A R (Hi.pre c k) (c.getD k 0) r wr j1 j2 hAR (wrap_ok (by omega) (by omega))
    have HX : Hid (Hi.pre c (k + 1) = Hi.pre c k + c.getD k 0) := hidD rfl
    have W1 := hidD (j1.set 0 (.int .i64 (Hi.pre c k + c.getD k 0)))
    have W2 := hidD (j2.other (c := A) (k := 0) hAR (.int .i64 (Hi.pre c k + c.getD k 0)))
    have W3 := hidD ((Cg.set (b := A) wr 0 (.int .i64 (Hi.pre c k + c.getD k 0))).below (B := B) HB.out.1 (by have := HB.out; have := j1.lt; omega) j3)
    clear j1 j2 j3 hJ s0 s1 x0 x1
    by_cases hki : k = i
    · subst hki
      have hr : r ≤ Hi.pre c k + c.getD k 0 := HAT.out.2
      generalize Hi.pre c k + c.getD k 0 = y at *
      rw [decide_eq_true hr] at cR
      generalize c.getD k 0 = x at *
      go_wp2_with fail
      refine cR.mono ?_
      rintro e w2 ⟨rfl, rfl⟩
      go_wp2_with fail
      go_ret
      exact ⟨rfl, W3.out⟩
    · have hr : ¬ r ≤ Hi.pre c k + c.getD k 0 := by
        have h := Hi.pre_up (c := c) (fun j => (H0.out j).1) (show k + 1 ≤ i by omega)
        have h2 := HAT.out.1
        have h3 := HX.out
        omega
      rw [decide_eq_false hr] at cR
      clear hr
      generalize Hi.pre c k + c.getD k 0 = y at *
      generalize c.getD k 0 = x at *
      go_wp2_with fail
      refine cR.mono ?_
      rintro e w2 ⟨rfl, rfl⟩
      go_wp2_with fail
      exact ⟨⟨k + 1, by omega, by go_num, hidD ⟨by rw [HX.out]; exact W1.out, W2.out, W3.out⟩⟩, by simp [intOf]; omega⟩

theorem Hi.qu_cases (h : Hi.H) (m : Int) : (¬ Hi.chk h = 0 → Hi.quE h m = Hi.chk h ∧ Hi.quR h m = 0) ∧ (Hi.chk h = 0 → m < 1 ∨ 1000 < m → Hi.quE h m = 4 ∧ Hi.quR h m = 0) ∧
    (Hi.chk h = 0 → ¬ (m < 1 ∨ 1000 < m) → h.t = 0 → Hi.quE h m = 71 ∧ Hi.quR h m = 0) ∧
    (Hi.chk h = 0 → ¬ (m < 1 ∨ 1000 < m) → ¬ h.t = 0 → Hi.quE h m = 0 ∧ Hi.quR h m = Hi.top (Hi.idx h.c (Hi.want m h.t))) := by
  have key : ∀ x, Hi.quE h m = x → ¬ x = 0 → Hi.quE h m = x ∧ Hi.quR h m = 0 := fun x e hx => ⟨e, if_neg (by rw [e]; exact hx)⟩
  refine ⟨fun h1 => ?_, fun h1 h2 => ?_, fun h1 h2 h3 => ?_, fun h1 h2 h3 => ?_⟩
  · have h9 : Hi.chk h = 9 := by rcases Hi.chk_two h with e | e; exact absurd e h1; exact e
    rw [h9]
    exact key 9 (if_neg h1) (by decide)
  · exact key 4 (by unfold Hi.quE; rw [if_pos h1, if_pos h2]) (by decide)
  · exact key 71 (by unfold Hi.quE; rw [if_pos h1, if_neg h2, if_pos h3]) (by decide)
  · have e : Hi.quE h m = 0 := by unfold Hi.quE; rw [if_pos h1, if_neg h2, if_neg h3]
    exact ⟨e, if_pos e⟩
set_option maxHeartbeats 4000000 in
theorem quantile_any (row : Value) (h : Hi.H) (m : Int) (w : World) (hs : Seg .i64 w row h.c) :
    Calls Try.prog 16 #[vH row h.t, .int .i64 m] w fun e w' => e = .returned (.tuple #[.int .i64 (Hi.quR h m), .int .i64 (Hi.quE h m)]) ∧ Below w.heap.size w w' := by
  obtain ⟨d, t⟩ := h
  dsimp only at hs ⊢
  have CK := check_any row ⟨d, t⟩ (w.alloc (.cells (hL row t).toArray 24)) (hs.below ((Below.refl _ _).alloc (Nat.le_refl _) _))
  have HSEG := hidD (fun (W : World) (b : Below w.heap.size w W) => hs.below b)
  have X0 := hidD (Bo.new w (hL row t) 24)
  have HB := hidD ((Below.refl w.heap.size w).alloc (Nat.le_refl _) (.cells (hL row t).toArray 24))
  have HS : Hid (w.heap.size + 1 ≤ (w.alloc (.cells (hL row t).toArray 24)).heap.size) := hidD (by rw [World.size_alloc]; omega)
  obtain ⟨W0, hW0⟩ : ∃ W0, W0 = w.alloc (.cells (hL row t).toArray 24) := ⟨_, rfl⟩
  rw [← hW0] at X0 HB HS CK
  obtain ⟨g1, g2, g3, g4⟩ := Hi.qu_cases ⟨d, t⟩ m
  try dsimp only at g3 g4 CK
  replace g1 := hidD g1
  replace g2 := hidD g2
  replace g3 := hidD g3
  replace g4 := hidD g4
  have HK2 := hidD (@Hi.chk_zero ⟨d, t⟩)
  have HQ := hidD (@Hi.quE_zero ⟨d, t⟩ m)
  generalize Hi.quE ⟨d, t⟩ m = E at *
  generalize Hi.quR ⟨d, t⟩ m = R at *
  obtain ⟨k, hk⟩ : ∃ k, k = Hi.chk ⟨d, t⟩ := ⟨_, rfl⟩
  rw [← hk] at CK g1 g2 g3 g4
  replace hk := hidD hk
  obtain ⟨N, hN⟩ : ∃ N, N = w.heap.size := ⟨_, rfl⟩
  rw [← hN] at X0 HB HS HSEG ⊢
  simp only [hL] at hW0
  clear hs
  go_enter Try.func16, Try.ntmps16
  go_wp2_with fail
  rw [← hN, ← hW0]
  clear hW0
  with_reducible refine CK.mono ?_
  rintro e w1 ⟨rfl, h1⟩
  replace HB := hidD (below_on HB.out (by have := HS.out; omega) h1)
  have HS1 : Hid (N + 1 ≤ w1.heap.size) := hidD (by have := HS.out; have := h1.size; omega)
  replace X0 := hidD (X0.out.below h1)
  clear CK h1 HS hN
  by_cases hk0 : k = 0
  case neg =>
    obtain ⟨rfl, rfl⟩ := g1.out hk0
    have hk1 : (E != 0) = true := by simp [hk0]
    clear g1 g2 g3 g4 hk0
    go_wp2_with fail
    go_ret2
    exact ⟨rfl, HB.out⟩
  subst hk0
  by_cases hm : m < 1 ∨ 1000 < m
  case pos =>
    obtain ⟨rfl, rfl⟩ := g2.out rfl hm
    clear g1 g2 g3 g4
    rcases hm with hm | hm
    · go_wp2_with fail
      go_ret2
      exact ⟨rfl, HB.out⟩
    · have hm2 : ¬ m < 1 := by omega
      go_wp2_with fail
      go_ret2
      exact ⟨rfl, HB.out⟩
  have p0 := X0.out.cell 0 rfl
  have p1 := X0.out.cell 1 rfl
  have hm1 : ¬ m < 1 := by omega
  have hm2 : ¬ 1000 < m := by omega
  by_cases ht : t = 0
  case pos =>
    obtain ⟨rfl, rfl⟩ := g3.out rfl hm ht
    subst ht
    clear g1 g2 g3 g4 hm
    go_wp2_with fail
    go_ret2
    exact ⟨rfl, HB.out⟩
  obtain ⟨rfl, rfl⟩ := g4.out rfl hm ht
  obtain ⟨_, q1, q2, q3, q4, q5, q6, q7⟩ := HQ.out rfl
  try dsimp only at q3 q4 q5 q6 q7
  obtain ⟨_, _, u1, u2⟩ := Hi.want_range q1 q2 q3 q4
  have CT := fun W => topOf_any (Hi.idx d (Hi.want m t)) W (by omega)
  have H2 : Hid (∀ j, 0 ≤ d.getD j 0 ∧ d.getD j 0 ≤ 1073741824) := hidD (HK2.out hk.out.symm).2.1
  obtain ⟨W2, hW2, Y0, Y1, YB, YS⟩ := two_boxes w1 [.int .i64 (Hi.want m t)] [.int .i64 0] tI tI
  have CR := reached_any N (w1.heap.size + 1) w1.heap.size (Hi.idx d (Hi.want m t)) row d (Hi.want m t) W2 Y1 Y0 (by omega) (by have := HS1.out; omega)
    (fun W hb => HSEG.out W (below_then (below_on HB.out (by have := HS1.out; omega) YB) hb)) q5 H2.out q6 q7
  have HB2 := hidD (below_on HB.out (by have := HS1.out; omega) YB)
  have HWD : Hid (Hi.want m t = (m * t + 999) / 1000) := hidD rfl
  obtain ⟨y, hy⟩ : ∃ y, y = Hi.top (Hi.idx d (Hi.want m t)) := ⟨_, rfl⟩
  rw [← hy] at CT
  replace hy := hidD hy
  generalize Hi.idx d (Hi.want m t) = i at CT CR
  generalize Hi.want m t = r at HWD CR hW2
  obtain ⟨mt, hmt⟩ : ∃ mt, mt = m * t := ⟨_, rfl⟩
  have hw : IntKind.i64.wrap (m * t) = mt := by rw [hmt]; exact wrap_ok (by omega) (by omega)
  rw [← hmt] at u1 u2 HWD
  have hdv : Int.tdiv (mt + 1000 - 1) 1000 = (mt + 999) / 1000 := by rw [Int.tdiv_eq_ediv_of_nonneg (by omega)]; congr 1; omega
  have hdw : IntKind.i64.wrap ((mt + 999) / 1000) = r := by rw [← HWD.out]; exact wrap_ok (by have := HWD.out; omega) (by have := HWD.out; omega)
  have LN : N < w1.heap.size := HS1.out
  clear hmt g1 g2 g3 g4 HQ HK2 q5 q6 q7 hm
  go_wp2_with fail
  refine Calls.mono (by rw [hW2] at CR; exact CR) ?_
  rintro e w4 ⟨rfl, h4⟩
  have HE := hidD (below_then HB2.out (by rw [hW2]; exact h4))
  have CT4 := CT w4
  clear CR CT h4 YB HB2
  go_wp2_with fail
  refine CT4.mono ?_
  rintro e w5 ⟨rfl, rfl⟩
  go_wp2_with fail
  go_ret2
  exact ⟨by rw [← hy.out]; rfl, HE.out⟩
end Go.Proofs.Ythdaldgmolhljaa
