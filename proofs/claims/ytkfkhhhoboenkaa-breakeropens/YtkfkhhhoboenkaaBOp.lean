/- Whatever settings, tick and number are handed in: BreakerOpens returns true, and they read as they did. -/
import Derived.Test.YtkfkhhhoboenkaaRows
import Derived.BigQuiet
import Derived.Deep.QuietTactic
import Derived.WalkKit
import Derived.ProofKit
import Derived.OpenShut
import Derived.ShutString
import Derived.Test.YtkfkhhhoboenkaaCC
import Derived.Test.YtkfkhhhoboenkaaOpenK
namespace Go.Proofs.Ytkfkhhhoboenkaa.breakerOpens
open Go.ChangeShapes Go.WideShapes Go.ChangeAt Go.RowKit
open Go.ChangeMaps (open_string shut_string)
set_option linter.unusedVariables false
set_option maxRecDepth 20000

set_option maxHeartbeats 1000000 in
theorem walk (s : Br.Se) (t : Int) (wt : (Lit.int .i64 t).wf = true) (e0 : Int) (we : (Lit.int .i64 e0).wf = true) {w : World} :
    Calls Try.prog 7 #[vS s, .int .i64 t, .int .i64 e0] w fun e w' => e = .returned (.bool true) ∧ Below w.heap.size w w' := by
  have ca := fun W => balive_any W
  have cr := hidD (fun W => rcheck_any Br.zero s t W)
  have cb := hidD (fun W => bcheck_any Br.zero s t W)
  have X0 := Bo.new w (sL s) 25
  have HB0 : Below w.heap.size w (w.alloc (.cells (sL s).toArray 25)) := (Below.refl _ _).alloc (Nat.le_refl _) _
  have hs0 : w.heap.size + 1 ≤ (w.alloc (.cells (sL s).toArray 25)).heap.size := by simp
  obtain ⟨W0, hW0⟩ : ∃ W0, W0 = w.alloc (.cells (sL s).toArray 25) := ⟨_, rfl⟩
  obtain ⟨N, hN⟩ : ∃ N, N = w.heap.size := ⟨_, rfl⟩
  rw [← hW0] at X0 HB0 hs0
  rw [← hN] at X0 HB0 hs0 ⊢
  simp only [sL] at hW0
  have hbt := bounds_i64 wt
  have hbe := bounds_i64 we
  clear wt we
  have c := ca W0
  go_enter Try.func7, Try.ntmps7
  go_wp2_with fail
  rw [← hN, ← hW0]
  clear hN hW0
  with_reducible refine c.mono ?_
  rintro e ww ⟨rfl, h⟩
  clear c ca
  have XS := X0.below h
  have HB := below_on HB0 (by omega) h
  have hs := Nat.le_trans hs0 h.size
  clear X0 HB0 hs0 h W0
  have s0 := XS.cell 0 rfl
  have s1 := XS.cell 1 rfl
  have s2 := XS.cell 2 rfl
  have c := cr.out ww
  have VXS := hidD XS
  have VHB := hidD HB
  clear XS HB
  unfold Br.zero at c
  go_wp2_with fail
  with_reducible refine c.mono ?_
  rintro e w2 ⟨rfl, h⟩
  clear c
  have XS := hidD (VXS.out.below h)
  have HB := hidD (below_on VHB.out (by omega) h)
  have hs2 := Nat.le_trans hs h.size
  clear VXS VHB hs h s0 s1 s2
  have s0 := XS.out.cell 0 rfl
  have s1 := XS.out.cell 1 rfl
  have s2 := XS.out.cell 2 rfl
  have hbad : ¬ (Br.chk Br.zero s t = 0 ∧ ¬ 268435456 < t ∧ ¬ 100 < s.f) ∨ (Br.chk Br.zero s t = 0 ∧ t ≤ 268435456 ∧ s.f ≤ 100) := by
    by_cases h : Br.chk Br.zero s t = 0 ∧ ¬ 268435456 < t ∧ ¬ 100 < s.f
    · exact .inr ⟨h.1, by omega, by omega⟩
    · exact .inl h
  rcases hbad with hbad | ⟨hk, ht2, hf2⟩
  case inl =>
    have c := cb.out w2
    have cr2 := cr
    unfold Br.zero at c
    have HCR := hidD cr2.out
    have HK : Hid (Br.chk Br.zero s t = Br.chk ⟨0, 0, 0, 0, 0⟩ s t) := hidD rfl
    have cq := fun W => rcheck_any ⟨0, 0, 0, 0, 0⟩ s t W
    rw [HK.out] at hbad
    clear cr cb cr2 HCR HK
    generalize Br.chk ⟨0, 0, 0, 0, 0⟩ s t = k at *
    have HQ := hidD cq
    clear cq
    by_cases hk : k = 0
    · subst hk
      by_cases ht : 268435456 < t
      · clear hbad
        go_wp2_with fail
        with_reducible refine c.mono ?_
        rintro e w3 ⟨rfl, h⟩
        have HB3 := hidD (below_on HB.out (by omega) h)
        clear h
        go_wp2
        go_ret
        exact ⟨by first | rfl | simp, HB3.out⟩
      · have hf : 100 < s.f := by
          by_cases hf : 100 < s.f
          · exact hf
          · exact absurd ⟨rfl, ht, hf⟩ hbad
        clear hbad
        go_wp2_with fail
        with_reducible refine c.mono ?_
        rintro e w3 ⟨rfl, h⟩
        have HB3 := hidD (below_on HB.out (by omega) h)
        clear h
        go_wp2
        go_ret
        exact ⟨by first | rfl | simp, HB3.out⟩
    · have k1 : (k != 0) = true := by simp [hk]
      have k2 : (k == 0) = false := by simp [hk]
      clear hbad
      go_wp2_with fail
      with_reducible refine c.mono ?_
      rintro e w3 ⟨rfl, h⟩
      have XS3 := XS.out.below h
      have HB3 := hidD (below_on HB.out (by omega) h)
      have hs3 := Nat.le_trans hs2 h.size
      have c2 := HQ.out w3
      clear h s0 s1 s2
      have s0 := XS3.cell 0 rfl
      have s1 := XS3.cell 1 rfl
      have s2 := XS3.cell 2 rfl
      go_wp2_with fail
      with_reducible refine c2.mono ?_
      rintro e w4 ⟨rfl, h⟩
      have HB4 := hidD (below_on HB3.out (by omega) h)
      clear h
      go_wp2
      go_ret
      exact ⟨by first | rfl | simp, HB4.out⟩
  obtain ⟨hset, ht0, _, _⟩ := Br.chk_zero hk
  have hz3 := Br.sets_iff.1 hset
  have HK : Hid (Br.chk ⟨0, 0, 0, 0, 0⟩ s t = 0) := hidD hk
  clear cr cb hk
  rw [HK.out]
  have Y := hidD (Bo.new w2 [.int .i64 0, .int .i64 0, .int .i64 0, .int .i64 0, .int .i64 0] 23)
  have XS' := hidD (XS.out.alloc (.cells #[.int .i64 0, .int .i64 0, .int .i64 0, .int .i64 0, .int .i64 0] 23))
  have HB' := hidD (HB.out.alloc (by omega) (.cells #[.int .i64 0, .int .i64 0, .int .i64 0, .int .i64 0, .int .i64 0] 23))
  have hs' : N + 2 ≤ (w2.alloc (.cells #[.int .i64 0, .int .i64 0, .int .i64 0, .int .i64 0, .int .i64 0] 23)).heap.size := by simp; omega
  have hnt : ¬ 268435456 < t := by omega
  have hnf : ¬ 100 < s.f := by omega
  clear XS HB
  go_upto_region 6 with fail
  generalize w2.alloc (.cells #[.int .i64 0, .int .i64 0, .int .i64 0, .int .i64 0, .int .i64 0] 23) = W2 at *
  generalize w2.heap.size = C at *
  clear s0 s1 s2 HK
  have hNC : N + 1 ≤ C := hs2
  have HST := hidD (fun k hk => Br.bad_step (s := s) (t := t) hset ht0 ht2 k hk)
  have HSD := hidD (fun k hk => Br.bad_done (s := s) (t := t) k hk)
  have HSW := hidD (fun e h0 h1 => Br.wait (s := s) (t := t) (e := e) hset ht0 ht2 h0 h1)
  have HSA := hidD (Br.awake (s := s) (t := t) hset ht0 ht2)
  have HSH := hidD (fun k hk => Br.heal_step (s := s) (t := t) hset ht0 ht2 k hk)
  have HSE := hidD (fun k hk => Br.heal_done (s := s) (t := t) k hk)
  have HY0 := hidD (Br.bad_zero (s := s) (t := t) hset)
  have HWR : Hid (IntKind.i64.wrap (t + s.o) = t + s.o ∧ ∀ e, 0 ≤ e → e < s.o → IntKind.i64.wrap (t + e) = t + e) := hidD ⟨wrap_ok (by omega) (by omega), fun e h0 h1 => wrap_ok (by omega) (by omega)⟩
  obtain ⟨SF, SO, SP⟩ := s
  dsimp only at *
  obtain ⟨hz31, hz32, hz33, hz34, hz35, hz36⟩ := hz3
  go_wp2_with fail
  go_loopw [8] (fun i wr => ∃ k : Nat, (k : Int) ≤ SF ∧ i = .int .i64 k ∧ Hid (Bo wr C (bL (Br.bad ⟨SF, SO, SP⟩ t k)) 23) ∧ Hid (Bo wr N (sL ⟨SF, SO, SP⟩) 25) ∧ Hid (Below N w wr) ∧ N + 2 ≤ wr.heap.size) (fun i _ => (SF - intOf i).toNat)
  case atStart => exact ⟨0, by omega, rfl, by rw [HY0.out]; exact Y, XS', HB', hs'⟩
  case round =>
    clear Y XS' HB' hs' HY0
    obtain ⟨k, hk, rfl, XB, XS, HB, hs⟩ := hrel
    have s0 := XS.out.cell 0 rfl
    dsimp only at s0
    by_cases hlt : (k : Int) < SF
    · obtain ⟨hm, hstep⟩ := HST.out k hlt
      have c := fun W => bend_any (Br.bad ⟨SF, SO, SP⟩ t k) ⟨SF, SO, SP⟩ t false false W
      rw [hstep] at c
      have HRN := hidD hm
      generalize Br.bad ⟨SF, SO, SP⟩ t k = b at *
      generalize hb2 : Br.bad ⟨SF, SO, SP⟩ t (k + 1) = b2 at *
      have Hb2 := hidD hb2
      clear hb2
      generalize Br.chk b ⟨SF, SO, SP⟩ t = ck at *
      have p0 := XB.out.cell 0 rfl
      have p1 := XB.out.cell 1 rfl
      have p2 := XB.out.cell 2 rfl
      have p3 := XB.out.cell 3 rfl
      have p4 := XB.out.cell 4 rfl
      have s1 := XS.out.cell 1 rfl
      have s2 := XS.out.cell 2 rfl
      dsimp only at s1 s2
      have hmb : (b.m != 0) = false := by rw [hm]; rfl
      have c2 := c wr
      clear c hstep hm
      have c := c2
      clear c2
      go_wp2_with fail
      with_reducible refine c.mono ?_
      rintro e ww ⟨rfl, h⟩
      have Bx := XB.out.below h
      have hz := h.size
      have g0 := Bx.cell 0 rfl
      have g1 := Bx.cell 1 rfl
      have g2 := Bx.cell 2 rfl
      have g3 := Bx.cell 3 rfl
      have g4 := Bx.cell 4 rfl
      have gf0 := Bx.frozen 0
      have gf1 := Bx.frozen 1
      have gf2 := Bx.frozen 2
      have gf3 := Bx.frozen 3
      have gf4 := Bx.frozen 4
      have C5 := put5_cg ww C b2
      have XB2 := hidD (put5_bo b2 Bx)
      have XS2 := hidD (C5.bo (by omega) (XS.out.below h))
      have HB2 := hidD (C5.below (B := N) (by omega) (by omega) (below_on HB.out (by omega) h))
      have hs2 : N + 2 ≤ (put5 ww C b2).heap.size := Nat.le_trans (Nat.le_trans hs hz) C5.size
      clear p0 p1 p2 p3 p4 s0 s1 s2 c XB XS HB
      go_upto_region 8 with fail
      obtain ⟨W3, hW3⟩ : ∃ W3, W3 = put5 ww C b2 := ⟨_, rfl⟩
      rw [← hW3] at XB2 XS2 HB2 hs2
      rw [show (((((ww.setCell ⟨C, 0, none⟩ (.int .i64 b2.m)).setCell ⟨C, 1, none⟩ (.int .i64 b2.f)).setCell ⟨C, 2, none⟩ (.int .i64 b2.u)).setCell ⟨C, 3, none⟩ (.int .i64 b2.p)).setCell ⟨C, 4, none⟩ (.int .i64 b2.w)) = W3 from hW3.symm]
      clear hW3
      clear g0 g1 g2 g3 g4 gf0 gf1 gf2 gf3 gf4 Bx C5 h hz
      go_wp2
      exact ⟨⟨k + 1, by omega, by go_num, by rw [Hb2.out]; exact XB2, XS2, HB2, hs2⟩, by simp [intOf]; omega⟩
    have hke : (k : Int) = SF := by omega
    have hbk := HSD.out k hke
    rw [hbk] at XB
    clear HST HSD hbk
    have s1 := XS.out.cell 1 rfl
    dsimp only at s1
    have hne : SO ≠ 0 := by omega
    obtain ⟨E0, hE0⟩ : ∃ E0, Int.tmod e0 SO = E0 := ⟨_, rfl⟩
    have hE1 : -SO < E0 ∧ E0 < SO := by
      rw [← hE0]
      exact ⟨by have := Int.lt_tmod_of_pos e0 (show 0 < SO by omega); omega, Int.tmod_lt_of_pos e0 (by omega)⟩
    have hadd : IntKind.i64.wrap (E0 + SO) = E0 + SO := wrap_ok (by omega) (by omega)
    obtain ⟨EE, hEE⟩ : ∃ EE, Int.tmod (E0 + SO) SO = EE := ⟨_, rfl⟩
    have hEE1 : 0 ≤ EE ∧ EE < SO := by
      rw [← hEE]
      exact ⟨Int.tmod_nonneg _ (by omega), Int.tmod_lt_of_pos _ (by omega)⟩
    have HW2 := hidD (HWR.out.2 EE hEE1.1 hEE1.2)
    have HWT := hidD HWR.out.1
    obtain ⟨a1, a2, a3⟩ := HSW.out EE hEE1.1 hEE1.2
    obtain ⟨a4, a5⟩ := HSA.out
    have k1 := fun W => btick_any ⟨1, 0, t + SO, 0, 0⟩ ⟨SF, SO, SP⟩ (t + EE) W
    have k2 := fun W => ballows_any ⟨1, 0, t + SO, 0, 0⟩ ⟨SF, SO, SP⟩ (t + EE) W
    have k3 := fun W => btick_any ⟨1, 0, t + SO, 0, 0⟩ ⟨SF, SO, SP⟩ (t + SO) W
    rw [a1, a2] at k1
    rw [a3, a2] at k2
    rw [a4, a5] at k3
    have K1 := hidD k1
    have K2 := hidD k2
    have K3 := hidD k3
    clear a1 a2 a3 a4 a5 HSW HSA HWR k1 k2 k3
    clear hk hbe
    go_wp2_with fail
    go_quiet (fail)
    replace XB := hidD (XB.out.drewN nq)
    replace XS := hidD (XS.out.drewN nq)
    replace HB := hidD (below_drewN HB.out nq)
    replace hs : N + 2 ≤ (wr.drewN nq).heap.size := hs
    generalize wr.drewN nq = W4 at *
    clear s0 s1 hE0 hadd hEE
    have p0 := XB.out.cell 0 rfl
    have p1 := XB.out.cell 1 rfl
    have p2 := XB.out.cell 2 rfl
    have p3 := XB.out.cell 3 rfl
    have p4 := XB.out.cell 4 rfl
    have s0 := XS.out.cell 0 rfl
    have s1 := XS.out.cell 1 rfl
    have s2 := XS.out.cell 2 rfl
    have hw2 := HW2.out
    have hwt := HWT.out
    dsimp only at s0 s1 s2 p0 p1 p2 p3 p4
    have c := K1.out W4
    go_wp2_with fail
    with_reducible refine c.mono ?_
    rintro e ww ⟨rfl, h⟩
    have hz := h.size
    have XB4 := hidD ((XB.out.below h).alloc (.cells #[.int .i64 1, .int .i64 0, .int .i64 (t + SO), .int .i64 0, .int .i64 0] 23))
    have XS4 := hidD ((XS.out.below h).alloc (.cells #[.int .i64 1, .int .i64 0, .int .i64 (t + SO), .int .i64 0, .int .i64 0] 23))
    have HB4 := hidD ((below_on HB.out (by omega) h).alloc (by omega) (.cells #[.int .i64 1, .int .i64 0, .int .i64 (t + SO), .int .i64 0, .int .i64 0] 23))
    have YC := hidD (Bo.new ww [.int .i64 1, .int .i64 0, .int .i64 (t + SO), .int .i64 0, .int .i64 0] 23)
    have hs4 : N + 2 ≤ (ww.alloc (.cells #[.int .i64 1, .int .i64 0, .int .i64 (t + SO), .int .i64 0, .int .i64 0] 23)).heap.size := by simp; omega
    clear h c XB XS HB p0 p1 p2 p3 p4 s0 s1 s2
    go_upto_region 14 with fail
    generalize ww.alloc (.cells #[.int .i64 1, .int .i64 0, .int .i64 (t + SO), .int .i64 0, .int .i64 0] 23) = W5 at *
    generalize ww.heap.size = D at *
    clear hz
    have d0 := YC.out.cell 0 rfl
    have d1 := YC.out.cell 1 rfl
    have d2 := YC.out.cell 2 rfl
    have d3 := YC.out.cell 3 rfl
    have d4 := YC.out.cell 4 rfl
    have s0 := XS4.out.cell 0 rfl
    have s1 := XS4.out.cell 1 rfl
    have s2 := XS4.out.cell 2 rfl
    dsimp only at s0 s1 s2
    have c := K2.out W5
    go_wp2_with fail
    with_reducible refine c.mono ?_
    rintro e w6 ⟨rfl, h⟩
    have XB6 := hidD (XB4.out.below h)
    have YC6 := hidD (YC.out.below h)
    have XS6 := hidD (XS4.out.below h)
    have HB6 := hidD (below_on HB4.out (by omega) h)
    have hs6 := Nat.le_trans hs4 h.size
    clear h c d0 d1 d2 d3 d4 s0 s1 s2 XB4 XS4 HB4 YC hs4
    have p0 := XB6.out.cell 0 rfl
    have p1 := XB6.out.cell 1 rfl
    have p2 := XB6.out.cell 2 rfl
    have p3 := XB6.out.cell 3 rfl
    have p4 := XB6.out.cell 4 rfl
    have d0 := YC6.out.cell 0 rfl
    have d1 := YC6.out.cell 1 rfl
    have d2 := YC6.out.cell 2 rfl
    have d3 := YC6.out.cell 3 rfl
    have d4 := YC6.out.cell 4 rfl
    have s0 := XS6.out.cell 0 rfl
    have s1 := XS6.out.cell 1 rfl
    have s2 := XS6.out.cell 2 rfl
    dsimp only at s0 s1 s2 p0 p1 p2 p3 p4
    go_upto_region 17 with (go_at_call 17; refine (num_any _ _).mono ?_; rintro e w4 ⟨rfl, rfl⟩)
    have c := K3.out w6
    go_wp2_with fail
    with_reducible refine c.mono ?_
    rintro e ww ⟨rfl, h⟩
    obtain ⟨b3, hb3⟩ : ∃ b3, b3 = Br.heal ⟨SF, SO, SP⟩ t 0 := ⟨_, rfl⟩
    rw [← hb3]
    have XB := XB6
    have XS := XS6
    have HB := HB6
    have hs := hs6
    have Bx := XB.out.below h
    have hz := h.size
    have g0 := Bx.cell 0 rfl
    have g1 := Bx.cell 1 rfl
    have g2 := Bx.cell 2 rfl
    have g3 := Bx.cell 3 rfl
    have g4 := Bx.cell 4 rfl
    have gf0 := Bx.frozen 0
    have gf1 := Bx.frozen 1
    have gf2 := Bx.frozen 2
    have gf3 := Bx.frozen 3
    have gf4 := Bx.frozen 4
    have C5 := put5_cg ww C b3
    have XB2 := hidD (put5_bo b3 Bx)
    have XS2 := hidD (C5.bo (by omega) (XS.out.below h))
    have HB2 := hidD (C5.below (B := N) (by omega) (by omega) (below_on HB.out (by omega) h))
    have hs2 : N + 2 ≤ (put5 ww C b3).heap.size := Nat.le_trans (Nat.le_trans hs hz) C5.size
    have Hb3 := hidD hb3
    clear hb3 p0 p1 p2 p3 p4 d0 d1 d2 d3 d4 s0 s1 s2 XB6 XS6 HB6 YC6 hs6 c XB XS HB hs
    go_upto_region 18 with fail
    obtain ⟨W3, hW3⟩ : ∃ W3, W3 = put5 ww C b3 := ⟨_, rfl⟩
    rw [← hW3] at XB2 XS2 HB2 hs2
    rw [show (((((ww.setCell ⟨C, 0, none⟩ (.int .i64 b3.m)).setCell ⟨C, 1, none⟩ (.int .i64 b3.f)).setCell ⟨C, 2, none⟩ (.int .i64 b3.u)).setCell ⟨C, 3, none⟩ (.int .i64 b3.p)).setCell ⟨C, 4, none⟩ (.int .i64 b3.w)) = W3 from hW3.symm]
    clear hW3
    clear g0 g1 g2 g3 g4 gf0 gf1 gf2 gf3 gf4 Bx C5 h hz K1 K2 K3
    rw [Hb3.out] at XB2
    go_wp2_with fail
    go_loopw [10, 13] (fun ev i wr => ∃ k : Nat, (k : Int) ≤ SP ∧ i = .int .i64 k ∧ ev = .int .i64 0 ∧ Hid (Bo wr C (bL (Br.heal ⟨SF, SO, SP⟩ t k)) 23) ∧ Hid (Bo wr N (sL ⟨SF, SO, SP⟩) 25) ∧ Hid (Below N w wr) ∧ N + 2 ≤ wr.heap.size) (fun _ i _ => (SP - intOf i).toNat)
    case atStart => exact ⟨0, by omega, rfl, rfl, XB2, XS2, HB2, hs2⟩
    case round =>
      clear XB2 XS2 HB2 hs2 Hb3
      obtain ⟨k, hk, rfl, rfl, XB, XS, HB, hs⟩ := hrel
      have s0 := XS.out.cell 0 rfl
      have s1 := XS.out.cell 1 rfl
      have s2 := XS.out.cell 2 rfl
      dsimp only at s0 s1 s2
      by_cases hlt : (k : Int) < SP
      · obtain ⟨hm, hbe, hbp, hck, hstep⟩ := HSH.out k hlt
        have c := bbegin_any (Br.heal ⟨SF, SO, SP⟩ t k) ⟨SF, SO, SP⟩ (t + SO) wr
        rw [hbe, hbp] at c
        have c2 := fun W => bend_any (Br.begR (Br.heal ⟨SF, SO, SP⟩ t k) ⟨SF, SO, SP⟩ (t + SO)) ⟨SF, SO, SP⟩ (t + SO) true true W
        rw [hck, hstep] at c2
        have H2 := hidD c2
        clear hbe hbp hck hstep c2 HSH HSE
        generalize Br.begR (Br.heal ⟨SF, SO, SP⟩ t k) ⟨SF, SO, SP⟩ (t + SO) = x at *
        generalize Br.heal ⟨SF, SO, SP⟩ t k = b at *
        generalize hb2 : Br.heal ⟨SF, SO, SP⟩ t (k + 1) = b2 at *
        have Hb2 := hidD hb2
        have hmb : (b.m != 2) = false := by rw [hm]; rfl
        clear hb2 hm
        have p0 := XB.out.cell 0 rfl
        have p1 := XB.out.cell 1 rfl
        have p2 := XB.out.cell 2 rfl
        have p3 := XB.out.cell 3 rfl
        have p4 := XB.out.cell 4 rfl
        go_wp2_with fail
        with_reducible refine c.mono ?_
        rintro e w7 ⟨rfl, h⟩
        have hz := h.size
        have XB7 := hidD ((XB.out.below h).alloc (.cells #[.int .i64 x.m, .int .i64 x.f, .int .i64 x.u, .int .i64 x.p, .int .i64 x.w] 23))
        have XS7 := hidD ((XS.out.below h).alloc (.cells #[.int .i64 x.m, .int .i64 x.f, .int .i64 x.u, .int .i64 x.p, .int .i64 x.w] 23))
        have HB7 := hidD ((below_on HB.out (by omega) h).alloc (by omega) (.cells #[.int .i64 x.m, .int .i64 x.f, .int .i64 x.u, .int .i64 x.p, .int .i64 x.w] 23))
        have YX := hidD (Bo.new w7 [.int .i64 x.m, .int .i64 x.f, .int .i64 x.u, .int .i64 x.p, .int .i64 x.w] 23)
        have hs7 : N + 2 ≤ (w7.alloc (.cells #[.int .i64 x.m, .int .i64 x.f, .int .i64 x.u, .int .i64 x.p, .int .i64 x.w] 23)).heap.size := by simp; omega
        clear h c XB XS HB hs p0 p1 p2 p3 p4 s0 s1 s2
        go_upto_region 22 with fail
        generalize w7.alloc (.cells #[.int .i64 x.m, .int .i64 x.f, .int .i64 x.u, .int .i64 x.p, .int .i64 x.w] 23) = W8 at *
        generalize w7.heap.size = D2 at *
        clear hz
        have p0 := XB7.out.cell 0 rfl
        have p1 := XB7.out.cell 1 rfl
        have p2 := XB7.out.cell 2 rfl
        have p3 := XB7.out.cell 3 rfl
        have p4 := XB7.out.cell 4 rfl
        have d0 := YX.out.cell 0 rfl
        have d1 := YX.out.cell 1 rfl
        have d2 := YX.out.cell 2 rfl
        have d3 := YX.out.cell 3 rfl
        have d4 := YX.out.cell 4 rfl
        have s0 := XS7.out.cell 0 rfl
        have s1 := XS7.out.cell 1 rfl
        have s2 := XS7.out.cell 2 rfl
        dsimp only at s0 s1 s2
        have c := H2.out W8
        go_wp2_with (go_at_call 17; refine (num_any _ _).mono ?_; rintro e w4 ⟨rfl, rfl⟩)
        with_reducible refine c.mono ?_
        rintro e ww ⟨rfl, h⟩
        have XB := XB7
        have XS := XS7
        have HB := HB7
        have hs := hs7
        have Bx := XB.out.below h
        have hz := h.size
        have g0 := Bx.cell 0 rfl
        have g1 := Bx.cell 1 rfl
        have g2 := Bx.cell 2 rfl
        have g3 := Bx.cell 3 rfl
        have g4 := Bx.cell 4 rfl
        have gf0 := Bx.frozen 0
        have gf1 := Bx.frozen 1
        have gf2 := Bx.frozen 2
        have gf3 := Bx.frozen 3
        have gf4 := Bx.frozen 4
        have C5 := put5_cg ww C b2
        have XB2 := hidD (put5_bo b2 Bx)
        have XS2 := hidD (C5.bo (by omega) (XS.out.below h))
        have HB2 := hidD (C5.below (B := N) (by omega) (by omega) (below_on HB.out (by omega) h))
        have hs2 : N + 2 ≤ (put5 ww C b2).heap.size := Nat.le_trans (Nat.le_trans hs hz) C5.size
        clear p0 p1 p2 p3 p4 d0 d1 d2 d3 d4 s0 s1 s2 XB7 XS7 HB7 YX hs7 c XB XS HB hs
        go_upto_region 20 with fail
        obtain ⟨W3, hW3⟩ : ∃ W3, W3 = put5 ww C b2 := ⟨_, rfl⟩
        rw [← hW3] at XB2 XS2 HB2 hs2
        rw [show (((((ww.setCell ⟨C, 0, none⟩ (.int .i64 b2.m)).setCell ⟨C, 1, none⟩ (.int .i64 b2.f)).setCell ⟨C, 2, none⟩ (.int .i64 b2.u)).setCell ⟨C, 3, none⟩ (.int .i64 b2.p)).setCell ⟨C, 4, none⟩ (.int .i64 b2.w)) = W3 from hW3.symm]
        clear hW3
        clear g0 g1 g2 g3 g4 gf0 gf1 gf2 gf3 gf4 Bx C5 h hz
        go_wp2
        exact ⟨⟨k + 1, by omega, by go_num, rfl, by rw [Hb2.out]; exact XB2, XS2, HB2, hs2⟩, by simp [intOf]; omega⟩
      have hke : (k : Int) = SP := by omega
      have hbk := HSE.out k hke
      rw [hbk] at XB
      have p0 := XB.out.cell 0 rfl
      have p1 := XB.out.cell 1 rfl
      have p2 := XB.out.cell 2 rfl
      have p3 := XB.out.cell 3 rfl
      have p4 := XB.out.cell 4 rfl
      dsimp only at p0 p1 p2 p3 p4
      clear hbk HSE HSH
      go_wp2_with (go_at_call 17; refine (num_any _ _).mono ?_; rintro e w4 ⟨rfl, rfl⟩)
      go_ret
      exact ⟨by first | rfl | simp, HB.out⟩

set_option maxRecDepth 100000 in
theorem lifted (os : Os) (started : os.Started) (H : Type) (enc : TypeId × Value → H) :
    ReturnsInHanded {} Try.checked os 7 .any (Rows.breakerOpensSpec.pre6 enc Try.prog Try.f7 Rows.breakerOpensRow.domain false) (Rows.breakerOpensSpec.post enc Try.prog Try.f7 false true false false) := by
  refine returnsInHanded_of_change (C := Try.checked) own started (by kernel_rfl) Try.func7
    (ChangeSpec.witness6 (enc := enc) (C := Try.checked) false ⟨#[], #[.agg #[.int .i64 0, .int .i64 0, .int .i64 0], .int .i64 0, .int .i64 0], []⟩ 8 (by kernel_rfl) (by kernel_rfl) (by kernel_rfl) (by kernel_rfl)) ?_
  intro W base args ds gs before hval0 hW hcnd _
  have hval : ∀ (j : Nat) t v, Try.f7.params[j]? = some t → args[j]? = some v → Value.okWide Try.prog W .any base t v := hval0
  have hW' := hW
  obtain ⟨p, q, hA0, hV, rfl, hfz, hnd⟩ := hW
  have hA : DataW.TrodAll enc Try.prog W 0 (fun _ => true) true Try.f7.params.toList args.toList ds p := hA0
  rw [Try.params7] at hA hval
  obtain ⟨v0, vs0, d0, ds0, p0, q0, hargs, rfl, rfl, h0, r0⟩ := trodAll_cons hA
  obtain ⟨v1, vs1, d1, ds1, p1, q1, rfl, rfl, rfl, h1, r1⟩ := trodAll_cons r0
  obtain ⟨v2, vs2, d2, ds2, p2, q2, rfl, rfl, rfl, h2, r2⟩ := trodAll_cons r1
  obtain ⟨rfl, rfl, rfl⟩ := trodAll_nil r2
  obtain rfl : args = #[v0, v1, v2] := by cases args; simp_all
  obtain ⟨rfl, rfl⟩ := trodVars_none hV
  have k0 := h0
  have lt0 : ∀ x ∈ p0, x.block < W.heap.size := by obtain ⟨m, hm⟩ := k0; exact DataW.trod_lt m _ _ _ hm
  obtain ⟨x0, hv0⟩ := open_set (hval 0 25 v0 rfl rfl) h0
  subst hv0
  obtain ⟨a1, rfl, rfl, rfl, w1⟩ := open_int Try.underlying3 (hval 1 3 v1 rfl rfl) h1
  obtain ⟨a2, rfl, rfl, rfl, w2⟩ := open_int Try.underlying3 (hval 2 3 v2 rfl rfl) h2
  clear hA0 hval0
  refine (walk x0 a1 w1 a2 w2).mono fun e W' ⟨he, bel⟩ => ?_
  subst he
  exact ⟨_, rfl, _, _, _, [], _, [], hW', trodAll_mk1 (shut_bool Try.underlying4 _), (trodAll_cons_mk (Below.trod laidOut (by kernel_rfl) (of_decide_eq_true (by kernel_rfl)) k0 bel lt0) (trodAll_cons_mk (shut_int Try.underlying3 w1) (trodAll_cons_mk (shut_int Try.underlying3 w2) trodAll_mk0))), rfl, bel.frame _, fun h => by cases h⟩

theorem over : Rows.breakerOpensRow.holds Try.pinned (OpenSpec.ofChange Rows.breakerOpensSpec) :=
  OpenClaim.holds_of_wide 7 Try.f7 rfl rfl rfl rfl rfl rfl rfl ⟨rfl, rfl, rfl, rfl, rfl⟩ rfl rfl rfl rfl rfl (by kernel_rfl) Try.func7 (by kernel_rfl)
    (of_decide_eq_true (by kernel_rfl)) (by unfold Func.isWrapper; first | (rw [if_pos (by decide +kernel)]; kernel_rfl) | (rw [if_neg (by decide +kernel)]; exact ⟨rfl, rfl⟩))
    (fun os started H enc _ => lifted os started H enc)
end Go.Proofs.Ytkfkhhhoboenkaa.breakerOpens

namespace Go.Proofs.Ytkfkhhhoboenkaa
/-- THE STATEMENT. -/
theorem breakerOpens_holds : Rows.BreakerOpensSaid := breakerOpens.over
#print axioms breakerOpens_holds
end Go.Proofs.Ytkfkhhhoboenkaa
