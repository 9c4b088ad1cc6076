/- breaker: the reference's Run. -/
import Derived.Test.YtkfkhhhoboenkaaCA
namespace Go.Proofs.Ytkfkhhhoboenkaa
open Go.RowKit
set_option linter.unusedVariables false
set_option maxRecDepth 20000

theorem any_true {n : Nat} {f : Nat → Bool} {k : Nat} (hk : k < n) (h : f k = true) : (List.range n).any f = true := rany_at f n k hk h
theorem any_none {n : Nat} {f : Nat → Bool} (h : ∀ k, k < n → f k = false) : (List.range n).any f = false := by
  rw [List.any_eq_false]
  intro x hx
  rw [h x (List.mem_range.1 hx)]
  decide
theorem Br.runE_kd {s : Br.Se} {l : List Br.Ac} (k : Nat) (hk : k < l.length) (h : Br.kd l k = true) : Br.runE s l = 23 := by
  unfold Br.runE
  rw [show Br.kdE l = true from any_true hk h, if_pos rfl]
theorem Br.runE_long {s : Br.Se} {l : List Br.Ac} (h : ∀ k, k < l.length → Br.kd l k = false) (hl : 512 < l.length) : Br.runE s l = 3 := by
  unfold Br.runE
  rw [show Br.kdE l = false from any_none h, if_neg (by decide), if_pos hl]
theorem Br.runE_tk {s : Br.Se} {l : List Br.Ac} (h : ∀ k, k < l.length → Br.kd l k = false) (hl : ¬ 512 < l.length) (k : Nat) (hk : k < l.length) (ht : Br.tk l k = true) : Br.runE s l = 4 := by
  unfold Br.runE
  rw [show Br.kdE l = false from any_none h, if_neg (by decide), if_neg hl, show Br.tkE l = true from any_true hk ht, if_neg (fun e => by cases e.2)]
theorem Br.runE_sets {s : Br.Se} {l : List Br.Ac} (h : ∀ k, k < l.length → Br.kd l k = false) (hl : ¬ 512 < l.length) (hs : Br.sets s = false) : Br.runE s l = 4 := by
  unfold Br.runE
  rw [show Br.kdE l = false from any_none h, if_neg (by decide), if_neg hl, hs, if_neg (fun e => by cases e.1)]
theorem Br.runE_ok {s : Br.Se} {l : List Br.Ac} (h : ∀ k, k < l.length → Br.kd l k = false) (hl : ¬ 512 < l.length) (ht : ∀ k, k < l.length → Br.tk l k = false) (hs : Br.sets s = true) : Br.runE s l = 0 := by
  unfold Br.runE
  rw [show Br.kdE l = false from any_none h, if_neg (by decide), if_neg hl, hs, show Br.tkE l = false from any_none ht, if_pos ⟨rfl, rfl⟩]
theorem Br.pv_succ (l : List Br.Ac) (k : Nat) : Br.pv l (k + 1) = (l.getD k Br.ac0).t := by simp [Br.pv]

theorem Br.step1 {s : Br.Se} {b : Br.St} {a : Br.Ac} (hk : a.k = 1) (hc : Br.chk b s a.t = 0) : Br.tickR b s a.t = (Br.step s b a).1 ∧ (Br.step s b a).2 = 0 := by
  unfold Br.tickR Br.step
  rw [if_pos hc, if_pos hk]
  exact ⟨rfl, rfl⟩
theorem Br.step3 {s : Br.Se} {b : Br.St} {a : Br.Ac} (hk : a.k = 3) (hc : Br.chk b s a.t = 0) : Br.endR b s a.t a.p a.g = (Br.step s b a).1 ∧ (Br.step s b a).2 = 0 := by
  unfold Br.endR Br.step
  have h1 : ¬ a.k = 1 := by omega
  have h2 : ¬ a.k = 2 := by omega
  rw [if_pos hc, if_neg h1, if_neg h2]
  exact ⟨rfl, rfl⟩
theorem Br.step2 {s : Br.Se} {b : Br.St} {a : Br.Ac} (hk : a.k = 2) (hc : Br.chk b s a.t = 0) :
    (Br.begE b s a.t = 9 ∧ (Br.step s b a).1 = b ∧ (Br.step s b a).2 = 2) ∨ (Br.begE b s a.t = 0 ∧ Br.begP b s a.t = true ∧ (Br.step s b a).1 = Br.begR b s a.t ∧ (Br.step s b a).2 = 1) ∨ (Br.begE b s a.t = 0 ∧ Br.begP b s a.t = false ∧ (Br.step s b a).1 = b ∧ (Br.step s b a).2 = 0) := by
  have h1 : ¬ a.k = 1 := by omega
  have hst : Br.step s b a = if Br.allows b s = true then (Br.beg b, if b.m = 2 then 1 else 0) else (b, 2) := by
    unfold Br.step; rw [if_neg h1, if_pos hk]
  rw [hst]
  unfold Br.begE Br.begP Br.begR
  cases ha : Br.allows b s with
  | false => exact .inl (by simp [hc])
  | true =>
    by_cases hm : b.m = 2
    · exact .inr (.inl (by simp [hc, hm]))
    · exact .inr (.inr (by simp [hc, hm, Br.beg]))

set_option maxHeartbeats 1600000 in
theorem rrun_any (s : Br.Se) (v : Value) (l : List Br.Ac) (w : World) (hv : ASeg w v l) : Calls Try.prog 22 #[vS s, v] w fun e w' => ∃ v', e = .returned (.tuple #[vB (Br.endR2 s l), v', .int .i64 (Br.runE s l)]) ∧ w'.ownsRow w.heap.size 3 1 v' (Br.toldR s l).length (i64s (Br.toldR s l)) ∧ Below w.heap.size w w' := by
  obtain ⟨i0, hi, hz0, hz1, hz2⟩ := info_parts Try.infoJ
  obtain ⟨W0, hW0, X0, X1, HB, HS⟩ := two_boxes w (sL s) (bL Br.zero) 25 23
  have HV := hidD hv
  have HV0 := hidD (hv.below HB)
  obtain ⟨av, cv, rfl, q1, q2, _, _⟩ := hv
  unfold maxLen at q2
  have HK1 := hidD (@Br.runE_kd s l)
  have HK2 := hidD (@Br.runE_long s l)
  have HK3 := hidD (@Br.runE_tk s l)
  have HK4 := hidD (@Br.runE_sets s l)
  have HK5 := hidD (@Br.runE_ok s l)
  have HE0 : Hid (Br.runE s l ≠ 0 → Br.endR2 s l = Br.zero ∧ Br.toldR s l = []) := hidD (fun h => ⟨if_neg h, if_neg h⟩)
  have HE1 : Hid (Br.runE s l = 0 → Br.endR2 s l = Br.st s l l.length ∧ Br.toldR s l = Br.tolds s l l.length) := hidD (fun h => ⟨if_pos h, if_pos h⟩)
  have HCH : Hid (Br.runE s l = 0 → ∀ k, k < l.length → Br.chk (Br.st s l k) s (l.getD k Br.ac0).t = 0) := hidD (fun h k hk => Br.st_chk h k hk)
  have HKD : Hid (Br.runE s l = 0 → ∀ k, k < l.length → (l.getD k Br.ac0).k = 1 ∨ (l.getD k Br.ac0).k = 2 ∨ (l.getD k Br.ac0).k = 3) := hidD (fun h k hk => Br.kind_range (Br.runE_zero h).2.2.1 k hk)
  have HSA := hidD (fun W => rsets_any s W)
  generalize Br.runE s l = E at *
  generalize Br.endR2 s l = FE at *
  generalize Br.toldR s l = FT at *
  generalize Br.sets s = sb at *
  simp only [bL, sL, Br.zero] at hW0
  obtain ⟨N, hN⟩ : ∃ N, N = w.heap.size := ⟨_, rfl⟩
  rw [← hN] at X0 X1 HB HS ⊢
  obtain ⟨n, hn⟩ : ∃ n, n = l.length := ⟨_, rfl⟩
  rw [← hn] at q1 ⊢
  have HN := hidD hn
  clear hn
  replace X0 := hidD X0
  replace HBh := hidD HB
  have S0 := hidD (put5_bo Br.zero X1)
  have SB0 := hidD ((put5_cg W0 (N + 1) Br.zero).below (B := N) (by omega) (by omega) HB)
  have r0 := X1.cell 0 rfl
  have r1 := X1.cell 1 rfl
  have r2 := X1.cell 2 rfl
  have r3 := X1.cell 3 rfl
  have r4 := X1.cell 4 rfl
  have f0 := X1.frozen 0
  have f1 := X1.frozen 1
  have f2 := X1.frozen 2
  have f3 := X1.frozen 3
  have f4 := X1.frozen 4
  have X1' := hidD X1
  have HS' := hidD HS
  clear X1 HB HS
  go_enter Try.func22, Try.ntmps22
  go_upto_region 1 with fail
  rw [← hN, ← hW0]
  have HNW := hidD hN
  clear hN hW0
  go_wp2_with fail
  go_loopw [7] (fun i wr => ∃ k : Nat, k ≤ n ∧ i = .int .i64 k ∧ Hid (∀ j, j < k → Br.kd l j = false) ∧ W0 = wr) (fun i _ => n - (intOf i).toNat)
  case atStart => exact ⟨0, Nat.zero_le _, rfl, hidD (fun j hj => by omega), rfl⟩
  case round =>
    obtain ⟨k, hk, rfl, hA, rfl⟩ := hrel
    by_cases hlt : k < n
    · obtain ⟨g0, off, cap', e1, hg, hcell⟩ := aseg_at (by have := HN.out; omega) HV0.out
      rw [← HN.out] at e1
      cases e1
      obtain ⟨Q1, _, _, _⟩ := hcell k (by have := HN.out; omega)
      have HX := hidD (HK1.out k (by have := HN.out; omega))
      have HD : Hid (Br.kd l k = !(Br.inn (l.getD k Br.ac0).k 1 3)) := hidD rfl
      have hA2 : Hid (Br.kd l k = false → ∀ j, j < k + 1 → Br.kd l j = false) := hidD (fun h j hj => by
        by_cases hjk : j = k
        · subst hjk; exact h
        · exact hA.out j (by omega))
      have i1 : (k : Int) < (n : Int) := by omega
      clear hcell HK1 HK2 HK3 HK4 HK5
      generalize Br.kd l k = kdb at *
      generalize (l.getD k Br.ac0).k = x at *
      by_cases h1 : x < 1
      · have hb : kdb = true := by rw [HD.out]; simp [Br.inn]; omega
        subst hb
        have hE := HX.out (by first | rfl | trivial)
        subst hE
        obtain ⟨e1, e2⟩ := HE0.out (by decide)
        subst e1 e2
        go_wp2_with fail
        refine bodyPost_ret (ret_cell2 rfl rfl S0.out) rfl ?_
        exact ⟨_, rfl, World.ownsRow_nil _ _ _ _, SB0.out⟩
      · by_cases h3 : 3 < x
        · have hb : kdb = true := by rw [HD.out]; simp [Br.inn]; omega
          subst hb
          have hE := HX.out (by first | rfl | trivial)
          subst hE
          obtain ⟨e1, e2⟩ := HE0.out (by decide)
          subst e1 e2
          go_wp2_with fail
          refine bodyPost_ret (ret_cell2 rfl rfl S0.out) rfl ?_
          exact ⟨_, rfl, World.ownsRow_nil _ _ _ _, SB0.out⟩
        · have hb : kdb = false := by rw [HD.out]; simp [Br.inn]; omega
          have hA3 := hidD (hA2.out hb)
          clear hA2 HX HD hb hA
          go_wp2
          exact ⟨⟨k + 1, by omega, by go_num, hA3, (by first | rfl | trivial)⟩, by simp [intOf]; omega⟩
    have hke : k = n := by omega
    subst hke
    have HKA : Hid (∀ j, j < l.length → Br.kd l j = false) := hidD (by rw [← HN.out]; exact hA.out)
    clear hA HK1 hlt hk
    by_cases h512 : 512 < k
    · have hE := HK2.out HKA.out (by have := HN.out; omega)
      subst hE
      obtain ⟨e1, e2⟩ := HE0.out (by decide)
      subst e1 e2
      have h512' : (512 : Int) < (k : Int) := by omega
      go_wp2_with fail
      refine bodyPost_ret (ret_cell2 rfl rfl S0.out) rfl ?_
      exact ⟨_, rfl, World.ownsRow_nil _ _ _ _, SB0.out⟩
    have h512' : ¬ (512 : Int) < (k : Int) := by omega
    have HK3' := hidD (HK3.out HKA.out (by have := HN.out; omega))
    have HK4' := hidD (HK4.out HKA.out (by have := HN.out; omega))
    have HK5' := hidD (HK5.out HKA.out (by have := HN.out; omega))
    clear HK2 HK3 HK4 HK5
    generalize hkn : k = n at *
    clear hkn
    go_wp2_with fail
    go_loopw [8, 9] (fun la i wr => ∃ k : Nat, k ≤ n ∧ i = .int .i64 k ∧ la = .int .i64 (Br.pv l k) ∧ Hid (∀ j, j < k → Br.tk l j = false) ∧ W0 = wr) (fun _ i _ => n - (intOf i).toNat)
    case atStart => exact ⟨0, Nat.zero_le _, rfl, rfl, hidD (fun j hj => by omega), rfl⟩
    case round =>
      obtain ⟨k, hk, rfl, rfl, hA, rfl⟩ := hrel
      by_cases hlt : k < n
      · obtain ⟨g0, off, cap', e1, hg, hcell⟩ := aseg_at (by have := HN.out; omega) HV0.out
        rw [← HN.out] at e1
        cases e1
        obtain ⟨_, Q1, _, _⟩ := hcell k (by have := HN.out; omega)
        have HX := hidD (HK3'.out k (by have := HN.out; omega))
        have HD : Hid (Br.tk l k = !(Br.inn (l.getD k Br.ac0).t (Br.pv l k) 536870912)) := hidD rfl
        have HPV := hidD (Br.pv_succ l k)
        have hA2 : Hid (Br.tk l k = false → ∀ j, j < k + 1 → Br.tk l j = false) := hidD (fun h j hj => by
          by_cases hjk : j = k
          · subst hjk; exact h
          · exact hA.out j (by omega))
        have i1 : (k : Int) < (n : Int) := by omega
        clear hcell HK3' HK4' HK5'
        generalize Br.tk l k = kdb at *
        generalize (l.getD k Br.ac0).t = x at *
        generalize Br.pv l k = p at *
        by_cases h1 : x < p
        · have hb : kdb = true := by rw [HD.out]; simp [Br.inn]; omega
          subst hb
          have hE := HX.out (by first | rfl | trivial)
          subst hE
          obtain ⟨e1, e2⟩ := HE0.out (by decide)
          subst e1 e2
          go_wp2_with fail
          refine bodyPost_ret (ret_cell2 rfl rfl S0.out) rfl ?_
          exact ⟨_, rfl, World.ownsRow_nil _ _ _ _, SB0.out⟩
        · by_cases h3 : 536870912 < x
          · have hb : kdb = true := by rw [HD.out]; simp [Br.inn]; omega
            subst hb
            have hE := HX.out (by first | rfl | trivial)
            subst hE
            obtain ⟨e1, e2⟩ := HE0.out (by decide)
            subst e1 e2
            go_wp2_with fail
            refine bodyPost_ret (ret_cell2 rfl rfl S0.out) rfl ?_
            exact ⟨_, rfl, World.ownsRow_nil _ _ _ _, SB0.out⟩
          · have hb : kdb = false := by rw [HD.out]; simp [Br.inn]; omega
            have hA3 := hidD (hA2.out hb)
            clear hA2 HX HD hb hA
            go_wp2
            exact ⟨⟨k + 1, by omega, by go_num, by rw [HPV.out], hA3, (by first | rfl | trivial)⟩, by simp [intOf]; omega⟩
      have hke : k = n := by omega
      subst hke
      have HTA : Hid (∀ j, j < l.length → Br.tk l j = false) := hidD (by rw [← HN.out]; exact hA.out)
      clear hA HK3' hlt hk
      generalize hkn : k = n at *
      clear hkn
      have p0 := X0.out.cell 0 rfl
      have p1 := X0.out.cell 1 rfl
      have p2 := X0.out.cell 2 rfl
      go_wp2_with fail
      with_reducible refine (HSA.out _).mono ?_
      rintro e w1 ⟨rfl, h1⟩
      have hs1 : N + 2 ≤ w1.heap.size := by have := h1.size; have := HS'.out; omega
      have HB1 := hidD (below_on HBh.out (by have := HS'.out; omega) h1)
      have XS := hidD (X0.out.below h1)
      have XR := hidD (X1'.out.below h1)
      clear h1 p0 p1 p2 r0 r1 r2 r3 r4 f0 f1 f2 f3 f4 S0 SB0 X0 X1' HBh HS' HSA
      cases sb
      case false =>
        have hE := HK4'.out (by first | rfl | trivial)
        subst hE
        obtain ⟨e1, e2⟩ := HE0.out (by decide)
        subst e1 e2
        have S1 := hidD (put5_bo Br.zero XR.out)
        have SB1 := hidD ((put5_cg w1 (N + 1) Br.zero).below (B := N) (by omega) (by omega) HB1.out)
        have r0 := XR.out.cell 0 rfl
        have r1 := XR.out.cell 1 rfl
        have r2 := XR.out.cell 2 rfl
        have r3 := XR.out.cell 3 rfl
        have r4 := XR.out.cell 4 rfl
        have f0 := XR.out.frozen 0
        have f1 := XR.out.frozen 1
        have f2 := XR.out.frozen 2
        have f3 := XR.out.frozen 3
        have f4 := XR.out.frozen 4
        go_wp2_with fail
        refine bodyPost_ret (ret_cell2 rfl rfl S1.out) rfl ?_
        exact ⟨_, rfl, World.ownsRow_nil _ _ _ _, SB1.out⟩
      have hE := HK5'.out HTA.out (by first | rfl | trivial)
      subst hE
      obtain ⟨e1, e2⟩ := HE1.out (by first | rfl | trivial)
      have HCK := hidD (HCH.out (by first | rfl | trivial))
      have HKK := hidD (HKD.out (by first | rfl | trivial))
      rw [← HN.out] at e1 e2
      subst e1 e2
      clear HE0 HE1 HCH HKD HK4' HK5' HTA HKA
      have Y := hidD (Bo.new w1 [.int .i64 0, .int .i64 0, .int .i64 0, .int .i64 0, .int .i64 0] 23)
      have XS' := hidD (XS.out.alloc (.cells #[.int .i64 0, .int .i64 0, .int .i64 0, .int .i64 0, .int .i64 0] 23))
      have XR' := hidD (XR.out.alloc (.cells #[.int .i64 0, .int .i64 0, .int .i64 0, .int .i64 0, .int .i64 0] 23))
      have HB' := hidD (HB1.out.alloc (by omega) (.cells #[.int .i64 0, .int .i64 0, .int .i64 0, .int .i64 0, .int .i64 0] 23))
      clear XS XR HB1
      go_upto_region 18 with fail
      generalize w1.alloc (.cells #[.int .i64 0, .int .i64 0, .int .i64 0, .int .i64 0, .int .i64 0] 23) = W1 at *
      generalize w1.heap.size = C at *
      go_wp2_with fail
      go_loopw [11, 12] (fun tv i wr => ∃ k : Nat, k ≤ n ∧ i = .int .i64 k ∧ Hid (Bo wr C (bL (Br.st s l k)) 23) ∧ Hid (wr.ownsRow (C + 1) 3 1 tv k (i64s (Br.tolds s l k))) ∧ Hid (Bo wr N (sL s) 25) ∧ Hid (Bo wr (N + 1) (bL Br.zero) 23) ∧ Hid (Below N w wr)) (fun _ i _ => n - (intOf i).toNat)
      case atStart => exact ⟨0, Nat.zero_le _, rfl, Y, hidD (World.ownsRow_nil _ _ _ _), XS', XR', HB'⟩
      case round =>
        clear Y XS' XR' HB'
        obtain ⟨k, hk, rfl, BB, OW, SS, RR, HH⟩ := hrel
        have hCw := BB.out.lt
        obtain ⟨ta, tc, rfl⟩ := own_sl OW.out
        by_cases hlt : k < n
        · obtain ⟨g0, off, cap', e1, hg, hcell⟩ := aseg_at (by have := HN.out; omega) (HV.out.below (HNW.out ▸ HH.out))
          rw [← HN.out] at e1
          cases e1
          obtain ⟨Q1, Q2, Q3, Q4⟩ := hcell k (by have := HN.out; omega)
          have hck := HCK.out k (by have := HN.out; omega)
          have hkk := HKK.out k (by have := HN.out; omega)
          have HST := hidD (Br.st_succ s l k (by have := HN.out; omega))
          have HTO := hidD (Br.told_succ s l k)
          have i1 : (k : Int) < (n : Int) := by omega
          clear hcell HCK HKK
          generalize l.getD k Br.ac0 = a at *
          generalize Br.st s l k = b at *
          generalize Br.tolds s l k = tol at *
          have G1 := hidD (fun h => Br.step1 (s := s) (b := b) (a := a) h hck)
          have G2 := hidD (fun h => Br.step2 (s := s) (b := b) (a := a) h hck)
          have G3 := hidD (fun h => Br.step3 (s := s) (b := b) (a := a) h hck)
          have K1 := hidD (fun W => rtick_any b s a.t W)
          have K2 := hidD (fun W => rbegin_any b s a.t W)
          have K3 := hidD (fun W => rend_any b s a.t a.p a.g W)
          rw [hck] at K1 K3
          generalize Br.step s b a = ba at *
          obtain ⟨b2, r⟩ := ba
          generalize Br.tickR b s a.t = T1 at *
          generalize Br.begR b s a.t = T2 at *
          generalize Br.begP b s a.t = P2 at *
          generalize Br.begE b s a.t = E2 at *
          generalize Br.endR b s a.t a.p a.g = T3 at *
          dsimp only at HST HTO G1 G2 G3
          replace BB := hidD (BB.out.alloc (.cells #[.int .i64 a.k, .int .i64 a.t, .bool a.p, .bool a.g] 55))
          replace OW := hidD (OW.out.alloc (.cells #[.int .i64 a.k, .int .i64 a.t, .bool a.p, .bool a.g] 55))
          replace RR := hidD (RR.out.alloc (.cells #[.int .i64 a.k, .int .i64 a.t, .bool a.p, .bool a.g] 55))
          replace SS := hidD (SS.out.alloc (.cells #[.int .i64 a.k, .int .i64 a.t, .bool a.p, .bool a.g] 55))
          replace HH := hidD (HH.out.alloc (by omega) (.cells #[.int .i64 a.k, .int .i64 a.t, .bool a.p, .bool a.g] 55))
          have XA := hidD (Bo.new wr [.int .i64 a.k, .int .i64 a.t, .bool a.p, .bool a.g] 55)
          have hsA : C + 1 ≤ (wr.alloc (.cells #[.int .i64 a.k, .int .i64 a.t, .bool a.p, .bool a.g] 55)).heap.size := by simp; omega
          clear hck
          go_upto_region 23 with fail
          generalize wr.alloc (.cells #[.int .i64 a.k, .int .i64 a.t, .bool a.p, .bool a.g] 55) = W2 at *
          generalize wr.heap.size = D at *
          clear Q1 Q2 Q3 Q4 hg hCw
          have bc0 := BB.out.cell 0 rfl
          have bc1 := BB.out.cell 1 rfl
          have bc2 := BB.out.cell 2 rfl
          have bc3 := BB.out.cell 3 rfl
          have bc4 := BB.out.cell 4 rfl
          have bf0 := BB.out.frozen 0
          have bf1 := BB.out.frozen 1
          have bf2 := BB.out.frozen 2
          have bf3 := BB.out.frozen 3
          have bf4 := BB.out.frozen 4
          have sc0 := SS.out.cell 0 rfl
          have sc1 := SS.out.cell 1 rfl
          have sc2 := SS.out.cell 2 rfl
          have xc0 := XA.out.cell 0 rfl
          have xc1 := XA.out.cell 1 rfl
          have xc2 := XA.out.cell 2 rfl
          have xc3 := XA.out.cell 3 rfl
          have HGN : Hid (some C ≠ (Value.slice ta k tc).ownBlock ∧ some N ≠ (Value.slice ta k tc).ownBlock ∧ some (N + 1) ≠ (Value.slice ta k tc).ownBlock ∧ ∀ j, (Value.slice ta k tc).ownBlock = some j → N ≤ j) := hidD ⟨fun e => by have := (OW.out.lt _ e.symm).1; omega, fun e => by have := (OW.out.lt _ e.symm).1; omega, fun e => by have := (OW.out.lt _ e.symm).1; omega, fun j hj => by have := (OW.out.lt _ hj).1; omega⟩
          have hkn : k + 1 ≤ 512 := by omega
          obtain ⟨ak, at', ap, ag⟩ := a
          dsimp only at *
          rcases hkk with rfl | rfl | rfl
          · have c := K1.out W2
            obtain ⟨e1, e2⟩ := G1.out (by first | rfl | trivial)
            subst e1 e2
            clear K1 K2 K3 G1 G2 G3
            go_wp2_with fail
            with_reducible refine c.mono ?_
            rintro e w5 ⟨rfl, h5⟩
            have Bx5 := BB.out.below h5
            have d0 := Bx5.cell 0 rfl
            have d1 := Bx5.cell 1 rfl
            have d2 := Bx5.cell 2 rfl
            have d3 := Bx5.cell 3 rfl
            have d4 := Bx5.cell 4 rfl
            have g0 := Bx5.frozen 0
            have g1 := Bx5.frozen 1
            have g2 := Bx5.frozen 2
            have g3 := Bx5.frozen 3
            have g4 := Bx5.frozen 4
            have BB3 := hidD (put5_bo T1 Bx5)
            have C5 := put5_cg w5 C T1
            have hz5 := h5.size
            have OW3 := hidD (own_cg (ownsRow_below OW.out h5) C5)
            have SS3 := hidD (C5.bo (by omega) (SS.out.below h5))
            have RR3 := hidD (C5.bo (by omega) (RR.out.below h5))
            have HH3 := hidD (C5.below (B := N) (by omega) (by omega) (below_on HH.out (by omega) h5))
            have hs3 : C + 1 ≤ (put5 w5 C T1).heap.size := Nat.le_trans (Nat.le_trans hsA hz5) C5.size
            clear bc0 bc1 bc2 bc3 bc4 bf0 bf1 bf2 bf3 bf4 sc0 sc1 sc2 xc0 xc1 xc2 xc3 Bx5 C5 h5 hz5 BB SS RR HH OW XA c
            go_upto_region 34 with fail
            obtain ⟨W3, hW3⟩ : ∃ W3, W3 = put5 w5 C T1 := ⟨_, rfl⟩
            rw [← hW3] at BB3 OW3 SS3 RR3 HH3 hs3
            rw [show (((((w5.setCell ⟨C, 0, none⟩ (.int .i64 T1.m)).setCell ⟨C, 1, none⟩ (.int .i64 T1.f)).setCell ⟨C, 2, none⟩ (.int .i64 T1.u)).setCell ⟨C, 3, none⟩ (.int .i64 T1.p)).setCell ⟨C, 4, none⟩ (.int .i64 T1.w)) = W3 from hW3.symm]
            clear hW3
            go_wp2_with (at_builtin; refine wpList_append_own _ rfl _ _ 47 rfl (C + 1) 3 i0 _ 1 8 Try.underlying47 hi hz0 hz1 hz2 rfl (by decide) _ _ _ rfl (OW3.out.alloc _) ⟨W3.heap.size, 0, none⟩ 1 1 [.int .i64 0] rfl rfl (World.news_of_block (heap_alloc_new W3 _)) (by simp [Value.oneCell']) (by unfold maxLen; omega) (by omega) (by simp; omega) ?_; intro v6 w6 hown6 hgr6 _)
            have HG := HGN.out
            have B6 := hidD ((hgr6.block C (by simp; omega) HG.1).trans (BB3.out.alloc _))
            have S6 := hidD ((hgr6.block N (by simp; omega) HG.2.1).trans (SS3.out.alloc _))
            have R6 := hidD ((hgr6.block (N + 1) (by simp; omega) HG.2.2.1).trans (RR3.out.alloc _))
            have H6 := hidD ((HH3.out.alloc (by omega) (.cells #[.int .i64 0] 3)).grown hgr6 (by simp; omega) (fun j hj => HG.2.2.2 j hj))
            have O6 := hidD hown6
            clear hown6 hgr6
            go_wp2
            exact ⟨⟨k + 1, by omega, by go_num, by rw [HST.out]; exact B6, by rw [HTO.out, show i64s (tol ++ [0]) = i64s tol ++ [.int .i64 0] from by simp [i64s]]; exact O6, S6, R6, H6⟩, by simp [intOf]; omega⟩
          · have c := K2.out W2
            have gg := G2.out (by first | rfl | trivial)
            clear K1 K2 K3 G1 G2 G3
            go_upto_region 28 with (go_at_call 14; with_reducible refine c.mono ?_; rintro e w5 ⟨rfl, h5⟩)
            have hz5 := h5.size
            have Bx5 := (BB.out.below h5).alloc (.cells #[.int .i64 T2.m, .int .i64 T2.f, .int .i64 T2.u, .int .i64 T2.p, .int .i64 T2.w] 23)
            have YT := Bo.new w5 [.int .i64 T2.m, .int .i64 T2.f, .int .i64 T2.u, .int .i64 T2.p, .int .i64 T2.w] 23
            have OW5 := hidD ((ownsRow_below OW.out h5).alloc (.cells #[.int .i64 T2.m, .int .i64 T2.f, .int .i64 T2.u, .int .i64 T2.p, .int .i64 T2.w] 23))
            have SS5 := hidD ((SS.out.below h5).alloc (.cells #[.int .i64 T2.m, .int .i64 T2.f, .int .i64 T2.u, .int .i64 T2.p, .int .i64 T2.w] 23))
            have RR5 := hidD ((RR.out.below h5).alloc (.cells #[.int .i64 T2.m, .int .i64 T2.f, .int .i64 T2.u, .int .i64 T2.p, .int .i64 T2.w] 23))
            have HH5 := hidD ((below_on HH.out (by omega) h5).alloc (by omega) (.cells #[.int .i64 T2.m, .int .i64 T2.f, .int .i64 T2.u, .int .i64 T2.p, .int .i64 T2.w] 23))
            have hs5 : C + 1 ≤ (w5.alloc (.cells #[.int .i64 T2.m, .int .i64 T2.f, .int .i64 T2.u, .int .i64 T2.p, .int .i64 T2.w] 23)).heap.size := by simp; omega
            clear bc0 bc1 bc2 bc3 bc4 bf0 bf1 bf2 bf3 bf4 sc0 sc1 sc2 xc0 xc1 xc2 xc3 BB SS RR HH OW XA c h5
            generalize w5.alloc (.cells #[.int .i64 T2.m, .int .i64 T2.f, .int .i64 T2.u, .int .i64 T2.p, .int .i64 T2.w] 23) = W4 at *
            generalize w5.heap.size = D2 at *
            rcases gg with ⟨e0, e1, e2⟩ | ⟨e0, e3, e1, e2⟩ | ⟨e0, e3, e1, e2⟩
            · subst e0 e1 e2
              generalize W4 = W3 at *
              have BB3 := hidD Bx5
              have OW3 := OW5
              have SS3 := SS5
              have RR3 := RR5
              have HH3 := HH5
              have hs3 := hs5
              clear Bx5 YT OW5 SS5 RR5 HH5 hs5
              go_wp2_with (at_builtin; refine wpList_append_own _ rfl _ _ 47 rfl (C + 1) 3 i0 _ 1 8 Try.underlying47 hi hz0 hz1 hz2 rfl (by decide) _ _ _ rfl (OW3.out.alloc _) ⟨W3.heap.size, 0, none⟩ 1 1 [.int .i64 2] rfl rfl (World.news_of_block (heap_alloc_new W3 _)) (by simp [Value.oneCell']) (by unfold maxLen; omega) (by omega) (by simp; omega) ?_; intro v6 w6 hown6 hgr6 _)
              have HG := HGN.out
              have B6 := hidD ((hgr6.block C (by simp; omega) HG.1).trans (BB3.out.alloc _))
              have S6 := hidD ((hgr6.block N (by simp; omega) HG.2.1).trans (SS3.out.alloc _))
              have R6 := hidD ((hgr6.block (N + 1) (by simp; omega) HG.2.2.1).trans (RR3.out.alloc _))
              have H6 := hidD ((HH3.out.alloc (by omega) (.cells #[.int .i64 2] 3)).grown hgr6 (by simp; omega) (fun j hj => HG.2.2.2 j hj))
              have O6 := hidD hown6
              clear hown6 hgr6
              go_wp2
              exact ⟨⟨k + 1, by omega, by go_num, by rw [HST.out]; exact B6, by rw [HTO.out, show i64s (tol ++ [2]) = i64s tol ++ [.int .i64 2] from by simp [i64s]]; exact O6, S6, R6, H6⟩, by simp [intOf]; omega⟩
            · subst e0 e3 e1 e2
              have d0 := YT.cell 0 rfl
              have d1 := YT.cell 1 rfl
              have d2 := YT.cell 2 rfl
              have d3 := YT.cell 3 rfl
              have d4 := YT.cell 4 rfl
              have h0 := Bx5.cell 0 rfl
              have h1 := Bx5.cell 1 rfl
              have h2 := Bx5.cell 2 rfl
              have h3 := Bx5.cell 3 rfl
              have h4 := Bx5.cell 4 rfl
              have g0 := Bx5.frozen 0
              have g1 := Bx5.frozen 1
              have g2 := Bx5.frozen 2
              have g3 := Bx5.frozen 3
              have g4 := Bx5.frozen 4
              have BB3 := hidD (put5_bo b2 Bx5)
              have C5 := put5_cg W4 C b2
              have OW3 := hidD (own_cg OW5.out C5)
              have SS3 := hidD (C5.bo (by omega) SS5.out)
              have RR3 := hidD (C5.bo (by omega) RR5.out)
              have HH3 := hidD (C5.below (B := N) (by omega) (by omega) HH5.out)
              have hs3 : C + 1 ≤ (put5 W4 C b2).heap.size := Nat.le_trans hs5 C5.size
              clear Bx5 YT C5 OW5 SS5 RR5 HH5
              go_upto_region 34 with fail
              obtain ⟨W3, hW3⟩ : ∃ W3, W3 = put5 W4 C b2 := ⟨_, rfl⟩
              rw [← hW3] at BB3 OW3 SS3 RR3 HH3 hs3
              rw [show (((((W4.setCell ⟨C, 0, none⟩ (.int .i64 b2.m)).setCell ⟨C, 1, none⟩ (.int .i64 b2.f)).setCell ⟨C, 2, none⟩ (.int .i64 b2.u)).setCell ⟨C, 3, none⟩ (.int .i64 b2.p)).setCell ⟨C, 4, none⟩ (.int .i64 b2.w)) = W3 from hW3.symm]
              clear hW3
              go_wp2_with (at_builtin; refine wpList_append_own _ rfl _ _ 47 rfl (C + 1) 3 i0 _ 1 8 Try.underlying47 hi hz0 hz1 hz2 rfl (by decide) _ _ _ rfl (OW3.out.alloc _) ⟨W3.heap.size, 0, none⟩ 1 1 [.int .i64 1] rfl rfl (World.news_of_block (heap_alloc_new W3 _)) (by simp [Value.oneCell']) (by unfold maxLen; omega) (by omega) (by simp; omega) ?_; intro v6 w6 hown6 hgr6 _)
              have HG := HGN.out
              have B6 := hidD ((hgr6.block C (by simp; omega) HG.1).trans (BB3.out.alloc _))
              have S6 := hidD ((hgr6.block N (by simp; omega) HG.2.1).trans (SS3.out.alloc _))
              have R6 := hidD ((hgr6.block (N + 1) (by simp; omega) HG.2.2.1).trans (RR3.out.alloc _))
              have H6 := hidD ((HH3.out.alloc (by omega) (.cells #[.int .i64 1] 3)).grown hgr6 (by simp; omega) (fun j hj => HG.2.2.2 j hj))
              have O6 := hidD hown6
              clear hown6 hgr6
              go_wp2
              exact ⟨⟨k + 1, by omega, by go_num, by rw [HST.out]; exact B6, by rw [HTO.out, show i64s (tol ++ [1]) = i64s tol ++ [.int .i64 1] from by simp [i64s]]; exact O6, S6, R6, H6⟩, by simp [intOf]; omega⟩
            · subst e0 e3 e1 e2
              generalize W4 = W3 at *
              have BB3 := hidD Bx5
              have OW3 := OW5
              have SS3 := SS5
              have RR3 := RR5
              have HH3 := HH5
              have hs3 := hs5
              clear Bx5 YT OW5 SS5 RR5 HH5 hs5
              go_wp2_with (at_builtin; refine wpList_append_own _ rfl _ _ 47 rfl (C + 1) 3 i0 _ 1 8 Try.underlying47 hi hz0 hz1 hz2 rfl (by decide) _ _ _ rfl (OW3.out.alloc _) ⟨W3.heap.size, 0, none⟩ 1 1 [.int .i64 0] rfl rfl (World.news_of_block (heap_alloc_new W3 _)) (by simp [Value.oneCell']) (by unfold maxLen; omega) (by omega) (by simp; omega) ?_; intro v6 w6 hown6 hgr6 _)
              have HG := HGN.out
              have B6 := hidD ((hgr6.block C (by simp; omega) HG.1).trans (BB3.out.alloc _))
              have S6 := hidD ((hgr6.block N (by simp; omega) HG.2.1).trans (SS3.out.alloc _))
              have R6 := hidD ((hgr6.block (N + 1) (by simp; omega) HG.2.2.1).trans (RR3.out.alloc _))
              have H6 := hidD ((HH3.out.alloc (by omega) (.cells #[.int .i64 0] 3)).grown hgr6 (by simp; omega) (fun j hj => HG.2.2.2 j hj))
              have O6 := hidD hown6
              clear hown6 hgr6
              go_wp2
              exact ⟨⟨k + 1, by omega, by go_num, by rw [HST.out]; exact B6, by rw [HTO.out, show i64s (tol ++ [0]) = i64s tol ++ [.int .i64 0] from by simp [i64s]]; exact O6, S6, R6, H6⟩, by simp [intOf]; omega⟩
          · have c := K3.out W2
            obtain ⟨e1, e2⟩ := G3.out (by first | rfl | trivial)
            subst e1 e2
            clear K1 K2 K3 G1 G2 G3
            go_wp2_with fail
            with_reducible refine c.mono ?_
            rintro e w5 ⟨rfl, h5⟩
            have Bx5 := BB.out.below h5
            have d0 := Bx5.cell 0 rfl
            have d1 := Bx5.cell 1 rfl
            have d2 := Bx5.cell 2 rfl
            have d3 := Bx5.cell 3 rfl
            have d4 := Bx5.cell 4 rfl
            have g0 := Bx5.frozen 0
            have g1 := Bx5.frozen 1
            have g2 := Bx5.frozen 2
            have g3 := Bx5.frozen 3
            have g4 := Bx5.frozen 4
            have BB3 := hidD (put5_bo T3 Bx5)
            have C5 := put5_cg w5 C T3
            have hz5 := h5.size
            have OW3 := hidD (own_cg (ownsRow_below OW.out h5) C5)
            have SS3 := hidD (C5.bo (by omega) (SS.out.below h5))
            have RR3 := hidD (C5.bo (by omega) (RR.out.below h5))
            have HH3 := hidD (C5.below (B := N) (by omega) (by omega) (below_on HH.out (by omega) h5))
            have hs3 : C + 1 ≤ (put5 w5 C T3).heap.size := Nat.le_trans (Nat.le_trans hsA hz5) C5.size
            clear bc0 bc1 bc2 bc3 bc4 bf0 bf1 bf2 bf3 bf4 sc0 sc1 sc2 xc0 xc1 xc2 xc3 Bx5 C5 h5 hz5 BB SS RR HH OW XA c
            go_upto_region 34 with fail
            obtain ⟨W3, hW3⟩ : ∃ W3, W3 = put5 w5 C T3 := ⟨_, rfl⟩
            rw [← hW3] at BB3 OW3 SS3 RR3 HH3 hs3
            rw [show (((((w5.setCell ⟨C, 0, none⟩ (.int .i64 T3.m)).setCell ⟨C, 1, none⟩ (.int .i64 T3.f)).setCell ⟨C, 2, none⟩ (.int .i64 T3.u)).setCell ⟨C, 3, none⟩ (.int .i64 T3.p)).setCell ⟨C, 4, none⟩ (.int .i64 T3.w)) = W3 from hW3.symm]
            clear hW3
            go_wp2_with (at_builtin; refine wpList_append_own _ rfl _ _ 47 rfl (C + 1) 3 i0 _ 1 8 Try.underlying47 hi hz0 hz1 hz2 rfl (by decide) _ _ _ rfl (OW3.out.alloc _) ⟨W3.heap.size, 0, none⟩ 1 1 [.int .i64 0] rfl rfl (World.news_of_block (heap_alloc_new W3 _)) (by simp [Value.oneCell']) (by unfold maxLen; omega) (by omega) (by simp; omega) ?_; intro v6 w6 hown6 hgr6 _)
            have HG := HGN.out
            have B6 := hidD ((hgr6.block C (by simp; omega) HG.1).trans (BB3.out.alloc _))
            have S6 := hidD ((hgr6.block N (by simp; omega) HG.2.1).trans (SS3.out.alloc _))
            have R6 := hidD ((hgr6.block (N + 1) (by simp; omega) HG.2.2.1).trans (RR3.out.alloc _))
            have H6 := hidD ((HH3.out.alloc (by omega) (.cells #[.int .i64 0] 3)).grown hgr6 (by simp; omega) (fun j hj => HG.2.2.2 j hj))
            have O6 := hidD hown6
            clear hown6 hgr6
            go_wp2
            exact ⟨⟨k + 1, by omega, by go_num, by rw [HST.out]; exact B6, by rw [HTO.out, show i64s (tol ++ [0]) = i64s tol ++ [.int .i64 0] from by simp [i64s]]; exact O6, S6, R6, H6⟩, by simp [intOf]; omega⟩
        · have hke : k = n := by omega
          subst hke
          have hlq := hidD (Br.told_length s l k)
          have SF := hidD (put5_bo (Br.st s l k) RR.out)
          have FO := hidD (own_put5 (C := C) (N := N) (Br.st s l k) OW.out (by omega))
          have FB := hidD ((put5_cg wr (N + 1) (Br.st s l k)).below (B := N) (by omega) (by omega) HH.out)
          have zc0 := BB.out.cell 0 rfl
          have zc1 := BB.out.cell 1 rfl
          have zc2 := BB.out.cell 2 rfl
          have zc3 := BB.out.cell 3 rfl
          have zc4 := BB.out.cell 4 rfl
          have rc0 := RR.out.cell 0 rfl
          have rc1 := RR.out.cell 1 rfl
          have rc2 := RR.out.cell 2 rfl
          have rc3 := RR.out.cell 3 rfl
          have rc4 := RR.out.cell 4 rfl
          have rf0 := RR.out.frozen 0
          have rf1 := RR.out.frozen 1
          have rf2 := RR.out.frozen 2
          have rf3 := RR.out.frozen 3
          have rf4 := RR.out.frozen 4
          clear BB OW SS RR HH HV
          go_wp2_with fail
          refine bodyPost_ret (ret_cell2 rfl rfl SF.out) rfl ?_
          exact ⟨_, rfl, by rw [hlq.out]; exact FO.out, FB.out⟩
end Go.Proofs.Ytkfkhhhoboenkaa
