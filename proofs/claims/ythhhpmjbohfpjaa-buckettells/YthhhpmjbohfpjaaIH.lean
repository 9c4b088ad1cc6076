/- bucket: the reference's Run. -/
import Derived.Test.YthhhpmjbohfpjaaIF
import Derived.Test.YthhhpmjbohfpjaaIG
namespace Go.Proofs.Ythhhpmjbohfpjaa
open Go.RowKit
set_option linter.unusedVariables false
set_option maxRecDepth 20000

theorem Bu.addR_one {s : Bu.Se} {v e : Int} (h : Bu.chk s v = 0) : Bu.addE s v 1 = 0 ∧ Bu.addR s v 1 e = Bu.up s (v + e) := by
  have ha := Bu.addE_good (n := 1) h (by decide) (by decide)
  refine ⟨ha, ?_⟩
  unfold Bu.addR
  rw [if_pos ha, Int.one_mul]
theorem Bu.runE_len {s : Bu.Se} {l : List Int} (h : Bu.sets s = true) (h2 : 4096 < l.length) : Bu.runE s l = 3 := by
  unfold Bu.runE
  rw [if_pos h, if_pos h2]
theorem Bu.runE_kind {s : Bu.Se} {l : List Int} (h : Bu.sets s = true) (h2 : l.length ≤ 4096) (k : Nat) (hk : k < l.length) (h3 : ¬ (1 ≤ l.getD k 0 ∧ l.getD k 0 ≤ 3)) : Bu.runE s l = 23 := by
  unfold Bu.runE
  rw [if_pos h, if_neg (by omega), if_neg]
  intro hh
  have := Bu.kind_at hh k hk
  omega
theorem Bu.runE_good {s : Bu.Se} {l : List Int} (h : Bu.sets s = true) (h2 : l.length ≤ 4096) (h3 : ∀ k, k < l.length → 1 ≤ l.getD k 0 ∧ l.getD k 0 ≤ 3) : Bu.runE s l = 0 := by
  unfold Bu.runE
  rw [if_pos h, if_neg (by omega), if_pos]
  unfold Bu.kinds
  rw [List.all_eq_true]
  intro x hx
  obtain ⟨k, hk, rfl⟩ := List.mem_iff_getElem.1 hx
  have := h3 k hk
  rw [dgetD_at hk] at this
  exact Bu.inn_iff.2 this

set_option maxHeartbeats 4000000 in
theorem rrun_any (s : Bu.Se) (v : Value) (l : List Int) (w : World) (hv : Seg .i64 w v l) : Calls Try.prog 22 #[vS s, v] w fun e w' => e = .returned (.tuple #[.int .i64 (Bu.runV s l), .int .i64 (Bu.runN s l), .int .i64 (Bu.runE s l)]) ∧ Below w.heap.size w w' := by
  have cs := fun W => rstart_any s W
  have HE0 : Hid (¬ Bu.runE s l = 0 → Bu.runV s l = 0 ∧ Bu.runN s l = 0) := hidD (fun h => ⟨if_neg h, if_neg h⟩)
  have HE1 : Hid (Bu.runE s l = 0 → Bu.runV s l = (Bu.st s (l.take l.length)).1 ∧ Bu.runN s l = (Bu.st s (l.take l.length)).2) := hidD (fun h => by rw [List.take_length]; exact ⟨if_pos h, if_pos h⟩)
  have HS4 : Hid (Bu.sets s = false → Bu.runE s l = 4) := hidD (fun h => if_neg (by simp [h]))
  have HS3 := hidD (@Bu.runE_len s l)
  have HS23 := hidD (@Bu.runE_kind s l)
  have HSG := hidD (@Bu.runE_good s l)
  have HR : Hid (Bu.sets s = true → Bu.startR s = 1000 * s.r ∧ Bu.startE s = 0) := hidD (fun h => ⟨if_pos h, if_pos h⟩)
  have HR4 : Hid (Bu.sets s = false → Bu.startR s = 0 ∧ Bu.startE s = 4) := hidD (fun h => ⟨if_neg (by simp [h]), if_neg (by simp [h])⟩)
  have HST : Hid (Bu.sets s = true → l.length ≤ 4096 → ∀ k, k < l.length → Bu.st s (l.take (k + 1)) = Bu.step s (Bu.st s (l.take k)) (l.getD k 0) ∧ Bu.chk s (Bu.st s (l.take k)).1 = 0 ∧ IntKind.i64.wrap ((Bu.st s (l.take k)).2 + 1) = (Bu.st s (l.take k)).2 + 1) := hidD (fun h hl k hk => by
    obtain ⟨⟨a1, a2⟩, ⟨a3, a4⟩, _⟩ := Bu.bound h l k (by omega)
    exact ⟨Bu.st_take s l k hk, Bu.chk_good h a1 a2, wrap_ok (by omega) (by omega)⟩)
  have HV := hidD hv
  obtain ⟨av, cv, hva, _, q2, _, _⟩ := hv
  unfold maxLen at q2
  have HVA := hidD hva
  generalize Bu.startR s = SR at *
  generalize Bu.startE s = SE at *
  generalize Bu.runV s l = FV at *
  generalize Bu.runN s l = FN at *
  obtain ⟨E, hE⟩ : ∃ E, E = Bu.runE s l := ⟨_, rfl⟩
  rw [← hE] at HE0 HE1 HS4 HS3 HS23 HSG ⊢
  clear hE
  obtain ⟨n, hn⟩ : ∃ n, n = l.length := ⟨_, rfl⟩
  rw [← hn] at hva
  have HNL := hidD hn
  subst hva
  clear hn
  obtain ⟨b1, hb1⟩ : ∃ b, b = Bu.sets s := ⟨_, rfl⟩
  have HSB := hidD hb1
  rw [← hb1] at HS4 HS3 HS23 HSG HR HR4 HST
  clear hb1
  have HB := hidD ((Below.refl w.heap.size w).alloc (Nat.le_refl _) (.cells (sL s).toArray 23))
  have B0 := hidD (Bo.new w (sL s) 23)
  have HS : Hid (w.heap.size + 1 ≤ (w.alloc (.cells (sL s).toArray 23)).heap.size) := hidD (by rw [World.size_alloc]; omega)
  obtain ⟨W0, hW0⟩ : ∃ W0, W0 = w.alloc (.cells (sL s).toArray 23) := ⟨_, rfl⟩
  obtain ⟨N, hN⟩ : ∃ N, N = w.heap.size := ⟨_, rfl⟩
  rw [← hW0] at HB B0 HS
  have HNW := hidD hN
  rw [← hN] at HB B0 HS ⊢
  simp only [sL] at hW0
  go_enter Try.func22, Try.ntmps22
  go_wp2_with fail
  rw [← hN, ← hW0]
  clear hW0 hN
  with_reducible refine (cs W0).mono ?_
  rintro e w1 ⟨rfl, h1⟩
  have X0 := hidD (B0.out.below h1)
  have hb1 := hidD (below_on HB.out (Nat.le_of_succ_le HS.out) h1)
  have hs1 := hidD (Nat.le_trans HS.out h1.size)
  clear B0 HB HS h1 cs
  cases b1
  · obtain ⟨e1, e2⟩ := HR4.out rfl
    have e3 := HS4.out rfl
    subst e1 e2 e3
    obtain ⟨e4, e5⟩ := HE0.out (by decide)
    subst e4 e5
    clear HE0 HE1 HS4 HS3 HS23 HSG HR HR4 HST HV HVA HSB X0
    go_wp2_with fail
    go_ret3
    exact ⟨rfl, hb1.out⟩
  obtain ⟨e1, e2⟩ := HR.out rfl
  subst e1 e2
  clear HS4 HR HR4
  by_cases hl : 4096 < n
  · have e3 := HS3.out rfl (by have := HNL.out; omega)
    subst e3
    obtain ⟨e4, e5⟩ := HE0.out (by decide)
    subst e4 e5
    have hl2 : decide ((4096 : Int) < (n : Int)) = true := decide_eq_true (by omega)
    clear HE0 HE1 HS3 HS23 HSG HST HV HVA HSB X0
    go_wp2_with fail
    go_ret3
    exact ⟨rfl, hb1.out⟩
  have hln : n ≤ 4096 := by omega
  have hl2 : decide ((4096 : Int) < (n : Int)) = false := decide_eq_false (by omega)
  have H23 := hidD (HS23.out rfl (by have := HNL.out; omega))
  have HG := hidD (HSG.out rfl (by have := HNL.out; omega))
  have HT := hidD (HST.out rfl (by have := HNL.out; omega))
  clear HS3 HS23 HSG HST hl
  go_wp2_with fail
  go_loopw [9] (fun i wr => ∃ k : Nat, k ≤ n ∧ i = .int .i64 k ∧ Hid (∀ j, j < k → 1 ≤ l.getD j 0 ∧ l.getD j 0 ≤ 3) ∧ wr = w1) (fun i _ => n - (intOf i).toNat)
  case atStart => exact ⟨0, Nat.zero_le _, rfl, hidD (fun j hj => by omega), rfl⟩
  case round =>
    obtain ⟨k, hk, rfl, HK, rfl⟩ := hrel
    by_cases hlt : k < n
    · have hlt2 : decide ((k : Int) < (n : Int)) = true := decide_eq_true (by omega)
      obtain ⟨g, off, cap', e1, hg, hcell⟩ := nseg_at (by have := HNL.out; omega) (HV.out.below (HNW.out ▸ hb1.out))
      have q := hcell k (by have := HNL.out; omega)
      have H23k := hidD (H23.out k (by have := HNL.out; omega))
      rw [HVA.out, ← HNL.out] at e1
      cases e1
      clear hcell
      generalize ha : l.getD k 0 = a at q H23k
      have ha2 := hidD ha
      clear ha
      by_cases t0 : a < 1
      · skip
        have e3 := H23k.out (by omega)
        subst e3
        obtain ⟨e4, e5⟩ := HE0.out (by decide)
        subst e4 e5
        clear HE0 HE1 H23 HG HT HV HVA HSB H23k HK ha2 X0
        go_wp2_with fail
        go_ret3
        exact ⟨rfl, hb1.out⟩
      by_cases t1 : 3 < a
      · skip
        have e3 := H23k.out (by omega)
        subst e3
        obtain ⟨e4, e5⟩ := HE0.out (by decide)
        subst e4 e5
        clear HE0 HE1 H23 HG HT HV HVA HSB H23k HK ha2 X0
        go_wp2_with fail
        go_ret3
        exact ⟨rfl, hb1.out⟩
      have HK2 : Hid (∀ j, j < k + 1 → 1 ≤ l.getD j 0 ∧ l.getD j 0 ≤ 3) := hidD (fun j hj => by
        by_cases hjk : j < k
        · exact HK.out j hjk
        · have : j = k := by omega
          subst this
          rw [ha2.out]
          omega)
      clear H23k HK ha2
      go_wp2_with fail
      exact ⟨⟨k + 1, by omega, by go_num, HK2, (by first | trivial | rfl)⟩, by simp [intOf]; omega⟩
    · have hkn : k = n := by omega
      subst hkn
      have e3 := HG.out (fun j hj => HK.out j (by have := HNL.out; omega))
      subst e3
      have HF := hidD (HE1.out (by first | trivial | rfl))
      have hlt2 : decide ((k : Int) < (k : Int)) = false := decide_eq_false (by omega)
      clear HE0 HE1 HG H23
      go_wp2_with fail
      clear hlt2
      go_loopw [7, 10, 11] (fun lv nv i wr => ∃ m : Nat, m ≤ k ∧ i = .int .i64 m ∧ lv = .int .i64 (Bu.st s (l.take m)).1 ∧ nv = .int .i64 (Bu.st s (l.take m)).2 ∧ Hid (Bo wr N (sL s) 23) ∧ Hid (Below N w wr) ∧ Hid (N + 1 ≤ wr.heap.size)) (fun _ _ i _ => k - (intOf i).toNat)
      case atStart => exact ⟨0, Nat.zero_le _, rfl, by rw [Bu.st_zero], by rw [Bu.st_zero], X0, hb1, hs1⟩
      case round =>
        clear X0 hb1 hs1
        obtain ⟨m, hm, rfl, rfl, rfl, X0, hb1, hs1⟩ := hrel
        by_cases hlm : m < k
        · have hlm2 : decide ((m : Int) < (k : Int)) = true := decide_eq_true (by omega)
          obtain ⟨g, off, cap', e1, hg, hcell⟩ := nseg_at (by have := HNL.out; omega) (HV.out.below (HNW.out ▸ hb1.out))
          have q := hcell m (by have := HNL.out; omega)
          obtain ⟨hst, hck, hwn⟩ := HT.out m (by have := HNL.out; omega)
          obtain ⟨ka, kb⟩ := HK.out m hlm
          have HY := hidD hst
          rw [HVA.out, ← HNL.out] at e1
          cases e1
          clear hcell hst
          generalize Bu.st s (l.take m) = x at *
          generalize l.getD m 0 = a at *
          obtain ⟨xv, xn⟩ := x
          dsimp only at hck hwn ⊢
          have p0 := X0.out.cell 0 rfl
          have p1 := X0.out.cell 1 rfl
          have p2 := X0.out.cell 2 rfl
          have p3 := X0.out.cell 3 rfl
          have HQ := hidD hb1.out
          clear HT HF HK hlt hl2
          have ha : a = 1 ∨ a = 2 ∨ a = 3 := by omega
          clear ka kb
          rcases ha with rfl | rfl | rfl
          · have c := rcalls_any s xv 1 wr
            rw [(Bu.addR_one (e := s.c) hck).1, (Bu.addR_one (e := s.c) hck).2] at c
            have hy : Bu.step s (xv, xn) 1 = (Bu.up s (xv + s.c), xn) := rfl
            rw [hy] at HY
            generalize Bu.up s (xv + s.c) = u at *
            clear hck hy
            have c := hidD c
            go_wp2_with fail
            with_reducible refine c.out.mono ?_
            rintro e w5 ⟨rfl, h5⟩
            have X5 := hidD (X0.out.below h5)
            have hb5 := hidD (below_on hb1.out (Nat.le_of_succ_le hs1.out) h5)
            have hs5 := hidD (Nat.le_trans hs1.out h5.size)
            clear h5 c X0 hb1 hs1 p0 p1 p2 p3 HQ q
            go_wp2_with fail
            have hm1 : m + 1 ≤ k := by omega
            exact ⟨⟨m + 1, hm1, by go_num, by rw [HY.out], by rw [HY.out], X5, hb5, hs5⟩, by simp [intOf]; omega⟩
          · have c := rticks_any s xv 1 wr
            rw [(Bu.addR_one (e := s.t) hck).1, (Bu.addR_one (e := s.t) hck).2] at c
            have hy : Bu.step s (xv, xn) 2 = (Bu.up s (xv + s.t), xn) := rfl
            rw [hy] at HY
            generalize Bu.up s (xv + s.t) = u at *
            clear hck hy
            have c := hidD c
            go_wp2_with fail
            with_reducible refine c.out.mono ?_
            rintro e w5 ⟨rfl, h5⟩
            have X5 := hidD (X0.out.below h5)
            have hb5 := hidD (below_on hb1.out (Nat.le_of_succ_le hs1.out) h5)
            have hs5 := hidD (Nat.le_trans hs1.out h5.size)
            clear h5 c X0 hb1 hs1 p0 p1 p2 p3 HQ q
            go_wp2_with fail
            have hm1 : m + 1 ≤ k := by omega
            exact ⟨⟨m + 1, hm1, by go_num, by rw [HY.out], by rw [HY.out], X5, hb5, hs5⟩, by simp [intOf]; omega⟩
          · have c := rtake_any s xv wr
            have e1 : Bu.takeR s xv = if 1000 ≤ xv then xv - 1000 else xv := if_pos hck
            have e2 : Bu.takeB s xv = decide (1000 ≤ xv) := if_pos hck
            have hy : Bu.step s (xv, xn) 3 = (if 1000 ≤ xv then (xv - 1000, xn + 1) else (xv, xn)) := rfl
            rw [e1, e2, hck] at c
            rw [hy] at HY
            clear e1 e2 hy hck
            by_cases hle : 1000 ≤ xv
            · rw [if_pos hle] at c HY
              rw [decide_eq_true hle] at c
              have c := hidD c
              go_wp2_with fail
              with_reducible refine c.out.mono ?_
              rintro e w5 ⟨rfl, h5⟩
              have X5 := hidD (X0.out.below h5)
              have hb5 := hidD (below_on hb1.out (Nat.le_of_succ_le hs1.out) h5)
              have hs5 := hidD (Nat.le_trans hs1.out h5.size)
              clear h5 c X0 hb1 hs1 p0 p1 p2 p3 HQ q
              go_wp2_with fail
              have hm1 : m + 1 ≤ k := by omega
              exact ⟨⟨m + 1, hm1, by go_num, by rw [HY.out], by rw [HY.out], X5, hb5, hs5⟩, by simp [intOf]; omega⟩
            · rw [if_neg hle] at c HY
              rw [decide_eq_false hle] at c
              clear hle
              have c := hidD c
              go_wp2_with fail
              with_reducible refine c.out.mono ?_
              rintro e w5 ⟨rfl, h5⟩
              have X5 := hidD (X0.out.below h5)
              have hb5 := hidD (below_on hb1.out (Nat.le_of_succ_le hs1.out) h5)
              have hs5 := hidD (Nat.le_trans hs1.out h5.size)
              clear h5 c X0 hb1 hs1 p0 p1 p2 p3 HQ q
              go_wp2_with fail
              have hm1 : m + 1 ≤ k := by omega
              exact ⟨⟨m + 1, hm1, by go_num, by rw [HY.out], by rw [HY.out], X5, hb5, hs5⟩, by simp [intOf]; omega⟩
        · have hkn : m = k := by omega
          subst hkn
          have hlm2 : decide ((m : Int) < (m : Int)) = false := decide_eq_false (by omega)
          obtain ⟨e1, e2⟩ := HF.out
          rw [← HNL.out] at e1 e2
          clear HF HV HT HK
          generalize Bu.st s (l.take m) = b at *
          subst e1 e2
          go_wp2_with fail
          go_ret3
          exact ⟨rfl, hb1.out⟩
end Go.Proofs.Ythhhpmjbohfpjaa
