/- backoff: the reference's Most, Delay, Total, Row. -/
import Derived.Test.YtekldjfmdapgpaaBkG
import Derived.Deep.RegionHeld
import Derived.Laws.AppendOwnNone
namespace Go.Proofs.Ytekldjfmdapgpaa
open Go.RowKit
set_option linter.unusedVariables false
set_option maxRecDepth 20000

theorem Bf.rstep {s : Bf.Se} (h : Bf.sets s = true) (k : Nat) : IntKind.i64.wrap (Bf.d s k + Bf.d s k) = Bf.d s k + Bf.d s k ∧ (Bf.d s k + Bf.d s k < s.p → Bf.d s k + Bf.d s k = Bf.d s (k + 1)) ∧ (¬ Bf.d s k + Bf.d s k < s.p → s.p = Bf.d s (k + 1)) := by
  obtain ⟨a, b⟩ := Bf.d_num h k
  refine ⟨wrap_ok (by omega) (by omega), fun h2 => ?_, fun h2 => ?_⟩
  · show _ = if Bf.d s k + Bf.d s k ≤ s.p then Bf.d s k + Bf.d s k else s.p
    split <;> omega
  · show _ = if Bf.d s k + Bf.d s k ≤ s.p then Bf.d s k + Bf.d s k else s.p
    split <;> omega
theorem Bf.most_cases (s : Bf.Se) (n : Int) : (Bf.sets s = true → 1 ≤ n → n ≤ 64 → Bf.mostE s n = 0 ∧ Bf.mostR s n = Bf.d s (n - 1).toNat) ∧ (Bf.sets s = true → ¬ (1 ≤ n ∧ n ≤ 64) → Bf.mostE s n = 3 ∧ Bf.mostR s n = 0) ∧ (¬ Bf.sets s = true → Bf.mostE s n = 4 ∧ Bf.mostR s n = 0) := by
  refine ⟨fun h h1 h2 => ?_, fun h h2 => ?_, fun h => Bf.grows_bad h⟩
  · have e := Bf.mostE_good h h1 h2
    exact ⟨e, if_pos e⟩
  · have e : Bf.mostE s n = 3 := by unfold Bf.mostE; rw [if_pos h, if_neg h2]
    exact ⟨e, if_neg (by rw [e]; decide)⟩
theorem Bf.chk_cases (s : Bf.Se) : (Bf.chk s = 0 ∧ Bf.sets s = true) ∨ (Bf.chk s = 4 ∧ ¬ Bf.sets s = true) := by
  unfold Bf.chk
  by_cases h : Bf.sets s = true
  · exact .inl ⟨if_pos h, h⟩
  · exact .inr ⟨if_neg h, h⟩

set_option maxHeartbeats 1000000 in
theorem rmost_any (s : Bf.Se) (n : Int) (w : World) : Calls Try.prog 10 #[vS s, .int .i64 n] w fun e w' => e = .returned (.tuple #[.int .i64 (Bf.mostR s n), .int .i64 (Bf.mostE s n)]) ∧ Below w.heap.size w w' := by
  have c1 := fun W => rcheck_any s W
  obtain ⟨HA, HBB, HC⟩ := Bf.most_cases s n
  replace HA := hidD HA
  replace HBB := hidD HBB
  replace HC := hidD HC
  have HK := hidD (Bf.chk_cases s)
  have HD : Hid (Bf.sets s = true → ∀ k, IntKind.i64.wrap (Bf.d s k + Bf.d s k) = Bf.d s k + Bf.d s k ∧ (Bf.d s k + Bf.d s k < s.p → Bf.d s k + Bf.d s k = Bf.d s (k + 1)) ∧ (¬ Bf.d s k + Bf.d s k < s.p → s.p = Bf.d s (k + 1))) := hidD (fun h k => Bf.rstep h k)
  have HD0 : Hid (Bf.d s 0 = s.b) := hidD rfl
  generalize Bf.mostR s n = z at *
  generalize Bf.mostE s n = ke at *
  generalize Bf.chk s = ck at *
  have HB := hidD ((Below.refl w.heap.size w).alloc (Nat.le_refl _) (.cells (sL s).toArray 23))
  have X0 := hidD (Bo.new w (sL s) 23)
  have HS : Hid (w.heap.size + 1 ≤ (w.alloc (.cells (sL s).toArray 23)).heap.size) := hidD (by rw [World.size_alloc]; omega)
  obtain ⟨W0, hW0⟩ : ∃ W0, W0 = w.alloc (.cells (sL s).toArray 23) := ⟨_, rfl⟩
  obtain ⟨N, hN⟩ : ∃ N, N = w.heap.size := ⟨_, rfl⟩
  have HNW : Hid (N = w.heap.size) := hidD hN
  rw [← hW0] at HB X0 HS
  rw [← hN] at HB X0 HS ⊢
  simp only [sL] at hW0
  go_enter Try.func10, Try.ntmps10
  go_wp2_with fail
  rw [← hN, ← hW0]
  clear hW0 hN
  with_reducible refine (c1 _).mono ?_
  rintro e w1 ⟨rfl, h1⟩
  have Y0 := hidD (X0.out.below h1)
  have hb1 := hidD (below_on HB.out (by have := HS.out; omega) h1)
  have hs1 : Hid (N + 1 ≤ w1.heap.size) := hidD (by have := HS.out; have := h1.size; omega)
  clear X0 HB HS h1 c1
  have p0 := Y0.out.cell 0 rfl
  have p1 := Y0.out.cell 1 rfl
  have p2 := Y0.out.cell 2 rfl
  rcases HK.out with ⟨rfl, hs⟩ | ⟨rfl, hs⟩
  · by_cases hn1 : 1 ≤ n
    · by_cases hn2 : n ≤ 64
      · obtain ⟨e1, e2⟩ := HA.out hs hn1 hn2
        subst e1
        have HZ := hidD e2
        have HDD := hidD (HD.out hs)
        clear HA HBB HC HK HD e2
        have hn3 : ¬ n < 1 := by omega
        have hn4 : ¬ 64 < n := by omega
        go_wp2_with fail
        go_loopw [6, 7] (fun d i wr => ∃ k : Nat, (k : Int) + 1 ≤ n ∧ i = .int .i64 ((k : Int) + 1) ∧ d = .int .i64 (Bf.d s k) ∧ w1 = wr) (fun _ i _ => 100 - (intOf i).toNat)
        case atStart => exact ⟨0, by omega, rfl, by rw [HD0.out], rfl⟩
        case round =>
          obtain ⟨k, hk, rfl, rfl, rfl⟩ := hrel
          by_cases hlt : (k : Int) + 1 < n
          · obtain ⟨v1, v2, v3⟩ := HDD.out k
            have V2 := hidD v2
            have V3 := hidD v3
            obtain ⟨y2, hy2⟩ : ∃ y2, y2 = Bf.d s (k + 1) := ⟨_, rfl⟩
            have HY2 := hidD hy2
            rw [← hy2] at V2 V3
            clear v2 v3 HDD hy2
            generalize Bf.d s k = y at *
            by_cases hc : y + y < s.p
            · have hy := V2.out hc
              subst hy
              clear V2 V3
              go_wp2
              exact ⟨⟨k + 1, by omega, by go_num, by rw [← HY2.out], (by first | rfl | trivial)⟩, by simp [intOf]; omega⟩
            · have hy := V3.out (by omega)
              subst hy
              clear V2 V3
              go_wp2
              exact ⟨⟨k + 1, by omega, by go_num, by rw [← HY2.out], (by first | rfl | trivial)⟩, by simp [intOf]; omega⟩
          · have hke : (n - 1).toNat = k := by omega
            have hz := HZ.out
            rw [hke] at hz
            subst hz
            clear HDD hke HZ
            go_wp2
            go_ret2
            exact ⟨rfl, hb1.out⟩
      · obtain ⟨e1, e2⟩ := HBB.out hs (by omega)
        subst e1 e2
        clear HA HBB HC HK HD
        have hn3 : ¬ n < 1 := by omega
        go_wp2_with fail
        go_ret2
        exact ⟨rfl, hb1.out⟩
    · obtain ⟨e1, e2⟩ := HBB.out hs (by omega)
      subst e1 e2
      clear HA HBB HC HK HD
      go_wp2_with fail
      go_ret2
      exact ⟨rfl, hb1.out⟩
  · obtain ⟨e1, e2⟩ := HC.out hs
    subst e1 e2
    clear HA HBB HC HK HD
    go_wp2_with fail
    go_ret2
    exact ⟨rfl, hb1.out⟩

set_option maxHeartbeats 1000000 in
theorem rdelay_any (s : Bf.Se) (n : Int) (x : Nat) (hx : x < 18446744073709551616) (w : World) : Calls Try.prog 12 #[vS s, .int .i64 n, .int .u64 x] w fun e w' => e = .returned (.tuple #[.int .i64 (Bf.delayR s n x), .int .i64 (Bf.mostE s n)]) ∧ Below w.heap.size w w' := by
  have c1 := fun W => rmost_any s n W
  have HX := hidD hx
  have HG : Hid (Bf.mostE s n = 0 → Bf.mostR s n = Bf.d s (n - 1).toNat ∧ Bf.delayR s n x = Bf.one s (Bf.d s (n - 1).toNat) x ∧ Bf.sets s = true) := hidD (fun h => ⟨if_pos h, if_pos h, (Bf.mostE_zero h).1⟩)
  have HC1 : Hid (¬ Bf.mostE s n = 0 → Bf.delayR s n x = 0) := hidD (fun h => if_neg h)
  clear hx
  generalize Bf.delayR s n x = z at *
  generalize Bf.mostR s n = m at *
  generalize Bf.mostE s n = ke at *
  have HB := hidD ((Below.refl w.heap.size w).alloc (Nat.le_refl _) (.cells (sL s).toArray 23))
  have X0 := hidD (Bo.new w (sL s) 23)
  have HS : Hid (w.heap.size + 1 ≤ (w.alloc (.cells (sL s).toArray 23)).heap.size) := hidD (by rw [World.size_alloc]; omega)
  obtain ⟨W0, hW0⟩ : ∃ W0, W0 = w.alloc (.cells (sL s).toArray 23) := ⟨_, rfl⟩
  obtain ⟨N, hN⟩ : ∃ N, N = w.heap.size := ⟨_, rfl⟩
  have HNW : Hid (N = w.heap.size) := hidD hN
  rw [← hW0] at HB X0 HS
  rw [← hN] at HB X0 HS ⊢
  simp only [sL] at hW0
  go_enter Try.func12, Try.ntmps12
  go_wp2_with fail
  rw [← hN, ← hW0]
  clear hW0 hN
  with_reducible refine (c1 _).mono ?_
  rintro e w1 ⟨rfl, h1⟩
  have Y0 := hidD (X0.out.below h1)
  have hb1 := hidD (below_on HB.out (by have := HS.out; omega) h1)
  have hs1 : Hid (N + 1 ≤ w1.heap.size) := hidD (by have := HS.out; have := h1.size; omega)
  clear X0 HB HS h1 c1
  have p0 := Y0.out.cell 0 rfl
  have p1 := Y0.out.cell 1 rfl
  have p2 := Y0.out.cell 2 rfl
  by_cases hk : ke = 0
  · subst hk
    obtain ⟨e1, e2, hs⟩ := HG.out rfl
    obtain ⟨d0, d1⟩ := Bf.d_num hs (n - 1).toNat
    obtain ⟨⟨m0, m1⟩, v1, v2, v3⟩ := Bf.to_wraps hs d0 d1
    obtain ⟨⟨a1, a2⟩, a3, _⟩ := Bf.to_range hs d0 d1
    have c2 := hidD (fun W => rshare_any x (Bf.to s (Bf.d s (n - 1).toNat)) W HX.out (by omega) (by omega))
    obtain ⟨b1, b2⟩ := Bf.share_range HX.out a1 a2
    have v4 : IntKind.i64.wrap (Bf.d s (n - 1).toNat - Hp.shK x (Bf.to s (Bf.d s (n - 1).toNat))) = Bf.d s (n - 1).toNat - Hp.shK x (Bf.to s (Bf.d s (n - 1).toNat)) := wrap_ok (by omega) (by omega)
    have HT : Hid (∀ t, t = Bf.to s (Bf.d s (n - 1).toNat) → t = if 1 + Bf.d s (n - 1).toNat * s.j / 1000 ≤ 1048576 then 1 + Bf.d s (n - 1).toNat * s.j / 1000 else 1048576) := hidD (fun t h => h)
    have HO : Hid (z = if 1 ≤ Bf.d s (n - 1).toNat - Hp.shK x (Bf.to s (Bf.d s (n - 1).toNat)) then Bf.d s (n - 1).toNat - Hp.shK x (Bf.to s (Bf.d s (n - 1).toNat)) else 1) := hidD e2
    clear HG HC1 e2 a1 a2 a3 b1 b2 hs
    generalize Hp.shE (Bf.to s (Bf.d s (n - 1).toNat)) = ze at *
    generalize Hp.shK x (Bf.to s (Bf.d s (n - 1).toNat)) = q at *
    obtain ⟨t, ht⟩ : ∃ t, t = Bf.to s (Bf.d s (n - 1).toNat) := ⟨_, rfl⟩
    have HTT := hidD (HT.out t ht)
    rw [← ht] at c2
    clear HT ht
    subst e1
    generalize Bf.d s (n - 1).toNat = d at *
    have c := c2.out w1
    clear c2
    by_cases hc : ¬ 1 + d * s.j / 1000 < 1048576
    · have h2 : t = 1048576 := by have := HTT.out; split at this <;> omega
      subst h2
      clear HTT
      by_cases hq : 1 < d - q
      · have hz : z = d - q := by have := HO.out; split at this <;> omega
        subst hz
        clear HO
        have hq2 : ¬ d - q ≤ 1 := by omega
        go_wp2_with fail
        with_reducible refine c.mono ?_
        rintro e w2 ⟨rfl, rfl⟩
        clear c
        go_wp2_with fail
        go_ret2
        exact ⟨rfl, hb1.out⟩
      · have hz : z = 1 := by have := HO.out; split at this <;> omega
        subst hz
        clear HO
        have hq2 : d - q ≤ 1 := by omega
        go_wp2_with fail
        with_reducible refine c.mono ?_
        rintro e w2 ⟨rfl, rfl⟩
        clear c
        go_wp2_with fail
        go_ret2
        exact ⟨rfl, hb1.out⟩
    · have h2 : t = 1 + d * s.j / 1000 := by have := HTT.out; split at this <;> omega
      subst h2
      clear HTT
      by_cases hq : 1 < d - q
      · have hz : z = d - q := by have := HO.out; split at this <;> omega
        subst hz
        clear HO
        have hq2 : ¬ d - q ≤ 1 := by omega
        go_wp2_with fail
        with_reducible refine c.mono ?_
        rintro e w2 ⟨rfl, rfl⟩
        clear c
        go_wp2_with fail
        go_ret2
        exact ⟨rfl, hb1.out⟩
      · have hz : z = 1 := by have := HO.out; split at this <;> omega
        subst hz
        clear HO
        have hq2 : d - q ≤ 1 := by omega
        go_wp2_with fail
        with_reducible refine c.mono ?_
        rintro e w2 ⟨rfl, rfl⟩
        clear c
        go_wp2_with fail
        go_ret2
        exact ⟨rfl, hb1.out⟩
  · have hZ := HC1.out hk
    subst hZ
    have hk1 : (ke != 0) = true := by simp [hk]
    clear HC1 HG
    go_wp2_with fail
    go_ret2
    exact ⟨rfl, hb1.out⟩
end Go.Proofs.Ytekldjfmdapgpaa
