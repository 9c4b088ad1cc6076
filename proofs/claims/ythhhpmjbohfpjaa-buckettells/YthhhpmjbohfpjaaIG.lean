/- bucket: Run. -/
import Derived.Test.YthhhpmjbohfpjaaID
namespace Go.Proofs.Ythhhpmjbohfpjaa
open Go.RowKit
set_option linter.unusedVariables false
set_option maxRecDepth 20000

/-- Where there is one, where they lie. -/
theorem nseg_at {w : World} {v : Value} {l : List Int} (h0 : 0 < l.length) (h : Seg .i64 w v l) :
    ∃ g off cap, v = .slice (some ⟨g, off, none⟩) l.length cap ∧ g < w.heap.size ∧ ∀ i, i < l.length → w.cell? ⟨g, off + i, none⟩ = some (.int .i64 (l.getD i 0)) := by
  obtain ⟨a, cap, rfl, _, _, h3, h4⟩ := h
  obtain ⟨g, off, rfl, hg, hc⟩ := seg_at h0 h3 h4
  exact ⟨g, off, cap, rfl, hg, hc⟩

set_option maxHeartbeats 1000000 in
theorem do_any (B : Nat) (s : Bu.Se) (v n : Int) (T : TypeId) (a : Int) (w : World) (h : Bo w B (bL s v [.int .i64 n]) T) (hs : Bu.sets s = true) (v0 : 0 ≤ v) (v1 : v ≤ 1000 * s.p) (hn : IntKind.i64.wrap (n + 1) = n + 1) (ha : a = 1 ∨ a = 2 ∨ a = 3) :
    Calls Try.prog 33 #[.pointer (some ⟨B, 0, none⟩), .int .i64 a] w fun e w' => e = .returned (.tuple #[]) ∧ Bo w' B (bL s (Bu.step s (v, n) a).1 [.int .i64 (Bu.step s (v, n) a).2]) T ∧ Cg B w w' := by
  obtain ⟨_, _, _, _, _, _, _, _⟩ := Bu.sets_iff.1 hs
  have c1 := callsP_any B s v [.int .i64 n] T 1 w h (wrap_ok (by omega) (by omega)) (wrap_ok (by omega) (by omega)) (wrap_ok (by omega) (by omega))
  have c2 := ticksP_any B s v [.int .i64 n] T 1 w h (wrap_ok (by omega) (by omega)) (wrap_ok (by omega) (by omega)) (wrap_ok (by omega) (by omega))
  have c3 := takeP_any B s v [.int .i64 n] T w h (wrap_ok (by omega) (by omega))
  rw [Int.one_mul] at c1 c2
  have HZ : Hid (∀ z, Bu.step s (v, n) a = z → z = if a = 1 then (Bu.up s (v + s.c), n) else if a = 2 then (Bu.up s (v + s.t), n) else if 1000 ≤ v then (v - 1000, n + 1) else (v, n)) := hidD (fun z hz => by rw [← hz]; rfl)
  generalize hz : Bu.step s (v, n) a = z at *
  have hzz := HZ.out z (by first | trivial | rfl | exact hz)
  clear HZ hz
  generalize Bu.up s (v + s.c) = u1 at *
  generalize Bu.up s (v + s.t) = u2 at *
  clear v0 v1 hs h
  have hzz := hidD hzz
  rcases ha with rfl | rfl | rfl
  · have e := hzz.out
    rw [if_pos (by decide)] at e
    subst e
    clear c2 c3 hzz
    go_enter Try.func33, Try.ntmps33
    go_wp2_with fail
    with_reducible refine c1.mono ?_
    rintro e w1 ⟨rfl, b1, b2⟩
    go_wp2_with fail
    go_end0
    exact ⟨rfl, b1, b2⟩
  · have e := hzz.out
    rw [if_neg (by decide), if_pos (by decide)] at e
    subst e
    clear c1 c3 hzz
    go_enter Try.func33, Try.ntmps33
    go_wp2_with fail
    with_reducible refine c2.mono ?_
    rintro e w1 ⟨rfl, b1, b2⟩
    go_wp2_with fail
    go_end0
    exact ⟨rfl, b1, b2⟩
  · have e := hzz.out
    rw [if_neg (by decide), if_neg (by decide)] at e
    clear c1 c2 hzz
    by_cases hle : 1000 ≤ v
    · rw [if_pos hle] at e
      rw [if_pos hle, decide_eq_true hle] at c3
      subst e
      go_enter Try.func33, Try.ntmps33
      go_wp2_with fail
      with_reducible refine c3.mono ?_
      rintro e w1 ⟨rfl, b1, b2⟩
      have q5 := b1.cell 5 rfl
      have f5 := b1.frozen 5
      have hb1 := hidD b1
      clear c3 b1
      go_wp2_with fail
      go_end0
      exact ⟨rfl, hb1.out.set 5 _, b2.trans (Cg.set _ 5 _)⟩
    · rw [if_neg hle] at e
      rw [if_neg hle, decide_eq_false hle] at c3
      subst e
      clear hle
      go_enter Try.func33, Try.ntmps33
      go_wp2_with fail
      with_reducible refine c3.mono ?_
      rintro e w1 ⟨rfl, b1, b2⟩
      go_wp2_with fail
      go_end0
      exact ⟨rfl, b1, b2⟩

theorem Bu.kind_at {l : List Int} (h : Bu.kinds l = true) (k : Nat) (hk : k < l.length) : l.getD k 0 = 1 ∨ l.getD k 0 = 2 ∨ l.getD k 0 = 3 := by
  unfold Bu.kinds at h
  rw [List.all_eq_true] at h
  have := h (l.getD k 0) (by rw [dgetD_at hk]; exact List.getElem_mem _)
  rw [Bu.inn_iff] at this
  omega
theorem Bu.runE_zero {s : Bu.Se} {l : List Int} (h : Bu.runE s l = 0) : Bu.sets s = true ∧ l.length ≤ 4096 ∧ Bu.kinds l = true := by
  unfold Bu.runE at h
  split at h
  · rename_i h1
    split at h
    · cases h
    · split at h
      · rename_i h2 h3
        exact ⟨h1, by omega, h3⟩
      · cases h
  · cases h
theorem Bu.st_zero (s : Bu.Se) (l : List Int) : Bu.st s (l.take 0) = (1000 * s.r, 0) := by rw [List.take_zero]; rfl

set_option maxHeartbeats 2000000 in
theorem orun_any (s : Bu.Se) (v : Value) (l : List Int) (w : World) (hv : Seg .i64 w v l) : Calls Try.prog 21 #[vS s, v] w fun e w' => e = .returned (.tuple #[.int .i64 (Bu.runV s l), .int .i64 (Bu.runN s l), .int .i64 (Bu.runE s l)]) ∧ Below w.heap.size w w' := by
  have cm := hidD (fun W (hW : Below w.heap.size w W) => mayRun_any s v l W (hv.below hW))
  have cb := hidD (fun (h : Bu.runE s l = 0) W => begun_any s (Bu.each (Bu.runE_zero h).1).2.2.1 W)
  have HE0 : Hid (¬ Bu.runE s l = 0 → Bu.runV s l = 0 ∧ Bu.runN s l = 0) := hidD (fun h => ⟨if_neg h, if_neg h⟩)
  have HE1 : Hid (Bu.runE s l = 0 → Bu.runV s l = (Bu.st s (l.take l.length)).1 ∧ Bu.runN s l = (Bu.st s (l.take l.length)).2) := hidD (fun h => by rw [List.take_length]; exact ⟨if_pos h, if_pos h⟩)
  have HDO : Hid (Bu.runE s l = 0 → ∀ k, k < l.length → ∀ B W, Bo W B (bL s (Bu.st s (l.take k)).1 [.int .i64 (Bu.st s (l.take k)).2]) 58 → Calls Try.prog 33 #[.pointer (some ⟨B, 0, none⟩), .int .i64 (l.getD k 0)] W fun e w' => e = .returned (.tuple #[]) ∧ Bo w' B (bL s (Bu.st s (l.take (k + 1))).1 [.int .i64 (Bu.st s (l.take (k + 1))).2]) 58 ∧ Cg B W w') := hidD (fun h k hk B W hB => by
    obtain ⟨h1, h2, h3⟩ := Bu.runE_zero h
    obtain ⟨⟨a1, a2⟩, ⟨a3, a4⟩, _⟩ := Bu.bound h1 l k (by omega)
    have := do_any B s _ _ _ (l.getD k 0) W hB h1 a1 a2 (wrap_ok (by omega) (by omega)) (Bu.kind_at h3 k hk)
    rw [Bu.st_take s l k hk]
    exact this)
  have HLN : Hid (Bu.runE s l = 0 → l.length ≤ 4096) := hidD (fun h => (Bu.runE_zero h).2.1)
  have HV := hidD hv
  obtain ⟨av, cv, hva, _, q2, _, _⟩ := hv
  unfold maxLen at q2
  have HVA := hidD hva
  generalize Bu.runE s l = E at *
  generalize Bu.runV s l = FV at *
  generalize Bu.runN s l = FN at *
  obtain ⟨n, hn⟩ : ∃ n, n = l.length := ⟨_, rfl⟩
  rw [← hn] at hva
  have HNL := hidD hn
  subst hva
  clear hn
  have HB := hidD ((Below.refl w.heap.size w).alloc (Nat.le_refl _) (.cells (sL s).toArray 23))
  have B0 := hidD (Bo.new w (sL s) 23)
  have HS : Hid (w.heap.size + 1 ≤ (w.alloc (.cells (sL s).toArray 23)).heap.size) := hidD (by rw [World.size_alloc]; omega)
  obtain ⟨W0, hW0⟩ : ∃ W0, W0 = w.alloc (.cells (sL s).toArray 23) := ⟨_, rfl⟩
  obtain ⟨N, hN⟩ : ∃ N, N = w.heap.size := ⟨_, rfl⟩
  rw [← hW0] at HB B0 HS
  have HNW := hidD hN
  rw [← hN] at HB B0 HS cm ⊢
  simp only [sL] at hW0
  go_enter Try.func21, Try.ntmps21
  go_wp2_with fail
  rw [← hN, ← hW0]
  clear hW0 hN
  with_reducible refine (cm.out W0 HB.out).mono ?_
  rintro e w1 ⟨rfl, h1⟩
  have X0 := B0.out.below h1
  have hb1 := hidD (below_on HB.out (Nat.le_of_succ_le HS.out) h1)
  have hs1 := hidD (Nat.le_trans (Nat.le_of_succ_le HS.out) h1.size)
  have p0 := X0.cell 0 rfl
  have p1 := X0.cell 1 rfl
  have p2 := X0.cell 2 rfl
  have p3 := X0.cell 3 rfl
  clear B0 HB HS h1 cm X0
  by_cases hk : E = 0
  case neg =>
    obtain ⟨e1, e2⟩ := HE0.out hk
    subst e1 e2
    have hk1 : (E != 0) = true := by simp [hk]
    clear HE0 HE1 HDO HLN cb HV HVA
    go_wp2_with fail
    go_ret3
    exact ⟨rfl, hb1.out⟩
  subst hk
  have c := cb.out (by first | trivial | rfl) w1
  have HD := hidD (HDO.out (by first | trivial | rfl))
  have hln : n ≤ 4096 := by rw [HNL.out]; exact HLN.out (by first | trivial | rfl)
  have HF := hidD (HE1.out (by first | trivial | rfl))
  clear HE0 HE1 HDO HLN cb
  go_wp2_with fail
  with_reducible refine c.mono ?_
  rintro e w2 ⟨rfl, h2⟩
  have hb2 := hidD (below_on hb1.out hs1.out h2)
  have hs2 := hidD (Nat.le_trans hs1.out h2.size)
  clear c h2 hb1 p0 p1 p2 p3
  have Y := hidD (Bo.new w2 (bL s (1000 * s.r) [.int .i64 0]) 58)
  have hb3 := hidD (hb2.out.alloc hs2.out (.cells (bL s (1000 * s.r) [.int .i64 0]).toArray 58))
  have hs3 : Hid (N ≤ w2.heap.size) := hs2
  have hl3 : Hid (w2.heap.size < (w2.alloc (.cells (bL s (1000 * s.r) [.int .i64 0]).toArray 58)).heap.size) := hidD (by rw [World.size_alloc]; omega)
  go_upto_region 5 with fail
  generalize (w2.alloc (.cells #[.int .i64 s.c, .int .i64 s.t, .int .i64 s.r, .int .i64 s.p, .int .i64 (1000 * s.r), .int .i64 0] 58)) = W3 at *
  generalize w2.heap.size = C at *
  clear hb2 hs2
  go_wp2_with fail
  go_loopw [22] (fun i wr => ∃ k : Nat, k ≤ n ∧ i = .int .i64 k ∧ Hid (Bo wr C (bL s (Bu.st s (l.take k)).1 [.int .i64 (Bu.st s (l.take k)).2]) 58) ∧ Hid (Below N w wr)) (fun i _ => n - (intOf i).toNat)
  case atStart => exact ⟨0, Nat.zero_le _, rfl, hidD (by rw [Bu.st_zero]; exact Y.out), hb3⟩
  case round =>
    clear Y hb3 hl3
    obtain ⟨k, hk, rfl, BW, HBW⟩ := hrel
    by_cases hlt : k < n
    · obtain ⟨g, off, cap', e1, hg, hcell⟩ := nseg_at (by have := HNL.out; omega) (HV.out.below (HNW.out ▸ HBW.out))
      have hq := hidD (hcell k (by have := HNL.out; omega))
      rw [HVA.out, ← HNL.out] at e1
      cases e1
      have c := HD.out k (by have := HNL.out; omega) C wr BW.out
      clear hcell
      have q := hq.out
      generalize hb2 : Bu.st s (l.take (k + 1)) = b2 at *
      have HB2 := hidD hb2
      clear hb2
      generalize l.getD k 0 = a at *
      have c := hidD c
      have hsz := hidD BW.out.lt
      clear BW hq HD HF
      go_wp2_with fail
      with_reducible refine c.out.mono ?_
      rintro e w5 ⟨rfl, b5, c5⟩
      have hb5 := hidD b5
      have hc5 := hidD (c5.below (B := N) hs3.out (by have := hsz.out; have := hs3.out; omega) HBW.out)
      clear b5 c5 c HBW q
      go_wp2_with fail
      exact ⟨⟨k + 1, by omega, by go_num, by rw [HB2.out]; exact hb5, hc5⟩, by simp [intOf]; omega⟩
    · have hkn : k = n := by omega
      subst hkn
      obtain ⟨e1, e2⟩ := HF.out
      rw [← HNL.out] at e1 e2
      clear HF HD HV
      generalize Bu.st s (l.take k) = b at *
      subst e1 e2
      have q4 := BW.out.cell 4 rfl
      have q5 := BW.out.cell 5 rfl
      go_upto_region 10 with fail
      clear BW
      go_region_held (fun w' => w'.cell? ⟨C, 4, none⟩ = some (.int .i64 b.1) ∧ w'.cell? ⟨C, 5, none⟩ = some (.int .i64 b.2)) (go_keep) (fail)
      go_wp2_with fail
      go_ret3
      exact ⟨rfl, below_drewN HBW.out 1⟩
end Go.Proofs.Ythhhpmjbohfpjaa
