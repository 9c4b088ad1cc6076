/- timers: one more, by the reference. -/
import Derived.Test.YtkamcjebihfdlaaTmB
import Derived.Deep.CutBlock
namespace Go.Proofs.Ytkamcjebihfdlaa
open Go.RowKit
set_option linter.unusedVariables false
set_option maxRecDepth 20000

theorem below_undrew {n : Nat} {w w' : World} (h : Below n w.drew w') : Below n w w' := ⟨h.os, h.tape, h.output, h.size, h.block⟩
theorem OT.drew {W : World} {B : Nat} {v : Value} {l : List Ti.T} (h : OT W B v l) : OT W.drew B v l := h
/-- Two change places. -/
theorem OT.swap {W : World} {B g n cap : Nat} {l : List Ti.T} (h : OT W B (.slice (some ⟨g, 0, none⟩) n cap) l) (i j : Nat) (hi : i < l.length) (hj : j < l.length) : OT (putT (putT W g i (Ti.g l j)) g j (Ti.g l i)) B (.slice (some ⟨g, 0, none⟩) n cap) (Ti.sw l i j) := by
  have h1 := h.put i hi (Ti.g l j)
  exact h1.put j (by rw [List.length_set]; exact hj) (Ti.g l i)
theorem Ti.sw_comm (l : List Ti.T) (i j : Nat) (h : i ≠ j) : Ti.sw l i j = Ti.sw l j i := by
  unfold Ti.sw
  rw [List.set_comm _ _ h]

set_option maxHeartbeats 8000000 in
theorem rput_any (B : Nat) (v : Value) (l : List Ti.T) (t : Ti.T) (w : World) (h : OT w B v l) (hB : B ≤ w.heap.size) (hl : l.length ≤ 1048576) :
    Calls Try.prog 32 #[v, vT t] w fun e w' => ∃ v', e = .returned v' ∧ OT w' B v' (Ti.put l t) ∧ Below B w w' := by
  obtain ⟨ta, ti⟩ := t
  have H := hidD h
  have HW := hidD ((((Below.refl w.heap.size w).alloc (Nat.le_refl _) (.cells #[.int .i64 ta, .int .i64 ti] 31)).alloc (by rw [World.size_alloc]; omega) (.cells #[.int .i64 ta, .int .i64 ti] 31)))
  have X1 : Bo ((w.alloc (.cells #[.int .i64 ta, .int .i64 ti] 31)).alloc (.cells #[.int .i64 ta, .int .i64 ti] 31)) (w.heap.size + 1) [.int .i64 ta, .int .i64 ti] 31 := by
    have := Bo.new (w.alloc (.cells #[.int .i64 ta, .int .i64 ti] 31)) [.int .i64 ta, .int .i64 ti] 31
    simpa using this
  obtain ⟨W0, hW0⟩ : ∃ W0, W0 = (w.alloc (.cells #[.int .i64 ta, .int .i64 ti] 31)).alloc (.cells #[.int .i64 ta, .int .i64 ti] 31) := ⟨_, rfl⟩
  rw [← hW0] at HW X1
  have H0 : Hid (OT W0 B v l) := hidD (own_below H.out HW.out)
  have T0 : Hid (TS W0 (.slice (some ⟨w.heap.size + 1, 0, none⟩) 1 1) [⟨ta, ti⟩]) := hidD ⟨some ⟨w.heap.size + 1, 0, none⟩, 1, rfl, Nat.le_refl _, by unfold maxLen; decide, fun e => (by cases e), fun g off ar e h0 => by
    cases e
    refine ⟨rfl, X1.lt, fun i hi => ?_⟩
    obtain rfl : i = 0 := by simpa using hi
    exact ⟨X1.cell 0 rfl, X1.cell 1 rfl⟩⟩
  have HSZ : Hid (w.heap.size ≤ W0.heap.size) := hidD HW.out.size
  have HBB := hidD hB
  clear h X1
  go_enter Try.func32, Try.ntmps32
  go_wp2_with (first | (at_builtin; rw [← hW0]; refine wpList_append_tm W0 rfl _ _ rfl B v (.slice (some ⟨w.heap.size + 1, 0, none⟩) 1 1) l [⟨ta, ti⟩] rfl H0.out rfl T0.out (by simp; omega) (by have := HSZ.out; omega) ?_; intro v2 w6 hown' hB6 hgrow; obtain ⟨gb, cb, rfl, hg1, hg2, hc1, hc2⟩ := hown'.lies (by simp); rw [List.length_append, List.length_singleton] at hown' hc1 ⊢))
  obtain ⟨M, hM⟩ : ∃ M, M = l.length := ⟨_, rfl⟩
  rw [← hM] at hl hc1
  have HM := hidD hM
  unfold maxLen at hc2
  have HO : Hid (OT w6 B (.slice (some ⟨gb, 0, none⟩) (M + 1) cb) (l ++ [⟨ta, ti⟩])) := hidD (by rw [hM]; exact hown')
  have H6 := hidD (below_then (below_low HW.out HBB.out) hB6)
  have HPUT : Hid (Ti.put l ⟨ta, ti⟩ = Ti.up (l ++ [⟨ta, ti⟩]) M) := hidD (by rw [hM]; rfl)
  have HLEN : Hid ((l ++ [(⟨ta, ti⟩ : Ti.T)]).length = M + 1) := hidD (by rw [List.length_append, hM]; rfl)
  rw [← hM]
  clear hW0 HW hown' hB6 hgrow H0 T0 HSZ H hM
  obtain ⟨Z, hZ⟩ : ∃ Z, Z = l ++ [(⟨ta, ti⟩ : Ti.T)] := ⟨_, rfl⟩
  rw [← hZ] at HO HPUT HLEN
  clear hZ
  go_wp2_with fail
  go_loopw [5] (fun i wr => ∃ (k : Nat) (L : List Ti.T), k ≤ M ∧ i = .int .i64 (k : Int) ∧ Hid (OT wr B (.slice (some ⟨gb, 0, none⟩) (M + 1) cb) L ∧ L.length = M + 1 ∧ Ti.up L k = Ti.put l ⟨ta, ti⟩ ∧ Below B w wr ∧ gb < wr.heap.size)) (fun i _ => (intOf i).toNat)
  case atStart => exact ⟨M, Z, Nat.le_refl _, by first | rfl | go_num, hidD ⟨HO.out, HLEN.out, HPUT.out.symm, H6.out, hg2⟩⟩
  case round =>
    clear HO H6 HPUT HLEN
    obtain ⟨k, L, hk, rfl, hJ⟩ := hrel
    obtain ⟨j1, j2, j3, j4, j5⟩ := hJ.out
    by_cases hk0 : k = 0
    · subst hk0
      rw [Ti.up_stop (.inl rfl)] at j3
      have HE := hidD (And.intro j1 (And.intro j3 j4))
      clear j1 j2 j3 j4 j5 hJ
      rw [show (((0 : Nat) : Int)) = 0 from rfl]
      go_wp2_with fail
      go_region
      all_goals (
        go_wp2_with fail
        go_ret
        exact ⟨_, rfl, by have := HE.out.1; rw [HE.out.2.1] at this; exact this, belowD_drew HE.out.2.2⟩)
    · obtain ⟨p, hp⟩ : ∃ p, p = Ti.pa k := ⟨_, rfl⟩
      have hpk : p < k := by rw [hp]; show (k - 1) / 2 < k; omega
      obtain ⟨t1, t2, f1, f2⟩ := j1.at k (by omega)
      obtain ⟨u1, u2, g1, g2⟩ := j1.at p (by omega)
      have hik : (k : Int) < ((M + 1 : Nat) : Int) := by omega
      obtain ⟨d, hd⟩ : ∃ d, d = k - 1 := ⟨_, rfl⟩
      have e1 : IntKind.i64.wrap ((k : Int) - 1) = (d : Int) := by rw [show (k : Int) - 1 = (d : Int) by omega]; exact wrap_ok (by omega) (by omega)
      have e2 : Int.tdiv (d : Int) 2 = (p : Int) := by rw [show Int.tdiv (d : Int) 2 = ((d / 2 : Nat) : Int) from rfl, hp, hd]
      have e3 : IntKind.i64.wrap (p : Int) = (p : Int) := wrap_ok (by omega) (by omega)
      have cA := hidD (rahead_any (Ti.g L k) (Ti.g L p))
      have HST : Hid (Ti.ah (Ti.g L k) (Ti.g L p) = false → L = Ti.put l ⟨ta, ti⟩) := hidD (fun h => by rw [← j3, Ti.up_stop (.inr (by rw [← hp]; exact h))])
      have HGO : Hid (Ti.ah (Ti.g L k) (Ti.g L p) = true → Ti.up (Ti.sw L k p) p = Ti.put l ⟨ta, ti⟩) := hidD (fun h => by rw [← j3, Ti.up_go (l := L) (i := k) (by omega) (by rw [← hp]; exact h), ← hp])
      have J1 := hidD j1
      have J2 := hidD j2
      have J4 := hidD j4
      have J5 := hidD j5
      have hk1 : (0 : Int) < (k : Int) := by omega
      have hk2 : 0 < k := by omega
      have HLN : Hid (k < L.length ∧ p < L.length ∧ k ≠ p) := hidD ⟨by omega, by omega, by omega⟩
      clear j1 j2 j3 j4 j5 hJ hp hd
      obtain ⟨y, hy⟩ : ∃ y, y = Ti.ah (Ti.g L k) (Ti.g L p) := ⟨_, rfl⟩
      rw [← hy] at cA HST HGO
      obtain ⟨xk, hxk⟩ : ∃ x, x = Ti.g L k := ⟨_, rfl⟩
      obtain ⟨xp, hxp⟩ : ∃ x, x = Ti.g L p := ⟨_, rfl⟩
      rw [← hxk] at cA t1 t2
      rw [← hxp] at cA u1 u2
      replace hxk := hidD hxk
      replace hxp := hidD hxp
      clear hy
      obtain ⟨ka, ki⟩ := xk
      obtain ⟨pa, pi⟩ := xp
      dsimp only at t1 t2 u1 u2
      go_upto_region 3 with fail
      go_cut [27] (fun v wx => v = .bool y ∧ Below wr.heap.size wr wx)
      case first =>
        clear HST HGO J1 J2 J4 HLN hxk hxp f1 f2 g1 g2 HM HBB
        have G5 : gb < wr.drew.heap.size := J5.out
        go_region_held (fun w' => w'.cell? ⟨gb, k * 2, none⟩ = some (.int .i64 ka) ∧ w'.cell? ⟨gb, k * 2 + 1, none⟩ = some (.int .i64 ki) ∧ w'.cell? ⟨gb, p * 2, none⟩ = some (.int .i64 pa) ∧ w'.cell? ⟨gb, p * 2 + 1, none⟩ = some (.int .i64 pi)) (first | exact ⟨t1, t2, u1, u2⟩ | exact ⟨(H9.out.cell (p := ⟨gb, k * 2, none⟩) G5).trans t1, (H9.out.cell (p := ⟨gb, k * 2 + 1, none⟩) G5).trans t2, (H9.out.cell (p := ⟨gb, p * 2, none⟩) G5).trans u1, (H9.out.cell (p := ⟨gb, p * 2 + 1, none⟩) G5).trans u2⟩)
        ((go_at_call 26; refine (cA.out _).mono ?_; rintro e w9 ⟨rfl, h9⟩; have H9 := hidD h9; clear h9))
        all_goals (
          go_wp2
          go_meet
          exact ⟨rfl, below_undrew H9.out⟩)
      case rest =>
        obtain ⟨rfl, h9⟩ := hcut
        generalize wc = w9 at *
        have J9 : OT w9 B (.slice (some ⟨gb, 0, none⟩) (M + 1) cb) L := own_below J1.out h9
        have K4 := hidD (below_then J4.out (below_low h9 (show B ≤ wr.heap.size by have := J5.out; omega)))
        have K5 : Hid (gb < w9.heap.size) := hidD (Nat.lt_of_lt_of_le J5.out h9.size)
        obtain ⟨n1, n2, n3⟩ := HLN.out
        clear h9
        cases y
        · have HL := hidD (HST.out rfl)
          have HJ9 := hidD J9
          clear t1 t2 u1 u2 f1 f2 g1 g2 cA n1 n2 n3 J9
          go_wp2_with fail
          go_ret
          exact ⟨_, rfl, by rw [← HL.out]; exact HJ9.out, K4.out⟩
        · have HSW := hidD (HGO.out rfl)
          have HJ9 := hidD J9
          have HN := hidD (And.intro n1 n2)
          have HL2 : Hid ((Ti.sw L k p).length = M + 1) := hidD (by rw [Ti.sw_len]; exact J2.out)
          clear t1 t2 u1 u2 f1 f2 g1 g2 cA J9 n1 n2
          go_upto_block 1 with fail
          go_cut [] (fun wx => OT wx B (.slice (some ⟨gb, 0, none⟩) (M + 1) cb) (Ti.sw L k p) ∧ Below B w wx ∧ gb < wx.heap.size)
          case first =>
            have D1 : OT w9.drew B (.slice (some ⟨gb, 0, none⟩) (M + 1) cb) L := HJ9.out
            obtain ⟨r1, r2, s1, s2⟩ := D1.at k HN.out.1
            obtain ⟨r3, r4, s3, s4⟩ := D1.at p HN.out.2
            have U1 := D1.put k HN.out.1 (Ti.g L p)
            have U2 := D1.put p HN.out.2 (Ti.g L k)
            have r5 : w9.cell? ⟨gb, k * 2, none⟩ = some (.int .i64 (Ti.g L k).at') := r1
            have r6 : w9.cell? ⟨gb, k * 2 + 1, none⟩ = some (.int .i64 (Ti.g L k).id') := r2
            have r7 : w9.cell? ⟨gb, p * 2, none⟩ = some (.int .i64 (Ti.g L p).at') := r3
            have r8 : w9.cell? ⟨gb, p * 2 + 1, none⟩ = some (.int .i64 (Ti.g L p).id') := r4
            have s5 : w9.frozen? ⟨gb, k * 2, none⟩ = false := s1
            have s6 : w9.frozen? ⟨gb, k * 2 + 1, none⟩ = false := s2
            have s7 : w9.frozen? ⟨gb, p * 2, none⟩ = false := s3
            have s8 : w9.frozen? ⟨gb, p * 2 + 1, none⟩ = false := s4
            have hip3 : (p : Int) < (M : Int) + 1 := by omega
            have hik3 : (k : Int) < (M : Int) + 1 := by omega
            have hip : (p : Int) < ((M + 1 : Nat) : Int) := by omega
            have hip2 : p < M + 1 := by omega
            have hik2 : k < M + 1 := by omega
            have n4 : ¬ p = k := fun e => n3 e.symm
            have m1 : ¬ k * 2 = p * 2 + 1 := by omega
            have m2 : ¬ p * 2 = k * 2 + 1 := by omega
            have m3 : ¬ k * 2 + 1 = p * 2 := by omega
            have m4 : ¬ p * 2 + 1 = k * 2 := by omega
            have m5 : ¬ k * 2 = p * 2 := by omega
            have m6 : ¬ p * 2 = k * 2 := by omega
            have W1 := D1.swap k p HN.out.1 HN.out.2
            have W2 := D1.swap p k HN.out.2 HN.out.1
            rw [Ti.sw_comm L p k (Ne.symm n3)] at W2
            have hgB : B ≤ gb := hg1
            have FA : Hid (OT (putT (putT w9.drew gb k (Ti.g L p)) gb p (Ti.g L k)) B (.slice (some ⟨gb, 0, none⟩) (M + 1) cb) (Ti.sw L k p) ∧ Below B w (putT (putT w9.drew gb k (Ti.g L p)) gb p (Ti.g L k)) ∧ gb < (putT (putT w9.drew gb k (Ti.g L p)) gb p (Ti.g L k)).heap.size) :=
              hidD ⟨W1, ((putT_cg w9.drew gb k (Ti.g L p)).trans (putT_cg _ gb p (Ti.g L k))).below hg1 (by have := K5.out; show B ≤ w9.heap.size; omega) (belowD_drew K4.out), Nat.lt_of_lt_of_le K5.out ((putT_cg w9.drew gb k (Ti.g L p)).trans (putT_cg _ gb p (Ti.g L k))).size⟩
            have FB : Hid (OT (putT (putT w9.drew gb p (Ti.g L k)) gb k (Ti.g L p)) B (.slice (some ⟨gb, 0, none⟩) (M + 1) cb) (Ti.sw L k p) ∧ Below B w (putT (putT w9.drew gb p (Ti.g L k)) gb k (Ti.g L p)) ∧ gb < (putT (putT w9.drew gb p (Ti.g L k)) gb k (Ti.g L p)).heap.size) :=
              hidD ⟨W2, ((putT_cg w9.drew gb p (Ti.g L k)).trans (putT_cg _ gb k (Ti.g L p))).below hg1 (by have := K5.out; show B ≤ w9.heap.size; omega) (belowD_drew K4.out), Nat.lt_of_lt_of_le K5.out ((putT_cg w9.drew gb p (Ti.g L k)).trans (putT_cg _ gb k (Ti.g L p))).size⟩
            clear W1 W2 U1 U2 D1 HJ9 HN HL2 HSW HST HGO J1 J2 J4 J5 K4 K5 HLN hxk hxp HM HBB hc1 hc2 hg1 hg2 hB hgB
            generalize Ti.g L k = xk at *
            generalize Ti.g L p = xp at *
            obtain ⟨ka, ki⟩ := xk
            obtain ⟨pa, pi⟩ := xp
            dsimp only at r1 r2 r3 r4 r5 r6 r7 r8
            go_wp2_with fail
            go_region
            all_goals (
              go_wp2
              go_meet
              first
              | exact FA.out
              | exact FB.out)
          case rest =>
            obtain ⟨h1, h2, h3⟩ := hcut
            have E1 := hidD h1
            have E2 := hidD h2
            have E3 := hidD h3
            clear h1 h2 h3
            go_wp2_with fail
            exact ⟨⟨p, Ti.sw L k p, by omega, by first | rfl | go_num, hidD ⟨E1.out, HL2.out, HSW.out, E2.out, E3.out⟩⟩, by simp [intOf]; omega⟩
end Go.Proofs.Ytkamcjebihfdlaa
