/- timers: the first one off, by the reference. -/
import Derived.Test.YtkamcjebihfdlaaTmC
import Derived.Test.YtkamcjebihfdlaaTmF
namespace Go.Proofs.Ytkamcjebihfdlaa
open Go.RowKit
set_option linter.unusedVariables false
set_option maxRecDepth 20000

/-- The first so many of a row of one's own. -/
theorem OT.cut {W : World} {B g n cap m : Nat} {l : List Ti.T} (h : OT W B (.slice (some ⟨g, 0, none⟩) n cap) l) (hm : m ≤ l.length) : OT W B (.slice (some ⟨g, 0, none⟩) m cap) (l.take m) := by
  have hl : (l.take m).length = m := by rw [List.length_take]; omega
  refine ⟨tsL_len _, .inr ?_⟩
  rcases h.2 with ⟨h1, _⟩ | ⟨g2, cap2, cur, h1, hB, hb, hc1, hc2, hs, ht⟩
  · cases h1
  · injection h1 with e1 e2 e3
    injection e1 with e1
    injection e1 with e1 _ _
    subst e1 e2 e3
    refine ⟨g, cap, cur, by rw [hl], hB, hb, by rw [hl]; omega, hc2, hs, ?_⟩
    rw [hl, tsL_take, ← ht, List.take_take]
    congr 1
    omega
theorem Ti.ch_two {L : List Ti.T} {k c : Nat} (hc : c = 2 * k + 1) : Ti.ch L k = if c + 1 < L.length ∧ Ti.ah (Ti.g L (c + 1)) (Ti.g L c) = true then c + 1 else c := by
  subst hc
  rfl

set_option maxHeartbeats 16000000 in
theorem rtake_any : RTake := by
  intro B v l w h hB h0 hl
  obtain ⟨g, cap, rfl, hg1, hg2, hc1, hc2⟩ := h.lies h0
  obtain ⟨N, hN⟩ : ∃ N, N = l.length := ⟨_, rfl⟩
  rw [← hN] at h h0 hl hc1 ⊢
  obtain ⟨m, hm⟩ : ∃ m, m = N - 1 := ⟨_, rfl⟩
  have e1 : IntKind.i64.wrap ((N : Int) - 1) = (m : Int) := by rw [show (N : Int) - 1 = (m : Int) by omega]; exact wrap_ok (by omega) (by omega)
  obtain ⟨r1, r2, s1, s2⟩ := h.at m (by omega)
  obtain ⟨r3, r4, s3, s4⟩ := h.at 0 (by omega)
  rw [Nat.zero_mul] at r3 s3
  rw [Nat.zero_mul, Nat.zero_add] at r4 s4
  have P1 := h.put 0 (by omega) (Ti.g l m)
  have P2 := OT.cut P1 (m := m) (by rw [List.length_set]; omega)
  have HL : ((l.set 0 (Ti.g l m)).take m).length = m := by rw [List.length_take, List.length_set]; omega
  have HT : Ti.down ((l.set 0 (Ti.g l m)).take m) 0 = Ti.take l := by unfold Ti.take; rw [hm, ← hN]
  have HC := putT_cg w g 0 (Ti.g l m)
  have hmN : (m : Int) < (N : Int) := by omega
  have hmN2 : (m : Int) ≤ (cap : Int) := by omega
  have hmN3 : m ≤ cap := by omega
  have hN0 : (0 : Int) < (N : Int) := by omega
  unfold maxLen at hc2
  unfold putT at P2 HC
  rw [Nat.zero_mul, Nat.zero_add] at P2 HC
  generalize (l.set 0 (Ti.g l m)).take m = L0 at *
  generalize Ti.g l m = xm at *
  generalize Ti.g l 0 = x0 at *
  obtain ⟨ma, mi⟩ := xm
  dsimp only at r1 r2 P2 HC
  have HP2 := hidD (And.intro P2 (And.intro HL (And.intro HT HC)))
  have HB := hidD (And.intro hB (And.intro hg1 hg2))
  replace hN := hidD hN
  have hmN4 : m < N := by omega
  replace hm := hidD hm
  clear P1 P2 HL HT HC h hB hg1
  go_enter Try.func34, Try.ntmps34
  go_wp2_with fail
  obtain ⟨W1, hW1⟩ : ∃ W1, W1 = (w.setCell ⟨g, 0, none⟩ (.int .i64 ma)).setCell ⟨g, 1, none⟩ (.int .i64 mi) := ⟨_, rfl⟩
  rw [← hW1] at HP2 ⊢
  clear hW1 r1 r2 r3 r4 s1 s2 s3 s4
  go_loopw [4] (fun i wr => ∃ (k : Nat) (L : List Ti.T), k ≤ m ∧ i = .int .i64 (k : Int) ∧ Hid (OT wr B (.slice (some ⟨g, 0, none⟩) m cap) L ∧ L.length = m ∧ Ti.down L k = Ti.take l ∧ Cg g w wr ∧ g < wr.heap.size)) (fun i _ => 2000000 - (intOf i).toNat)
  case atStart => exact ⟨0, L0, Nat.zero_le _, by first | rfl | go_num, hidD ⟨HP2.out.1, HP2.out.2.1, HP2.out.2.2.1, HP2.out.2.2.2, Nat.lt_of_lt_of_le HB.out.2.2 HP2.out.2.2.2.size⟩⟩
  case round =>
    clear HP2
    obtain ⟨k, L, hk, rfl, hJ⟩ := hrel
    obtain ⟨j1, j2, j3, j4, j5⟩ := hJ.out
    obtain ⟨c, hc⟩ : ∃ c, c = 2 * k + 1 := ⟨_, rfl⟩
    have f1 : IntKind.i64.wrap (2 * (k : Int)) = ((2 * k : Nat) : Int) := by rw [show 2 * (k : Int) = ((2 * k : Nat) : Int) by omega]; exact wrap_ok (by omega) (by omega)
    have f2 : IntKind.i64.wrap (((2 * k : Nat) : Int) + 1) = (c : Int) := by rw [show ((2 * k : Nat) : Int) + 1 = (c : Int) by omega]; exact wrap_ok (by omega) (by omega)
    have f1b : IntKind.i64.wrap (2 * (k : Int)) = 2 * (k : Int) := wrap_ok (by omega) (by omega)
    have f2b : IntKind.i64.wrap (2 * (k : Int) + 1) = (c : Int) := by rw [show 2 * (k : Int) + 1 = (c : Int) by omega]; exact wrap_ok (by omega) (by omega)
    by_cases hcm : m ≤ c
    · rw [Ti.down_stop (.inl (by omega))] at j3
      have HE := hidD (And.intro j1 (And.intro j3 j4))
      have hcm2 : (m : Int) ≤ (c : Int) := by omega
      replace hc := hidD hc
      clear j1 j2 j3 j4 j5 hJ
      go_wp2_with fail
      go_ret
      exact ⟨_, rfl, by have := HE.out.1; rw [HE.out.2.1] at this; exact this, fun b hb => by cases hb; exact HE.out.2.2⟩
    · obtain ⟨b, hb⟩ : ∃ b, b = c + 1 := ⟨_, rfl⟩
      have f3 : IntKind.i64.wrap ((c : Int) + 1) = (b : Int) := by rw [show (c : Int) + 1 = (b : Int) by omega]; exact wrap_ok (by omega) (by omega)
      obtain ⟨d, hd⟩ : ∃ d, d = Ti.ch L k := ⟨_, rfl⟩
      have hd2 : d = if b < m ∧ Ti.ah (Ti.g L b) (Ti.g L c) = true then b else c := by rw [hd, Ti.ch_two hc, j2, ← hb]
      have hdm : d < m := by rw [hd2]; split <;> omega
      have hkd : k < d := by rw [hd2]; split <;> omega
      have HST : Hid (Ti.ah (Ti.g L d) (Ti.g L k) = false → L = Ti.take l) := hidD (fun h => by rw [← j3, Ti.down_stop (.inr (by rw [← hd]; exact h))])
      have HGO : Hid (Ti.ah (Ti.g L d) (Ti.g L k) = true → Ti.down (Ti.sw L k d) d = Ti.take l) := hidD (fun h => by rw [← j3, Ti.down_go (l := L) (i := k) (by omega) (by rw [← hd]; exact h), ← hd])
      have hcm2 : (c : Int) < (m : Int) := by omega
      have hcm3 : c < m := by omega
      have hcm4 : ¬ ((m : Int) ≤ (c : Int)) := by omega
      obtain ⟨y, hy⟩ : ∃ y, y = (decide (b < m) && Ti.ah (Ti.g L b) (Ti.g L c)) := ⟨_, rfl⟩
      have HD : Hid ((y = true → d = b) ∧ (y = false → d = c)) := hidD ⟨fun h => by rw [hd2, if_pos]; rw [h] at hy; have := hy.symm; simpa using this, fun h => by rw [hd2, if_neg]; intro hh; rw [h, hh.2, decide_eq_true hh.1] at hy; cases hy⟩
      have HY := hidD hy
      have HBB := hidD hb
      have HCC := hidD hc
      clear hd hd2 hy hcm hb hc
      have J := hJ
      have HK := hidD hk
      clear j1 j2 j3 j4 j5 hJ
      go_upto_region 8 with fail
      go_cut [40] (fun v wx => v = .bool y ∧ Below wr.heap.size wr wx)
      case first =>
        have hb := HBB.out
        by_cases hq : b < m
        · have hqi : (b : Int) < (m : Int) := by omega
          obtain ⟨t1, t2, _, _⟩ := J.out.1.at b (by rw [J.out.2.1]; exact hq)
          obtain ⟨u1, u2, _, _⟩ := J.out.1.at c (by rw [J.out.2.1]; exact hcm3)
          have cA := hidD (rahead_any (Ti.g L b) (Ti.g L c))
          have hY := HY.out
          rw [decide_eq_true hq, Bool.true_and] at hY
          rw [← hY] at cA
          replace hY := hidD hY
          have G5 : g < wr.drew.heap.size := J.out.2.2.2.2
          generalize Ti.g L b = xb at *
          generalize Ti.g L c = xc at *
          obtain ⟨ba, bi⟩ := xb
          obtain ⟨ca, ci⟩ := xc
          dsimp only at t1 t2 u1 u2
          clear HST HGO HD HY HBB HCC J HB hN hm hb
          go_region_held (fun w' => w'.cell? ⟨g, b * 2, none⟩ = some (.int .i64 ba) ∧ w'.cell? ⟨g, b * 2 + 1, none⟩ = some (.int .i64 bi) ∧ w'.cell? ⟨g, c * 2, none⟩ = some (.int .i64 ca) ∧ w'.cell? ⟨g, c * 2 + 1, none⟩ = some (.int .i64 ci)) (first | exact ⟨t1, t2, u1, u2⟩ | exact ⟨(H9.out.cell (p := ⟨g, b * 2, none⟩) G5).trans t1, (H9.out.cell (p := ⟨g, b * 2 + 1, none⟩) G5).trans t2, (H9.out.cell (p := ⟨g, c * 2, none⟩) G5).trans u1, (H9.out.cell (p := ⟨g, c * 2 + 1, none⟩) G5).trans u2⟩)
            ((go_at_call 26; refine (cA.out _).mono ?_; rintro e w9 ⟨rfl, h9⟩; have H9 := hidD h9; clear h9))
          all_goals (
            go_wp2
            go_meet
            exact ⟨rfl, below_undrew H9.out⟩)
        · have hY := HY.out
          rw [decide_eq_false hq, Bool.false_and] at hY
          subst hY
          have hq2 := decide_eq_false hq
          have hq3 : ¬ (b : Int) < (m : Int) := by omega
          have hq4 := decide_eq_false hq3
          clear HST HGO HD HY HBB HCC HB hN hm hb J
          go_region
          go_wp2
          go_meet
          exact ⟨rfl, below_undrew (Below.refl _ _)⟩
      case rest =>
        obtain ⟨rfl, h8⟩ := hcut
        generalize wc = w8 at *
        obtain ⟨j1, j2, j3, j4, j5⟩ := J.out
        have HX : Hid (OT w8 B (.slice (some ⟨g, 0, none⟩) m cap) L ∧ L.length = m ∧ Cg g w w8 ∧ g < w8.heap.size) := hidD ⟨own_below j1 (below_low h8 (by have := HB.out; have := j4.size; omega)), j2, j4.trans (Cg.of_below h8), Nat.lt_of_lt_of_le j5 h8.size⟩
        have cA := hidD (rahead_any (Ti.g L d) (Ti.g L k))
        obtain ⟨z, hz⟩ : ∃ z, z = Ti.ah (Ti.g L d) (Ti.g L k) := ⟨_, rfl⟩
        rw [← hz] at cA HST HGO
        obtain ⟨nz, hnz⟩ : ∃ nz, nz = !z := ⟨_, rfl⟩
        replace hnz := hidD hnz
        have hkm : (k : Int) < (m : Int) := by omega
        have hkm2 : k < m := by omega
        have hdm2 : (d : Int) < (m : Int) := by omega
        clear j1 j2 j3 j4 j5 h8 hz J HY hk
        have hkd' : Hid (k < d) := hidD hkd
        clear hkd
        cases y
        case' false =>
          obtain rfl := HD.out.2 rfl
          clear HD HBB HCC
          go_upto_region 10 with fail
        case' true =>
          obtain rfl := HD.out.1 rfl
          clear HD HBB HCC
          go_upto_region 10 with fail
        all_goals (
          go_cut [52] (fun v wx => v = .bool nz ∧ Below w8.heap.size w8 wx)
          case first =>
            obtain ⟨t1, t2, _, _⟩ := HX.out.1.at d (by rw [HX.out.2.1]; exact hdm)
            obtain ⟨u1, u2, _, _⟩ := HX.out.1.at k (by rw [HX.out.2.1]; exact hkm2)
            have G5 : g < w8.drew.heap.size := HX.out.2.2.2
            have hnz' := hnz.out
            subst hnz'
            clear HST HGO HX HB hN hm hnz HK hkd'
            generalize Ti.g L d = xb at *
            generalize Ti.g L k = xc at *
            obtain ⟨ba, bi⟩ := xb
            obtain ⟨ca, ci⟩ := xc
            dsimp only at t1 t2 u1 u2
            go_region_held (fun w' => w'.cell? ⟨g, d * 2, none⟩ = some (.int .i64 ba) ∧ w'.cell? ⟨g, d * 2 + 1, none⟩ = some (.int .i64 bi) ∧ w'.cell? ⟨g, k * 2, none⟩ = some (.int .i64 ca) ∧ w'.cell? ⟨g, k * 2 + 1, none⟩ = some (.int .i64 ci)) (first | exact ⟨t1, t2, u1, u2⟩ | exact ⟨(H9.out.cell (p := ⟨g, d * 2, none⟩) G5).trans t1, (H9.out.cell (p := ⟨g, d * 2 + 1, none⟩) G5).trans t2, (H9.out.cell (p := ⟨g, k * 2, none⟩) G5).trans u1, (H9.out.cell (p := ⟨g, k * 2 + 1, none⟩) G5).trans u2⟩)
              ((go_at_call 26; refine (cA.out _).mono ?_; rintro e w9 ⟨rfl, h9⟩; have H9 := hidD h9; clear h9))
            all_goals (
              go_wp2
              go_meet
              exact ⟨rfl, below_undrew H9.out⟩)
          case rest =>
            obtain ⟨rfl, h9⟩ := hcut
            generalize wc = w9 at *
            have HX9 : Hid (OT w9 B (.slice (some ⟨g, 0, none⟩) m cap) L ∧ L.length = m ∧ Cg g w w9 ∧ g < w9.heap.size) := hidD (by obtain ⟨j1, j2, j4, j5⟩ := HX.out; exact ⟨own_below j1 (below_low h9 (by have := HB.out; have := j4.size; omega)), j2, j4.trans (Cg.of_below h9), Nat.lt_of_lt_of_le j5 h9.size⟩)
            clear h9 HX cA
            cases z
            · have hnz' : nz = true := hnz.out
              subst hnz'
              have hL := HST.out rfl
              clear hnz HGO HST
              go_wp2_with fail
              go_ret
              exact ⟨_, rfl, by have := HX9.out.1; rw [hL] at this; exact this, fun b hb => by cases hb; exact HX9.out.2.2.1⟩
            · have hnz' : nz = false := hnz.out
              subst hnz'
              have hSW := hidD (HGO.out rfl)
              clear hnz HGO HST
              go_upto_region 12 with fail
              go_cut [] (fun wx => OT wx B (.slice (some ⟨g, 0, none⟩) m cap) (Ti.sw L k d) ∧ Cg g w wx)
              case first =>
                have D1 : OT w9.drew B (.slice (some ⟨g, 0, none⟩) m cap) L := HX9.out.1
                have hkL : k < L.length := by rw [HX9.out.2.1]; exact hkm2
                have hdL : d < L.length := by rw [HX9.out.2.1]; exact hdm
                obtain ⟨r1, r2, s1, s2⟩ := D1.at k hkL
                obtain ⟨r3, r4, s3, s4⟩ := D1.at d hdL
                have r5 : w9.cell? ⟨g, k * 2, none⟩ = some (.int .i64 (Ti.g L k).at') := r1
                have r6 : w9.cell? ⟨g, k * 2 + 1, none⟩ = some (.int .i64 (Ti.g L k).id') := r2
                have r7 : w9.cell? ⟨g, d * 2, none⟩ = some (.int .i64 (Ti.g L d).at') := r3
                have r8 : w9.cell? ⟨g, d * 2 + 1, none⟩ = some (.int .i64 (Ti.g L d).id') := r4
                have s5 : w9.frozen? ⟨g, k * 2, none⟩ = false := s1
                have s6 : w9.frozen? ⟨g, k * 2 + 1, none⟩ = false := s2
                have s7 : w9.frozen? ⟨g, d * 2, none⟩ = false := s3
                have s8 : w9.frozen? ⟨g, d * 2 + 1, none⟩ = false := s4
                have W1 := D1.swap k d hkL hdL
                have W2 := D1.swap d k hdL hkL
                have n3 : k ≠ d := Nat.ne_of_lt hkd'.out
                rw [Ti.sw_comm L d k (Ne.symm n3)] at W2
                have n4 : ¬ d = k := fun e => n3 e.symm
                have m1 : ¬ k * 2 = d * 2 + 1 := by omega
                have m2 : ¬ d * 2 = k * 2 + 1 := by omega
                have m3 : ¬ k * 2 + 1 = d * 2 := by omega
                have m4 : ¬ d * 2 + 1 = k * 2 := by omega
                have m5 : ¬ k * 2 = d * 2 := by omega
                have m6 : ¬ d * 2 = k * 2 := by omega
                have C0 : Cg g w w9.drew := HX9.out.2.2.1.trans (Cg.drewN w9 1)
                have FA : Hid (OT (putT (putT w9.drew g k (Ti.g L d)) g d (Ti.g L k)) B (.slice (some ⟨g, 0, none⟩) m cap) (Ti.sw L k d) ∧ Cg g w (putT (putT w9.drew g k (Ti.g L d)) g d (Ti.g L k))) := hidD ⟨W1, C0.trans ((putT_cg w9.drew g k (Ti.g L d)).trans (putT_cg _ g d (Ti.g L k)))⟩
                have FB : Hid (OT (putT (putT w9.drew g d (Ti.g L k)) g k (Ti.g L d)) B (.slice (some ⟨g, 0, none⟩) m cap) (Ti.sw L k d) ∧ Cg g w (putT (putT w9.drew g d (Ti.g L k)) g k (Ti.g L d))) := hidD ⟨W2, C0.trans ((putT_cg w9.drew g d (Ti.g L k)).trans (putT_cg _ g k (Ti.g L d)))⟩
                clear W1 W2 D1 C0 HX9 hSW HB hN hm HK hkd' hkL hdL
                generalize Ti.g L k = xk at *
                generalize Ti.g L d = xp at *
                obtain ⟨ka, ki⟩ := xk
                obtain ⟨pa, pi⟩ := xp
                dsimp only at r1 r2 r3 r4 r5 r6 r7 r8
                go_region
                all_goals (
                  go_wp2
                  go_meet
                  first
                  | exact FA.out
                  | exact FB.out)
              case rest =>
                obtain ⟨h1, h2⟩ := hcut
                have E1 := hidD (And.intro h1 h2)
                have E2 := hidD (show (Ti.sw L k d).length = m by rw [Ti.sw_len]; exact HX9.out.2.1)
                have E3 := HX9.out.2.2.2
                have E4 := hidD (Nat.lt_of_lt_of_le HB.out.2.2 h2.size)
                clear h1 h2 HX9
                go_wp2_with fail
                exact ⟨⟨d, Ti.sw L k d, by omega, by first | rfl | go_num, hidD ⟨E1.out.1, E2.out, hSW.out, E1.out.2, E4.out⟩⟩, by have := hkd'.out; simp [intOf]; omega⟩)
end Go.Proofs.Ytkamcjebihfdlaa
