/- timers: sink, takeFirst (the code's). -/
import Derived.Test.YtkamcjebihfdlaaTmP
import Derived.Test.YtkamcjebihfdlaaTmH
import Derived.Deep.CutBlock
namespace Go.Proofs.Ytkamcjebihfdlaa
open Go.RowKit
set_option linter.unusedVariables false
set_option maxRecDepth 20000

theorem Ti.ids_ne {l : List Ti.T} (h : (l.map Ti.T.id').Nodup) {i j : Nat} (hij : i ≠ j) (hi : i < l.length) (hj : j < l.length) : (Ti.g l i).id' ≠ (Ti.g l j).id' := by
  rw [List.nodup_iff_pairwise_ne, List.pairwise_iff_getElem] at h
  rw [Ti.g_at hi, Ti.g_at hj]
  rcases Nat.lt_or_gt_of_ne hij with e | e
  · have := h i j (by rw [List.length_map]; omega) (by rw [List.length_map]; omega) e
    simpa only [List.getElem_map] using this
  · have := h j i (by rw [List.length_map]; omega) (by rw [List.length_map]; omega) e
    simpa only [List.getElem_map] using this.symm
theorem Ti.sw_nodup {l : List Ti.T} {i j : Nat} (hi : i < l.length) (hj : j < l.length) (h : (l.map Ti.T.id').Nodup) : ((Ti.sw l i j).map Ti.T.id').Nodup := ((Ti.sw_perm hi hj).map _).nodup_iff.2 h

set_option maxHeartbeats 16000000 in
theorem sink_any (B g cap m : Nat) (L0 : List Ti.T) (w : World) (h : OT w B (.slice (some ⟨g, 0, none⟩) m cap) L0) (hm : L0.length = m) (hnd : (L0.map Ti.T.id').Nodup) (hl : m ≤ 1048576) (hB : B ≤ w.heap.size) (hg : g < w.heap.size) :
    Calls Try.prog 43 #[.slice (some ⟨g, 0, none⟩) m cap] w fun e w' => e = .returned (.tuple #[]) ∧ OT w' B (.slice (some ⟨g, 0, none⟩) m cap) (Ti.down L0 0) ∧ Cg g w w' := by
  have HP := hidD (And.intro h (And.intro hm (And.intro hnd (And.intro hB hg))))
  obtain ⟨T, hT⟩ : ∃ T, T = Ti.down L0 0 := ⟨_, rfl⟩
  rw [← hT]
  replace hT := hidD hT
  clear h hm hnd hB
  go_enter Try.func43, Try.ntmps43
  go_wp2_with fail
  go_loopw [2] (fun i wr => ∃ (k : Nat) (L : List Ti.T), (k ≤ m ∨ k = 0) ∧ i = .int .i64 (k : Int) ∧ Hid (OT wr B (.slice (some ⟨g, 0, none⟩) m cap) L ∧ L.length = m ∧ Ti.down L k = T ∧ Cg g w wr ∧ g < wr.heap.size ∧ (L.map Ti.T.id').Nodup)) (fun i _ => 2000000 - (intOf i).toNat)
  case atStart => exact ⟨0, L0, .inr rfl, by first | rfl | go_num, hidD ⟨HP.out.1, HP.out.2.1, hT.out.symm, Cg.refl _ _, HP.out.2.2.2.2, HP.out.2.2.1⟩⟩
  case round =>
    obtain ⟨k, L, hk, rfl, hJ⟩ := hrel
    obtain ⟨j1, j2, j3, j4, j5, j6⟩ := hJ.out
    obtain ⟨c, hc⟩ : ∃ c, c = 2 * k + 1 := ⟨_, rfl⟩
    have cL := hidD (fun W => below_t k (by omega) W)
    rw [← hc] at cL
    have cL1 := cL.out wr
    have cL2 := cL.out wr
    by_cases hcm : m ≤ c
    · rw [Ti.down_stop (.inl (by omega))] at j3
      have HE := hidD (And.intro j1 (And.intro j3 j4))
      have hcm2 : ¬ (c : Int) < (m : Int) := by omega
      replace hc := hidD hc
      clear j1 j2 j3 j4 j5 j6 hJ cL2
      go_wp2_with fail
      with_reducible refine cL1.mono ?_
      rintro e w2 ⟨rfl, rfl⟩
      clear cL1
      go_wp2_with fail
      go_end0
      exact ⟨rfl, by rw [← HE.out.2.1]; exact HE.out.1, HE.out.2.2⟩
    · obtain ⟨b, hb⟩ : ∃ b, b = c + 1 := ⟨_, rfl⟩
      have f3 : IntKind.i64.wrap ((c : Int) + 1) = (b : Int) := by rw [show (c : Int) + 1 = (b : Int) by omega]; exact wrap_ok (by omega) (by omega)
      obtain ⟨d, hd⟩ : ∃ d, d = Ti.ch L k := ⟨_, rfl⟩
      have hd2 : d = if b < m ∧ Ti.ah (Ti.g L b) (Ti.g L c) = true then b else c := by rw [hd, Ti.ch_two hc, j2, ← hb]
      have hdm : d < m := by rw [hd2]; split <;> omega
      have hkd : k < d := by rw [hd2]; split <;> omega
      have hne := Ti.ids_ne j6 (i := k) (j := d) (by omega) (by omega) (by omega)
      have HST : Hid (Ti.ah (Ti.g L k) (Ti.g L d) = true → L = T) := hidD (fun h => by rw [← j3, Ti.down_stop (.inr (by rw [← hd]; exact Ti.ah_asym h))])
      have HGO : Hid (Ti.ah (Ti.g L k) (Ti.g L d) = false → Ti.down (Ti.sw L k d) d = T) := hidD (fun h => by
        have h2 : Ti.ah (Ti.g L d) (Ti.g L k) = true := by
          rcases Ti.ah_or hne with e | e
          · rw [h] at e; cases e
          · exact e
        rw [← j3, Ti.down_go (l := L) (i := k) (by omega) (by rw [← hd]; exact h2), ← hd])
      have HND := hidD (Ti.sw_nodup (i := k) (j := d) (by omega) (by omega) j6)
      have hcm2 : (c : Int) < (m : Int) := by omega
      have hcm3 : c < m := by omega
      obtain ⟨y, hy⟩ : ∃ y, y = (decide (b < m) && Ti.ah (Ti.g L b) (Ti.g L c)) := ⟨_, rfl⟩
      have HD : Hid ((y = true → d = b) ∧ (y = false → d = c)) := hidD ⟨fun h => by rw [hd2, if_pos]; rw [h] at hy; have := hy.symm; simpa using this, fun h => by rw [hd2, if_neg]; intro hh; rw [h, hh.2, decide_eq_true hh.1] at hy; cases hy⟩
      have HY := hidD hy
      have HBB := hidD hb
      have HCC := hidD hc
      clear hd hd2 hy hcm hb hc hne
      have J := hJ
      have HK := hidD hk
      clear j1 j2 j3 j4 j5 j6 hJ cL
      go_wp2_with fail
      with_reducible refine cL1.mono ?_
      rintro e w2 ⟨rfl, rfl⟩
      clear cL1
      go_wp2_with fail
      with_reducible refine cL2.mono ?_
      rintro e w2 ⟨rfl, rfl⟩
      clear cL2
      go_upto_region 3 with fail
      go_cut [28] (fun v wx => v = .bool y ∧ Below wr.heap.size wr wx)
      case first =>
        have hb := HBB.out
        by_cases hq : b < m
        · have hqi : (b : Int) < (m : Int) := by omega
          obtain ⟨t1, t2, _, _⟩ := J.out.1.at b (by rw [J.out.2.1]; exact hq)
          obtain ⟨u1, u2, _, _⟩ := J.out.1.at c (by rw [J.out.2.1]; exact hcm3)
          have cA := hidD (compareB (Ti.g L b) (Ti.g L c))
          have HCL := hidD (Ti.cf_lt (Ti.g L b) (Ti.g L c))
          have hY := HY.out
          rw [decide_eq_true hq, Bool.true_and] at hY
          rw [← hY] at HCL
          have G5 : g < wr.drew.heap.size := J.out.2.2.2.2.1
          generalize Ti.g L b = xb at *
          generalize Ti.g L c = xc at *
          obtain ⟨ba, bi⟩ := xb
          obtain ⟨ca, ci⟩ := xc
          dsimp only at t1 t2 u1 u2
          generalize Ti.cf ⟨ba, bi⟩ ⟨ca, ci⟩ = cv at *
          have hlt := HCL.out
          clear HST HGO HD HY HBB HCC J HP hT hb hY HND
          go_region_held (fun w' => w'.cell? ⟨g, b * 2, none⟩ = some (.int .i64 ba) ∧ w'.cell? ⟨g, b * 2 + 1, none⟩ = some (.int .i64 bi) ∧ w'.cell? ⟨g, c * 2, none⟩ = some (.int .i64 ca) ∧ w'.cell? ⟨g, c * 2 + 1, none⟩ = some (.int .i64 ci)) (first | exact ⟨t1, t2, u1, u2⟩ | exact ⟨(H9.out.cell (p := ⟨g, b * 2, none⟩) G5).trans t1, (H9.out.cell (p := ⟨g, b * 2 + 1, none⟩) G5).trans t2, (H9.out.cell (p := ⟨g, c * 2, none⟩) G5).trans u1, (H9.out.cell (p := ⟨g, c * 2 + 1, none⟩) G5).trans u2⟩)
            ((go_at_call 39; refine (cA.out _).mono ?_; rintro e w9 ⟨rfl, h9⟩; have H9 := hidD h9; clear h9))
          all_goals (
            go_wp2
            go_meet
            exact ⟨by first | rfl | rw [hlt] | simp [hlt], below_undrew H9.out⟩)
        · have hY := HY.out
          rw [decide_eq_false hq, Bool.false_and] at hY
          subst hY
          have hq2 := decide_eq_false hq
          have hq3 : ¬ (b : Int) < (m : Int) := by omega
          have hq4 := decide_eq_false hq3
          clear HST HGO HD HY HBB HCC HP hT hb J HND
          go_region
          go_wp2
          go_meet
          exact ⟨rfl, below_undrew (Below.refl _ _)⟩
      case rest =>
        obtain ⟨rfl, h8⟩ := hcut
        generalize wc = w8 at *
        obtain ⟨j1, j2, j3, j4, j5, j6⟩ := J.out
        have HX : Hid (OT w8 B (.slice (some ⟨g, 0, none⟩) m cap) L ∧ L.length = m ∧ Cg g w w8 ∧ g < w8.heap.size) := hidD ⟨own_below j1 (below_low h8 (by have := HP.out.2.2.2.1; have := j4.size; omega)), j2, j4.trans (Cg.of_below h8), Nat.lt_of_lt_of_le j5 h8.size⟩
        have cA := hidD (compareB (Ti.g L d) (Ti.g L k))
        have HCG := hidD (Ti.cf_gt (Ti.g L d) (Ti.g L k))
        obtain ⟨z, hz⟩ : ∃ z, z = Ti.ah (Ti.g L k) (Ti.g L d) := ⟨_, rfl⟩
        rw [← hz] at HCG HST HGO
        have hkm : (k : Int) < (m : Int) := by omega
        have hkm2 : k < m := by omega
        have hdm2 : (d : Int) < (m : Int) := by omega
        clear j1 j2 j3 j4 j5 j6 h8 hz J HY hk
        have hkd' : Hid (k < d) := hidD hkd
        clear hkd
        cases y
        case' false =>
          obtain rfl := HD.out.2 rfl
          clear HD HBB HCC
          go_upto_region 5 with fail
        case' true =>
          obtain rfl := HD.out.1 rfl
          clear HD HBB HCC
          go_upto_region 5 with fail
        all_goals (
          go_cut [40] (fun v wx => v = .bool z ∧ Below w8.heap.size w8 wx)
          case first =>
            obtain ⟨t1, t2, _, _⟩ := HX.out.1.at d (by rw [HX.out.2.1]; exact hdm)
            obtain ⟨u1, u2, _, _⟩ := HX.out.1.at k (by rw [HX.out.2.1]; exact hkm2)
            have G5 : g < w8.drew.heap.size := HX.out.2.2.2
            clear HST HGO HX HP hT HK hkd' HND
            generalize Ti.g L d = xb at *
            generalize Ti.g L k = xc at *
            obtain ⟨ba, bi⟩ := xb
            obtain ⟨ca, ci⟩ := xc
            dsimp only at t1 t2 u1 u2
            generalize Ti.cf ⟨ba, bi⟩ ⟨ca, ci⟩ = cv at *
            have hgt := HCG.out
            go_region_held (fun w' => w'.cell? ⟨g, d * 2, none⟩ = some (.int .i64 ba) ∧ w'.cell? ⟨g, d * 2 + 1, none⟩ = some (.int .i64 bi) ∧ w'.cell? ⟨g, k * 2, none⟩ = some (.int .i64 ca) ∧ w'.cell? ⟨g, k * 2 + 1, none⟩ = some (.int .i64 ci)) (first | exact ⟨t1, t2, u1, u2⟩ | exact ⟨(H9.out.cell (p := ⟨g, d * 2, none⟩) G5).trans t1, (H9.out.cell (p := ⟨g, d * 2 + 1, none⟩) G5).trans t2, (H9.out.cell (p := ⟨g, k * 2, none⟩) G5).trans u1, (H9.out.cell (p := ⟨g, k * 2 + 1, none⟩) G5).trans u2⟩)
              ((go_at_call 39; refine (cA.out _).mono ?_; rintro e w9 ⟨rfl, h9⟩; have H9 := hidD h9; clear h9))
            all_goals (
              go_wp2
              go_meet
              exact ⟨by first | rfl | rw [hgt] | simp [hgt], below_undrew H9.out⟩)
          case rest =>
            obtain ⟨rfl, h9⟩ := hcut
            generalize wc = w9 at *
            have HX9 : Hid (OT w9 B (.slice (some ⟨g, 0, none⟩) m cap) L ∧ L.length = m ∧ Cg g w w9 ∧ g < w9.heap.size) := hidD (by obtain ⟨j1, j2, j4, j5⟩ := HX.out; exact ⟨own_below j1 (below_low h9 (by have := HP.out.2.2.2.1; have := j4.size; omega)), j2, j4.trans (Cg.of_below h9), Nat.lt_of_lt_of_le j5 h9.size⟩)
            clear h9 HX cA
            cases z
            · have hSW := hidD (HGO.out rfl)
              clear HGO HST HCG
              go_upto_region 6 with fail
              go_cut [] (fun wx => OT wx B (.slice (some ⟨g, 0, none⟩) m cap) (Ti.sw L k d) ∧ Cg g w wx)
              case first =>
                have D1 : OT w9.drew B (.slice (some ⟨g, 0, none⟩) m cap) L := HX9.out.1
                have hkL : k < L.length := by rw [HX9.out.2.1]; exact hkm2
                have hdL : d < L.length := by rw [HX9.out.2.1]; exact hdm
                obtain ⟨r1, r2, s1, s2⟩ := D1.at k hkL
                obtain ⟨r3, r4, s3, s4⟩ := D1.at d hdL
                have r5 : w9.cell? ⟨g, k * 2, none⟩ = some (.int .i64 (Ti.g L k).at') := r1
                have r6 : w9.cell? ⟨g, k * 2 + 1, none⟩ = some (.int .i64 (Ti.g L k).id') := r2
                have r7 : w9.cell? ⟨g, d * 2, none⟩ = some (.int .i64 (Ti.g L d).at') := r3
                have r8 : w9.cell? ⟨g, d * 2 + 1, none⟩ = some (.int .i64 (Ti.g L d).id') := r4
                have s5 : w9.frozen? ⟨g, k * 2, none⟩ = false := s1
                have s6 : w9.frozen? ⟨g, k * 2 + 1, none⟩ = false := s2
                have s7 : w9.frozen? ⟨g, d * 2, none⟩ = false := s3
                have s8 : w9.frozen? ⟨g, d * 2 + 1, none⟩ = false := s4
                have W1 := D1.swap k d hkL hdL
                have W2 := D1.swap d k hdL hkL
                have n3 : k ≠ d := Nat.ne_of_lt hkd'.out
                rw [Ti.sw_comm L d k (Ne.symm n3)] at W2
                have n4 : ¬ d = k := fun e => n3 e.symm
                have m1 : ¬ k * 2 = d * 2 + 1 := by omega
                have m2 : ¬ d * 2 = k * 2 + 1 := by omega
                have m3 : ¬ k * 2 + 1 = d * 2 := by omega
                have m4 : ¬ d * 2 + 1 = k * 2 := by omega
                have m5 : ¬ k * 2 = d * 2 := by omega
                have m6 : ¬ d * 2 = k * 2 := by omega
                have C0 : Cg g w w9.drew := HX9.out.2.2.1.trans (Cg.drewN w9 1)
                have FA : Hid (OT (putT (putT w9.drew g k (Ti.g L d)) g d (Ti.g L k)) B (.slice (some ⟨g, 0, none⟩) m cap) (Ti.sw L k d) ∧ Cg g w (putT (putT w9.drew g k (Ti.g L d)) g d (Ti.g L k))) := hidD ⟨W1, C0.trans ((putT_cg w9.drew g k (Ti.g L d)).trans (putT_cg _ g d (Ti.g L k)))⟩
                have FB : Hid (OT (putT (putT w9.drew g d (Ti.g L k)) g k (Ti.g L d)) B (.slice (some ⟨g, 0, none⟩) m cap) (Ti.sw L k d) ∧ Cg g w (putT (putT w9.drew g d (Ti.g L k)) g k (Ti.g L d))) := hidD ⟨W2, C0.trans ((putT_cg w9.drew g d (Ti.g L k)).trans (putT_cg _ g k (Ti.g L d)))⟩
                clear W1 W2 D1 C0 HX9 hSW HP hT HK hkd' hkL hdL HND
                generalize Ti.g L k = xk at *
                generalize Ti.g L d = xp at *
                obtain ⟨ka, ki⟩ := xk
                obtain ⟨pa, pi⟩ := xp
                dsimp only at r1 r2 r3 r4 r5 r6 r7 r8
                go_region
                all_goals (
                  go_wp2
                  go_meet
                  first
                  | exact FA.out
                  | exact FB.out)
              case rest =>
                obtain ⟨h1, h2⟩ := hcut
                have E1 := hidD (And.intro h1 h2)
                have E2 := hidD (show (Ti.sw L k d).length = m by rw [Ti.sw_len]; exact HX9.out.2.1)
                have E3 := HX9.out.2.2.2
                have E4 := hidD (Nat.lt_of_lt_of_le hg h2.size)
                clear h1 h2 HX9
                go_wp2_with fail
                exact ⟨⟨d, Ti.sw L k d, by omega, by first | rfl | go_num, hidD ⟨E1.out.1, E2.out, hSW.out, E1.out.2, E4.out, HND.out⟩⟩, by have := hkd'.out; simp [intOf]; omega⟩
            · have hL := HST.out rfl
              clear HGO HST HCG
              go_wp2_with fail
              refine bodyPost_ret (results_none rfl _ _ _) rfl ?_
              exact ⟨rfl, by rw [← hL]; exact HX9.out.1, HX9.out.2.2.1⟩)

theorem Ti.take_nodup {l : List Ti.T} (h0 : 0 < l.length) (h : (l.map Ti.T.id').Nodup) : ((Ti.take l).map Ti.T.id').Nodup := by
  have := ((Ti.take_perm h0).map Ti.T.id').nodup_iff.2 h
  rw [List.map_cons, List.nodup_cons] at this
  exact this.2
theorem Ti.cut_nodup {l : List Ti.T} (h0 : 0 < l.length) (h : (l.map Ti.T.id').Nodup) : ((((l.set 0 (Ti.g l (l.length - 1))).take (l.length - 1))).map Ti.T.id').Nodup :=
  ((Ti.down_perm _ _ 0 (Nat.le_refl _)).map _).nodup_iff.1 (Ti.take_nodup h0 h)
def CTake : Prop := ∀ (B : Nat) (v : Value) (l : List Ti.T) (w : World), OT w B v l → B ≤ w.heap.size → 0 < l.length → l.length ≤ 1048576 → (l.map Ti.T.id').Nodup →
    Calls Try.prog 33 #[v] w fun e w' => ∃ v', e = .returned v' ∧ OT w' B v' (Ti.take l) ∧ (∀ g, v.ownBlock = some g → Cg g w w')
set_option maxHeartbeats 4000000 in
theorem take_any : CTake := by
  intro B v l w h hB h0 hl hnd
  obtain ⟨g, cap, rfl, hg1, hg2, hc1, hc2⟩ := h.lies h0
  have hcn := Ti.cut_nodup h0 hnd
  obtain ⟨N, hN⟩ : ∃ N, N = l.length := ⟨_, rfl⟩
  rw [← hN] at h h0 hl hc1 hcn ⊢
  obtain ⟨m, hm⟩ : ∃ m, m = N - 1 := ⟨_, rfl⟩
  rw [← hm] at hcn
  have e1 : IntKind.i64.wrap ((N : Int) - 1) = (m : Int) := by rw [show (N : Int) - 1 = (m : Int) by omega]; exact wrap_ok (by omega) (by omega)
  obtain ⟨r1, r2, s1, s2⟩ := h.at m (by omega)
  obtain ⟨r3, r4, s3, s4⟩ := h.at 0 (by omega)
  rw [Nat.zero_mul] at r3 s3
  rw [Nat.zero_mul, Nat.zero_add] at r4 s4
  have P1 := h.put 0 (by omega) (Ti.g l m)
  have P2 := OT.cut P1 (m := m) (by rw [List.length_set]; omega)
  have HL : ((l.set 0 (Ti.g l m)).take m).length = m := by rw [List.length_take, List.length_set]; omega
  have HT : Ti.down ((l.set 0 (Ti.g l m)).take m) 0 = Ti.take l := by unfold Ti.take; rw [hm, ← hN]
  have HC := putT_cg w g 0 (Ti.g l m)
  have hmN : (m : Int) < (N : Int) := by omega
  have hmN2 : (m : Int) ≤ (cap : Int) := by omega
  have hmN3 : m ≤ cap := by omega
  have hN0 : (0 : Int) < (N : Int) := by omega
  unfold maxLen at hc2
  unfold putT at P2 HC
  rw [Nat.zero_mul, Nat.zero_add] at P2 HC
  generalize (l.set 0 (Ti.g l m)).take m = L0 at *
  generalize Ti.g l m = xm at *
  generalize Ti.g l 0 = x0 at *
  obtain ⟨ma, mi⟩ := xm
  dsimp only at r1 r2 P2 HC
  have cS := sink_any B g cap m L0 _ P2 HL hcn (by omega) (Nat.le_trans hB HC.size) (Nat.lt_of_lt_of_le hg2 HC.size)
  rw [HT] at cS
  have HCC := hidD HC
  replace hN := hidD hN
  have hmN4 : m < N := by omega
  replace hm := hidD hm
  clear P1 P2 HL HT HC h hB hg1 hcn hnd
  go_enter Try.func33, Try.ntmps33
  go_wp2_with fail
  with_reducible refine cS.mono ?_
  rintro e w2 ⟨rfl, o2, c2⟩
  have O2 := hidD o2
  have C2 := hidD (HCC.out.trans c2)
  clear cS o2 c2 HCC r1 r2 r3 r4 s1 s2 s3 s4
  go_wp2_with fail
  go_ret
  exact ⟨_, rfl, O2.out, fun b hb => by cases hb; exact C2.out⟩
end Go.Proofs.Ytkamcjebihfdlaa
