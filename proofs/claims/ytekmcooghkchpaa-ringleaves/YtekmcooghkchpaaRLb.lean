/- ring: RingLeaves, the walk. -/
import Derived.Test.YtekmcooghkchpaaRLa
import Derived.RangeFuncBound
namespace Go.Proofs.Ytekmcooghkchpaa
open Go.RowKit Go.Sort Go.Shelf
attribute [local go_sem] Oper.semAt_some
set_option maxRecDepth 100000 in
set_option maxHeartbeats 4000000 in
theorem leaves_in (pn at' h : Int) (v : Value) (l r s : List Rp.Pt) (E A Bv X : Int) (U : List Int) (K : Nat) (w : World) (hv : PSeg .i64 w v l) (hbad : E ≠ 0 → r = [])
    (hgood : E = 0 → l.length ≤ 32) (hat : E = 0 → 2 ≤ l.length → Int.tmod (IntKind.i64.wrap (Int.tmod at' (l.length : Int) + (l.length : Int))) (l.length : Int) = (K : Int) ∧ K < l.length ∧ X = (l.getD K (0, 0)).1)
    (hU : E = 0 → 2 ≤ l.length → U.length = l.length ∧ (if A = X then Bv = U.getD 1 0 else A = Bv))
    (CB : ∀ w' : World, Below w.heap.size w w' → Calls Try.prog 10 #[.int .i64 pn, v] w' fun e w'' => ∃ v', e = .returned (.tuple #[v', .int .i64 E]) ∧ PSeg .u64 w'' v' r ∧ Below w'.heap.size w' w'')
    (CB2 : E = 0 → 2 ≤ l.length → ∀ (v2 : Value) (w' : World), PSeg .i64 w' v2 (Rp.less l K) → Calls Try.prog 10 #[.int .i64 pn, v2] w' fun e w'' => ∃ v', e = .returned (.tuple #[v', .int .i64 0]) ∧ PSeg .u64 w'' v' s ∧ Below w'.heap.size w' w'')
    (CL1 : E = 0 → 2 ≤ l.length → ∀ (v' : Value) (w' : World), PSeg .u64 w' v' r → Calls Try.prog 12 #[v', .int .u64 h] w' fun e w'' => e = .returned (.tuple #[.int .i64 A, .int .i64 0]) ∧ Below w'.heap.size w' w'')
    (CL2 : E = 0 → 2 ≤ l.length → ∀ (v' : Value) (w' : World), PSeg .u64 w' v' s → Calls Try.prog 12 #[v', .int .u64 h] w' fun e w'' => e = .returned (.tuple #[.int .i64 Bv, .int .i64 0]) ∧ Below w'.heap.size w' w'')
    (CW : E = 0 → 2 ≤ l.length → ∀ (v' : Value) (w' : World), PSeg .u64 w' v' r → Calls Try.prog 14 #[v', .int .u64 h] w' fun e w'' => ∃ v2, e = .returned (.tuple #[v2, .int .i64 0]) ∧ Seg .i64 w'' v2 U ∧ Below w'.heap.size w' w'') :
    CallsIn Fence.wide 10 Try.prog 5 #[.int .i64 pn, v, .int .i64 at', .int .u64 h] w fun e w' => e = .returned (.bool true) ∧ Below w.heap.size w w' := by
  obtain ⟨a, cap, rfl, h1, h2, h3, h4⟩ := id hv
  have HV := hidD hv
  obtain ⟨N, hN⟩ : ∃ N, N = l.length := ⟨_, rfl⟩
  have HN := hidD hN
  have HB := hidD hbad
  rw [← hN] at h1 CB CB2 CL1 CL2 CW hgood hat hU ⊢
  have hcm := h2
  unfold maxLen at h2
  have HG := hidD hgood
  have HA := hidD hat
  have HU := hidD hU
  have H2 := hidD CB2
  have H3 := hidD CL1
  have H4 := hidD CL2
  have H5 := hidD CW
  have c0 := alive_any w
  have F1 : Fence.wide.fn 10 := trivial
  have F2 : Fence.wide.fn 12 := trivial
  have F3 : Fence.wide.fn 14 := trivial
  have F4 : Fence.wide.fn 25 := trivial
  have F5 : Fence.wide.fn 19 := trivial
  have D1 : 1 ≤ 10 := by decide
  clear hN hv hbad hgood hat hU CB2 CL1 CL2 CW
  refine callsIn_of_wp Try.func5 rfl trivial ?_ rfl
  simp only [Try.ntmps5, List.size_toArray, List.length_cons, List.length_nil, Nat.reduceAdd, Nat.reduceSub, Array.replicate_succ, Array.replicate_zero, List.push_toArray, List.append_toArray, List.nil_append, List.cons_append]
  by_cases hE : E = 0
  · subst hE
    have hN32 := HG.out rfl
    by_cases hN2 : 2 ≤ N
    · obtain ⟨hr1, hK, hX⟩ := HA.out rfl hN2
      obtain ⟨hU1, hfin⟩ := HU.out rfl hN2
      have hNN := HN.out
      obtain ⟨g, off, rfl, hg, hcell⟩ := pseg_at (l := l) (by omega) (by assumption) h4
      have c2 := H2.out rfl hN2
      have c3 := H3.out rfl hN2
      have c4 := H4.out rfl hN2
      have c5 := H5.out rfl hN2
      have HFIN := hidD hfin
      have HX := hidD hX
      have HU1 := hidD hU1
      have HCELL := hidD hcell
      obtain ⟨S, hS⟩ : ∃ S, S = IntKind.i64.wrap (Int.tmod at' (N : Int) + (N : Int)) := ⟨_, rfl⟩
      rw [← hS] at hr1
      have hS' := hS.symm
      have hne : (N : Int) ≠ 0 := by omega
      clear HG HA HU H2 H3 H4 H5 h4 hfin hX hU1 hcell hS hNN HB
      gi_wp2_with (first | (gi_at_call 25; refine (callsIn_wide.2 c0).mono ?_; rintro e w1 ⟨rfl, b1⟩; have c1 := CB w1 b1) | (gi_at_call 10; refine (callsIn_wide.2 c1).mono ?_; rintro e w2 ⟨v', rfl, p2, b2⟩; obtain ⟨ra, rcap, rfl, -⟩ := id p2) | (gi_at_call 19; refine (callsIn_wide.2 (num_any _ _)).mono ?_; rintro e w' ⟨rfl, rfl⟩))
      have b12 := Below.step b1 b2
      have HB12 := hidD b12
      have HP2 := hidD p2
      obtain ⟨i0, hi, hz0, hz1, hz2⟩ := info_parts Try.infoB
      have hadd : IntKind.i64.wrap ((K : Int) + 1) = ((K + 1 : Nat) : Int) := by rw [IntKind.wrap_i64]; omega
      have HC : Hid (∀ W : World, Below w2.heap.size w2 W → ∀ j u, (rowB l)[j]? = some u → W.cell? ((⟨g, off, none⟩ : Addr).add j) = some u) := hidD (fun W hb0 => rowB_cells (fun i hi => have hb := Below.step b12 hb0; ⟨(hb.cell (p := ⟨g, off + i * 2, none⟩) hg).trans (HCELL.out i hi).1, (hb.cell (p := ⟨g, off + i * 2 + 1, none⟩) hg).trans (HCELL.out i hi).2⟩))
      have hcap := h1
      clear c0 c1 b1 b2 p2 CB
      refine wpIn_region_parted (pred := fun jx v W => match jx with | 0 => v = .slice none 0 0 | 1 => v = .slice (some ⟨g, off, none⟩) N cap | 2 => v = .int .i64 (K : Int) | 3 => v = .slice (some ⟨g, off, none⟩) K cap | 4 => ∃ v4, v = v4 ∧ (W.ownsRow w2.heap.size 54 2 v4 K (rowB (l.take K))) | 5 => v = .slice (some ⟨g, off, none⟩) N cap | 6 => v = .int .i64 (K : Int) | 7 => v = .int .i64 ((K + 1 : Nat) : Int) | 8 => v = .slice (some (if cap = K + 1 then ⟨g, off, none⟩ else ⟨g, off + (K + 1) * 2, none⟩)) (N - (K + 1)) (cap - (K + 1)) | 9 => ∃ v9, v = v9 ∧ (W.ownsRow w2.heap.size 54 2 v9 (N - 1) (rowB (Rp.less l K))) | 10 => ∃ v9, v = v9 ∧ (W.ownsRow w2.heap.size 54 2 v9 (N - 1) (rowB (Rp.less l K))) | _ => True) (R := fun _ W => Below w2.heap.size w2 W) (T := fun W W' => W.grownBy W' none) 9 (by kernel_rfl) (by kernel_rfl) (by kernel_rfl) (by kernel_rfl) (by decide) ?mono (belowD_drew (Below.refl _ _)) ?s1 ?sm ?s2 ?done
      case mono =>
        intro ix v W1 W2 hi hp hk
        match ix, hp, hi with
        | 0, h, _ => exact h
        | 1, h, _ => exact h
        | 2, h, _ => exact h
        | 3, h, _ => exact h
        | 4, ⟨v4, e, h⟩, _ => exact ⟨v4, e, h.kept hk (by cases hv : v4.ownBlock <;> simp)⟩
        | 5, h, _ => exact h
        | 6, h, _ => exact h
        | 7, h, _ => exact h
        | 8, h, _ => exact h
        | _ + 9, _, h => omega
      case s1 =>
        intro ix o hi' ho A W hsz hdf hfr hdep hR
        rcases ix with _ | _ | _ | _ | _ | _ | _ | _ | _ | ix
        · injection ho with ho
          subst ho
          have e11 : A.eval (.tmp 11) = .slice none 0 0 := (hfr 11 (noDstBut_spec (by kernel_rfl))).trans rfl
          exact gIn_mv rfl (wanted_plain rfl) (.inl rfl) e11 ⟨_, rfl, rfl, grown_refl _, hR⟩
        · injection ho with ho
          subst ho
          have e1 : A.eval (.tmp 1) = .slice (some ⟨g, off, none⟩) N cap := (hfr 1 (noDstBut_spec (by kernel_rfl))).trans rfl
          exact gIn_mv rfl (wanted_plain rfl) (.inl rfl) e1 ⟨_, rfl, rfl, grown_refl _, hR⟩
        · injection ho with ho
          subst ho
          have e2 : A.eval (.tmp 2) = .int .i64 (K : Int) := (hfr 2 (noDstBut_spec (by kernel_rfl))).trans rfl
          exact gIn_mv rfl (wanted_plain rfl) (.inl rfl) e2 ⟨_, rfl, rfl, grown_refl _, hR⟩
        · injection ho with ho
          subst ho
          have e55 : A.eval (.tmp 55) = .slice (some ⟨g, off, none⟩) N cap := hdep ⟨1, .data⟩ (by simp) rfl _ _ rfl rfl
          have e56 : A.eval (.tmp 56) = .int .i64 (K : Int) := hdep ⟨2, .data⟩ (by simp) rfl _ _ rfl rfl
          exact gIn_val (v := .slice (some ⟨g, off, none⟩) K cap) (w' := W) rfl (wanted_plain rfl) (by intro c hc; cases hc) (run_slH rfl e55 e56 (run_head W g off N cap K (Nat.le_of_lt hK) hcap)) ⟨_, rfl, rfl, grown_refl _, hR⟩
        · injection ho with ho
          subst ho
          have e54 : A.eval (.tmp 54) = .slice none 0 0 := hdep ⟨0, .data⟩ (by simp) rfl _ _ rfl rfl
          have e57 : A.eval (.tmp 57) = .slice (some ⟨g, off, none⟩) K cap := hdep ⟨3, .data⟩ (by simp) rfl _ _ rfl rfl
          obtain ⟨v', w', r1, r2, r3, _⟩ := run_append_own (P := Try.prog) W w2.heap.size 22 22 54 i0 _ 2 16 Try.underlying22 hi hz0 hz1 hz2 rfl (by decide) (.slice none 0 0) 0 [] ⟨rfl, .inl ⟨rfl, rfl⟩⟩ ⟨g, off, none⟩ K cap (rowB (l.take K)) (by rw [rowB_length, List.length_take]; have := HN.out; omega) (fun j u hj => HC.out W hR j u (rowB_take l K j u hj)) (rowB_one _) (by unfold maxLen; omega) (by omega) hR.size
          refine gIn_val (v := v') (w' := w') rfl (wanted_plain rfl) (by intro c hc; cases hc) (run_app rfl e54 e57 r1) ?_
          refine ⟨_, rfl, ⟨v', rfl, ?_⟩, r3, hR.grown r3 hR.size (fun k e => by cases e)⟩
          have e0 : 0 + K = K := Nat.zero_add K
          rw [e0] at r2
          exact r2
        · injection ho with ho
          subst ho
          have e1 : A.eval (.tmp 1) = .slice (some ⟨g, off, none⟩) N cap := (hfr 1 (noDstBut_spec (by kernel_rfl))).trans rfl
          exact gIn_mv rfl (wanted_plain rfl) (.inl rfl) e1 ⟨_, rfl, rfl, grown_refl _, hR⟩
        · injection ho with ho
          subst ho
          have e2 : A.eval (.tmp 2) = .int .i64 (K : Int) := (hfr 2 (noDstBut_spec (by kernel_rfl))).trans rfl
          exact gIn_mv rfl (wanted_plain rfl) (.inl rfl) e2 ⟨_, rfl, rfl, grown_refl _, hR⟩
        · injection ho with ho
          subst ho
          have e60 : A.eval (.tmp 60) = .int .i64 (K : Int) := hdep ⟨6, .data⟩ (by simp) rfl _ _ rfl rfl
          exact gIn_val (v := .int .i64 ((K + 1 : Nat) : Int)) (w' := W) rfl (wanted_plain rfl) (by intro c hc; cases hc) (run_add1 rfl e60 hadd) ⟨_, rfl, rfl, grown_refl _, hR⟩
        · injection ho with ho
          subst ho
          have e59 : A.eval (.tmp 59) = .slice (some ⟨g, off, none⟩) N cap := hdep ⟨5, .data⟩ (by simp) rfl _ _ rfl rfl
          have e61 : A.eval (.tmp 61) = .int .i64 ((K + 1 : Nat) : Int) := hdep ⟨7, .data⟩ (by simp) rfl _ _ rfl rfl
          exact gIn_val (v := .slice (some (if cap = K + 1 then ⟨g, off, none⟩ else ⟨g, off + (K + 1) * 2, none⟩)) (N - (K + 1)) (cap - (K + 1))) (w' := W) rfl (wanted_plain rfl) (by intro c hc; cases hc) (run_slT rfl e59 e61 (run_tail W g off N cap (K + 1) hK hcap)) ⟨_, rfl, rfl, grown_refl _, hR⟩
        · omega
      case sm =>
        intro o ho A W hsz hdf hfr hdep hR
        injection ho with ho
        subst ho
        obtain ⟨v4, e58, hx58⟩ : ∃ v4, A.eval (.tmp 58) = v4 ∧ (W.ownsRow w2.heap.size 54 2 v4 K (rowB (l.take K))) := hdep ⟨4, .data⟩ (by simp) rfl _ _ rfl rfl
        have e62 : A.eval (.tmp 62) = .slice (some (if cap = K + 1 then ⟨g, off, none⟩ else ⟨g, off + (K + 1) * 2, none⟩)) (N - (K + 1)) (cap - (K + 1)) := hdep ⟨8, .data⟩ (by simp) rfl _ _ rfl rfl
        obtain ⟨v', w', r1, r2, r3, _⟩ := run_append_own (P := Try.prog) W w2.heap.size 22 22 54 i0 _ 2 16 Try.underlying22 hi hz0 hz1 hz2 rfl (by decide) v4 K (rowB (l.take K)) hx58 (if cap = K + 1 then ⟨g, off, none⟩ else ⟨g, off + (K + 1) * 2, none⟩) (N - (K + 1)) (cap - (K + 1)) (rowB (l.drop (K + 1))) (by rw [rowB_length, List.length_drop]; have := HN.out; omega) (fun j u hj => tail_cells (HC.out W hR) hj HN.out hcap) (rowB_one _) (by unfold maxLen; omega) (by omega) hR.size
        refine gIn_val (v := v') (w' := w') rfl (wanted_plain rfl) (by intro c hc; cases hc) (run_app rfl e58 e62 r1) ?_
        refine ⟨_, rfl, ⟨v', rfl, ?_⟩, hR.grown r3 hR.size (fun k e => (hx58.lt k e).1)⟩
        have e0 : K + (N - (K + 1)) = N - 1 := by omega
        rw [e0, ← rowB_append] at r2
        exact r2
      case s2 =>
        intro ix o hi' ho A W hsz hdf hfr hdep hR
        rcases ix with _ | _ | _ | _ | _ | _ | _ | _ | _ | _ | _ | ix
        iterate 10 omega
        · injection ho with ho
          subst ho
          obtain ⟨v9, e63, hx63⟩ : ∃ v9, A.eval (.tmp 63) = v9 ∧ (W.ownsRow w2.heap.size 54 2 v9 (N - 1) (rowB (Rp.less l K))) := hdep ⟨9, .data⟩ (by simp) rfl (by decide) _ _ rfl rfl
          exact gIn_mv rfl (wanted_plain rfl) (.inr rfl) e63 ⟨_, rfl, ⟨v9, rfl, hx63⟩, rfl⟩
        · simp at ho
      case done =>
        intro A0 W2 hsz hdf hfr hcome hR
        obtain ⟨v9, f11, hx11⟩ : ∃ v9, A0.tmps.getD 11 undef = v9 ∧ (W2.ownsRow w2.heap.size 54 2 v9 (N - 1) (rowB (Rp.less l K))) := hcome 10 _ _ (by decide) rfl rfl
        have hdf2 : A0.defers = [] := hdf
        have hA : A0 = ⟨#[A0.tmps.getD 0 undef, A0.tmps.getD 1 undef, A0.tmps.getD 2 undef, A0.tmps.getD 3 undef, A0.tmps.getD 4 undef, A0.tmps.getD 5 undef, A0.tmps.getD 6 undef, A0.tmps.getD 7 undef, A0.tmps.getD 8 undef, A0.tmps.getD 9 undef, A0.tmps.getD 10 undef, A0.tmps.getD 11 undef, A0.tmps.getD 12 undef, A0.tmps.getD 13 undef, A0.tmps.getD 14 undef, A0.tmps.getD 15 undef, A0.tmps.getD 16 undef, A0.tmps.getD 17 undef, A0.tmps.getD 18 undef, A0.tmps.getD 19 undef, A0.tmps.getD 20 undef, A0.tmps.getD 21 undef, A0.tmps.getD 22 undef, A0.tmps.getD 23 undef, A0.tmps.getD 24 undef, A0.tmps.getD 25 undef, A0.tmps.getD 26 undef, A0.tmps.getD 27 undef, A0.tmps.getD 28 undef, A0.tmps.getD 29 undef, A0.tmps.getD 30 undef, A0.tmps.getD 31 undef, A0.tmps.getD 32 undef, A0.tmps.getD 33 undef, A0.tmps.getD 34 undef, A0.tmps.getD 35 undef, A0.tmps.getD 36 undef, A0.tmps.getD 37 undef, A0.tmps.getD 38 undef, A0.tmps.getD 39 undef, A0.tmps.getD 40 undef, A0.tmps.getD 41 undef, A0.tmps.getD 42 undef, A0.tmps.getD 43 undef, A0.tmps.getD 44 undef, A0.tmps.getD 45 undef, A0.tmps.getD 46 undef, A0.tmps.getD 47 undef, A0.tmps.getD 48 undef, A0.tmps.getD 49 undef, A0.tmps.getD 50 undef, A0.tmps.getD 51 undef, A0.tmps.getD 52 undef, A0.tmps.getD 53 undef, A0.tmps.getD 54 undef, A0.tmps.getD 55 undef, A0.tmps.getD 56 undef, A0.tmps.getD 57 undef, A0.tmps.getD 58 undef, A0.tmps.getD 59 undef, A0.tmps.getD 60 undef, A0.tmps.getD 61 undef, A0.tmps.getD 62 undef, A0.tmps.getD 63 undef, A0.tmps.getD 64 undef, A0.tmps.getD 65 undef, A0.tmps.getD 66 undef, A0.tmps.getD 67 undef, A0.tmps.getD 68 undef, A0.tmps.getD 69 undef, A0.tmps.getD 70 undef, A0.tmps.getD 71 undef, A0.tmps.getD 72 undef, A0.tmps.getD 73 undef, A0.tmps.getD 74 undef, A0.tmps.getD 75 undef, A0.tmps.getD 76 undef, A0.tmps.getD 77 undef, A0.tmps.getD 78 undef, A0.tmps.getD 79 undef, A0.tmps.getD 80 undef, A0.tmps.getD 81 undef, A0.tmps.getD 82 undef, A0.tmps.getD 83 undef, A0.tmps.getD 84 undef, A0.tmps.getD 85 undef, A0.tmps.getD 86 undef, A0.tmps.getD 87 undef, A0.tmps.getD 88 undef, A0.tmps.getD 89 undef, A0.tmps.getD 90 undef, A0.tmps.getD 91 undef, A0.tmps.getD 92 undef, A0.tmps.getD 93 undef, A0.tmps.getD 94 undef, A0.tmps.getD 95 undef, A0.tmps.getD 96 undef, A0.tmps.getD 97 undef, A0.tmps.getD 98 undef, A0.tmps.getD 99 undef, A0.tmps.getD 100 undef, A0.tmps.getD 101 undef, A0.tmps.getD 102 undef, A0.tmps.getD 103 undef, A0.tmps.getD 104 undef, A0.tmps.getD 105 undef, A0.tmps.getD 106 undef, A0.tmps.getD 107 undef, A0.tmps.getD 108 undef, A0.tmps.getD 109 undef, A0.tmps.getD 110 undef, A0.tmps.getD 111 undef, A0.tmps.getD 112 undef, A0.tmps.getD 113 undef, A0.tmps.getD 114 undef, A0.tmps.getD 115 undef, A0.tmps.getD 116 undef, A0.tmps.getD 117 undef, A0.tmps.getD 118 undef, A0.tmps.getD 119 undef, A0.tmps.getD 120 undef, A0.tmps.getD 121 undef], A0.defers⟩ := by
          have h1 := act_lit A0.tmps 122 hsz
          obtain ⟨t, d⟩ := A0
          exact congrArg (fun x => (⟨x, d⟩ : Act)) h1
        have f0 := (show A0.tmps.getD 0 undef = .int .i64 pn from (hfr 0 (noDst_spec (by kernel_rfl))).trans rfl)
        have f1 := (show A0.tmps.getD 1 undef = .slice (some ⟨g, off, none⟩) N cap from (hfr 1 (noDst_spec (by kernel_rfl))).trans rfl)
        have f2 := (show A0.tmps.getD 2 undef = .int .i64 (K : Int) from (hfr 2 (noDst_spec (by kernel_rfl))).trans rfl)
        have f3 := (show A0.tmps.getD 3 undef = .int .u64 h from (hfr 3 (noDst_spec (by kernel_rfl))).trans rfl)
        have f8 := (show A0.tmps.getD 8 undef = .bool false from (hfr 8 (noDst_spec (by kernel_rfl))).trans rfl)
        have f9 := (show A0.tmps.getD 9 undef = .slice ra r.length rcap from (hfr 9 (noDst_spec (by kernel_rfl))).trans rfl)
        rw [hA, f11, f0, f1, f2, f3, f8, f9, hdf2]
        clear hA hfr hcome hdf hdf2 f11 hsz f0 f1 f2 f3 f8 f9
        have hx11' : PSeg .i64 W2 v9 (Rp.less l K) := by
          refine bseg_of_row (n₀ := w2.heap.size) ?_
          have e : (Rp.less l K).length = N - 1 := by unfold Rp.less; rw [List.length_append, List.length_take, List.length_drop]; have := HN.out; omega
          rw [e]
          exact hx11
        obtain ⟨sa, scap, rfl, -⟩ := id hx11'
        have cb2 := c2 _ W2 hx11'
        clear c2 hx11 hx11'
        gi_wp2_with (first | (gi_at_call 10; refine (callsIn_wide.2 cb2).mono ?_; rintro e w3 ⟨v3, rfl, p3, b3⟩; obtain ⟨ta, tcap, rfl, -⟩ := id p3))
        have q3 := HP2.out.below (Below.step hR b3)
        have cl1 := c3 _ w3 q3
        refine (callsIn_wide.2 cl1).mono ?_
        rintro e w4 ⟨rfl, b4⟩
        have cl2 := c4 _ w4 (p3.below b4)
        clear c3 c4 cl1 cb2
        gi_wp2_with fail
        refine (callsIn_wide.2 cl2).mono ?_
        rintro e w5 ⟨rfl, b5⟩
        have cw := c5 _ w5 ((q3.below b4).below b5)
        clear c5 cl2
        gi_wp2_with fail
        refine (callsIn_wide.2 cw).mono ?_
        rintro e w6 ⟨v6, rfl, s6, b6⟩
        clear cw
        have bz := Below.step (Below.step (Below.step (Below.step (Below.step b12 hR) b3) b4) b5) b6
        obtain ⟨ua, ucap, rfl, u1, u2, u3, u4⟩ := s6
        have Q1 := (bz.cell (p := ⟨g, off + K * 2, none⟩) hg).trans (HCELL.out K (by have := HN.out; omega)).1
        rw [← HX.out] at Q1
        have hUN := HU1.out
        obtain ⟨ug, uoff, rfl, hug, hucell⟩ := seg_at (l := U) (by omega) u3 u4
        have Q2 := hucell 1 (by omega)
        have hfin := HFIN.out
        have HBZ := hidD bz
        rw [hUN]
        rw [hUN] at u1
        have i1 : (K : Int) < (N : Int) := by omega
        have i2 : (1 : Int) < (N : Int) := by omega
        clear u3 u4 hucell bz b12 hR b3 b4 b5 b6 q3 p3 HFIN HX HU1 HCELL hUN
        generalize U.getD 1 0 = y at *
        by_cases hAX : A = X
        · rw [if_pos hAX] at hfin
          subst hAX
          subst hfin
          gi_wp2_with (gi_at_call 19; refine (callsIn_wide.2 (num_any _ _)).mono ?_; rintro e w' ⟨rfl, rfl⟩)
          go_ret
          exact ⟨by simp, HBZ.out⟩
        · rw [if_neg hAX] at hfin
          subst hfin
          have hb1 : (A == X) = false := by simpa using hAX
          gi_wp2_with (gi_at_call 19; refine (callsIn_wide.2 (num_any _ _)).mono ?_; rintro e w' ⟨rfl, rfl⟩)
          go_ret
          exact ⟨by simp, HBZ.out⟩
    · gi_wp2_with (first | (gi_at_call 25; refine (callsIn_wide.2 c0).mono ?_; rintro e w1 ⟨rfl, b1⟩; have c1 := CB w1 b1) | (gi_at_call 10; refine (callsIn_wide.2 c1).mono ?_; rintro e w2 ⟨v', rfl, p2, b2⟩; obtain ⟨ra, rcap, rfl, -⟩ := id p2) | (gi_at_call 19; refine (callsIn_wide.2 (num_any _ _)).mono ?_; rintro e w' ⟨rfl, rfl⟩))
      go_ret
      exact ⟨rfl, Below.step b1 b2⟩
  · have hr := HB.out hE
    subst hr
    have hb' : (E != 0) = true := by simpa using hE
    have hb2 : (E == 0) = false := by simpa using hE
    gi_wp2_with (first | (gi_at_call 25; refine (callsIn_wide.2 c0).mono ?_; rintro e w1 ⟨rfl, b1⟩; have c1 := CB w1 b1) | (gi_at_call 10; refine (callsIn_wide.2 c1).mono ?_; rintro e w2 ⟨v', rfl, p2, b2⟩; obtain ⟨ra, rcap, rfl, -⟩ := id p2) | (gi_at_call 19; refine (callsIn_wide.2 (num_any _ _)).mono ?_; rintro e w' ⟨rfl, rfl⟩))
    go_ret
    exact ⟨rfl, Below.step b1 b2⟩
end Go.Proofs.Ytekmcooghkchpaa
