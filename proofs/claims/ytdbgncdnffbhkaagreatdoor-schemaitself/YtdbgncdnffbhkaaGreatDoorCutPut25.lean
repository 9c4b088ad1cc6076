/- schema: findAll. schema: Extends. What extends what extends a schema extends it (plain). schema: Load; alive; SchemaChains' walk. -/
import Derived.Test.YtdbgncdnffbhkaaGreatDoorCutPut24
namespace Go.Proofs.YtdbgncdnffbhkaaGreatDoor
open Go.RowKit
set_option maxRecDepth 20000

/-- What is wanted of a schema's parts. -/
def PartsOk (A : Sc) : Prop := (∀ x ∈ A.1, x.2.length ≤ 1000 ∧ ∀ f ∈ x.2, Pl.okFld f) ∧ (∀ x ∈ A.2.1, x.2.length ≤ 1000 ∧ 0 < x.2.length) ∧ (∀ x ∈ A.2.2, x.2.length ≤ 1000 ∧ ∀ f ∈ x.2, Pl.okMth f)

set_option maxHeartbeats 32000000 in
theorem findAll_any (A B : Sc) (hAo : PartsOk A) (hBo : PartsOk B) (hlA : A.1.length ≤ 1000 ∧ A.2.1.length ≤ 1000 ∧ A.2.2.length ≤ 1000) (hlB : B.1.length ≤ 1000 ∧ B.2.1.length ≤ 1000 ∧ B.2.2.length ≤ 1000) (p : Nat) (s1 s2 s3 t1 t2 t3 : Value) (w : World) (hP : Bx w p [s1, s2, s3, t1, t2, t3] 99) (hSA : SchG A.1 A.2.1 A.2.2 s1 s2 s3 w) (hSB : SchG B.1 B.2.1 B.2.2 t1 t2 t3 w) :
    Calls Tryz.prog 48 #[.pointer (some ⟨p, 0, none⟩)] w fun e w' => Below w.heap.size w w' ∧ e = if findE A B = 0 then .returned (.tuple #[]) else .panicked (errp (findE A B)) := by
  obtain ⟨R, hR⟩ : ∃ R, R = findE A B := ⟨_, rfl⟩
  rw [← hR]
  have HR := hid hR
  obtain ⟨a1, c1, a2, c2, a3, c3, rfl, rfl, rfl⟩ := hSA.shape
  obtain ⟨b1, d1, b2, d2, b3, d3, rfl, rfl, rfl⟩ := hSB.shape
  obtain ⟨hl1, hl2, hl3⟩ := hlA
  obtain ⟨hm1, hm2, hm3⟩ := id hlB
  have HLB := hid hlB
  obtain ⟨l1, hL1⟩ : ∃ L, L = A.1.length := ⟨_, rfl⟩
  obtain ⟨l2, hL2⟩ : ∃ L, L = A.2.1.length := ⟨_, rfl⟩
  obtain ⟨l3, hL3⟩ : ∃ L, L = A.2.2.length := ⟨_, rfl⟩
  obtain ⟨m1, hM1⟩ : ∃ L, L = B.1.length := ⟨_, rfl⟩
  obtain ⟨m2, hM2⟩ : ∃ L, L = B.2.1.length := ⟨_, rfl⟩
  obtain ⟨m3, hM3⟩ : ∃ L, L = B.2.2.length := ⟨_, rfl⟩
  rw [← hL1] at hl1
  rw [← hL2] at hl2
  rw [← hL3] at hl3
  rw [← hM1] at hm1
  rw [← hM2] at hm2
  rw [← hM3] at hm3
  rw [← hL1, ← hL2, ← hL3] at hSA
  rw [← hM1, ← hM2, ← hM3] at hSB
  rw [← hL1, ← hL2, ← hL3, ← hM1, ← hM2, ← hM3] at hP
  have HSA := hid hSA
  have HSB := hid hSB
  have HP := hid hP
  have HL0 := hid hL1
  have HL1 := hid hL2
  have HL2 := hid hL3
  have HMB0 := hid hM1
  have HMB1 := hid hM2
  have HMB2 := hid hM3
  have HAo := hid hAo
  have HBo := hid hBo
  have HB0 : Hid (Below w.heap.size w w) := Below.refl _ _
  clear hR hSA hSB hP hL1 hL2 hL3 hM1 hM2 hM3 hAo hBo hlB
  go_enter Tryz.func48, Tryz.ntmps48
  have k0 := (HP.out.below HB0.out).cell 0 rfl
  go_wp2_with fail
  go_loopw [17] (fun i wr => LpI (stF B) A.1 w i wr) (fun i _ => l1 - (intOf i).toNat)
  case atStart => exact ⟨0, Nat.zero_le _, rfl, rfl, HB0.out⟩
  case round =>
    obtain ⟨j, hj, rfl, hme, hbw⟩ := hrel.all
    clear hrel
    rw [← HL0.out] at hj
    have HME := hid hme
    clear hme
    by_cases hlt : j < l1
    · obtain ⟨x, hx⟩ : ∃ x, A.1[j]? = some x := ⟨A.1[j]'(by rw [← HL0.out]; exact hlt), by simp⟩
      have hxm := List.mem_of_getElem? hx
      obtain ⟨g, off, cap, c, hv, hg, hRc, hc⟩ := (HSA.out.below hbw).1.at hx
      obtain ⟨sx, fd, fm, fc, rfl, hsx, hfr⟩ := hRc
      obtain ⟨fd', fc', hshape⟩ := hfr.shape
      cases hshape
      rw [← HL0.out] at hv
      injection hv with hv1 hv2 hv3
      clear hv2
      subst hv1 hv3
      have q0 := hc 0 _ rfl
      have q1 := hc 1 _ rfl
      simp only [Nat.add_zero] at q0
      have hdr : A.1.drop j = x :: A.1.drop (j + 1) := by
        rw [List.drop_eq_getElem_cons (by rw [← HL0.out]; exact hlt)]
        congr 1
        exact (List.getElem?_eq_some_iff.1 hx).2
      have hst := HME.out
      rw [hdr, stF] at hst
      obtain ⟨fl, hfl⟩ : ∃ fl, fl = x.2.length := ⟨_, rfl⟩
      rw [← hfl] at q1 hfr
      obtain ⟨wA, hwA⟩ : ∃ wA, wA = wr.alloc (.cells #[.string sx, .slice fd fl fc] 60) := ⟨_, rfl⟩
      have hbA2 : Below wr.heap.size wr wA := by rw [hwA]; exact below_alloc wr _
      have hbA := below_next hbw hbA2
      have hBA : Bx wA wr.heap.size [.string sx, .slice fd fl fc] 60 := by rw [hwA]; exact Bx.new wr _ _
      have f0 := hBA.cell 0 rfl
      have hPA := HP.out.below hbA
      have e0s := hPA.cell 3 rfl
      have HPL := hid hPA.lt
      have HQL := hid hBA.lt
      have hF : ∀ W, Below wA.heap.size wA W → Calls Tryz.prog 84 #[.pointer (some ⟨p, 0, none⟩), .int .i64 1, .string sx] W fun e w' => Below W.heap.size W w' ∧ e = if (fnd B.1 B.2.1 B.2.2 x.1).1 = 1 then .returned (.int .i64 (fnd B.1 B.2.1 B.2.2 x.1).2) else .panicked (errp 71) := by
        intro W hb
        have hbW := below_next hbA hb
        have h := xfind_any B.1 B.2.1 B.2.2 HLB.out p _ _ _ _ _ _ 1 sx W (HP.out.below hbW) (HSB.out.below hbW)
        rw [hsx] at h
        exact h
      have HF := hid hF
      have HBA := hid hbA
      have HWA := hid hwA
      have HST := hid hst
      clear hF hwA hst hdr hc hx
      by_cases hD : (fnd B.1 B.2.1 B.2.2 x.1).1 = 1
      · obtain ⟨i, y, hy, _, hi2⟩ := fnd_one hD
        have hym := List.mem_of_getElem? hy
        rw [if_pos hD, hi2] at HF
        have hst2 := HST.out
        rw [if_pos hD, hi2, Int.toNat_natCast, hy] at hst2
        simp only [Option.getD_some] at hst2
        have HST2 := hid hst2
        obtain ⟨g3, off3, cap3, c, hv, hg3, hRc, hc⟩ := (HSB.out.below hbA).1.at hy
        obtain ⟨sy, yd, ym, yc, rfl, hsy, hyr⟩ := hRc
        obtain ⟨yd', yc', hshape⟩ := hyr.shape
        cases hshape
        have hil := (List.getElem?_eq_some_iff.1 hy).1
        rw [← HMB0.out] at hv hil
        injection hv with hv1 hv2 hv3
        clear hv2
        subst hv1 hv3
        have r0 := hc 0 _ rfl
        have r1 := hc 1 _ rfl
        simp only [Nat.add_zero] at r0
        obtain ⟨yl, hyl⟩ : ∃ yl, yl = y.2.length := ⟨_, rfl⟩
        rw [← hyl] at r1 hyr
        have hbA' : Below wA.heap.size wA wA.drew := (Below.refl _ _).drew
        have hbB' : Below wA.heap.size wA (wA.alloc (.cells #[.string ⟨#[]⟩, .slice none 0 0] 60)).drew := (below_alloc wA _).drew
        have hBZ : Bx (wA.alloc (.cells #[.string ⟨#[]⟩, .slice none 0 0] 60)).drew wA.heap.size [.string ⟨#[]⟩, .slice none 0 0] 60 := (Bx.new wA _ _).below (Below.refl _ _).drew
        have hI1 : ¬ ((i : Int) < 0) := by omega
        have hI2 : ¬ (m1 ≤ i) := by omega
        have HYR := hid hyr
        have HFR := hid (hfr.below hbA2 (FldG.below hbA2))
        have HBA2 := hid hBA
        have HPA := hid hPA
        have HXM := hid hxm
        have HYM := hid hym
        have HK : Hid (∀ W, Below wA.heap.size wA W → Calls Tryz.prog 85 #[.slice yd yl yc, .slice fd fl fc] W fun e w' => Below W.heap.size W w' ∧ e = if fieldsF y.2 x.2 = 0 then .returned (.tuple #[]) else .panicked (errp (fieldsF y.2 x.2))) := fun W hb => findFields_any _ _ y.2 x.2 (HBo.out.1 y hym).2 (HAo.out.1 x hxm).2 (by have := (HAo.out.1 x hxm).1; omega) (by have := (HBo.out.1 y hym).1; omega) W (hyr.below hb (FldG.below hb)) (HFR.out.below hb (FldG.below hb))
        clear hst2 hc hy hyr hfr hbA hbA2 hBA hPA hxm hym hbw HME hsx hsy hi2 HST hfl hyl
        go_upto_region 3 with fail
        rw [← HWA.out]
        go_cut [4] from 18 to 37 (fun q wx => ∃ bF, q = .pointer (some ⟨bF, 0, none⟩) ∧ Bx wx bF [.string sy, .slice yd yl yc] 60 ∧ Below wA.heap.size wA wx)
        case first =>
          have hql := HQL.out
          have hpl := HPL.out
          go_region_with (first
            | (refine (HF.out _ hbA').mono ?_; rintro e w5 ⟨hb5, rfl⟩; have hbx := below_next hbA' hb5; have v0 := (hbx.cell hg3).trans r0; have v1 := (hbx.cell hg3).trans r1; have v2 := (HPA.out.below hbx).cell 3 rfl; have hg5 : g3 < w5.heap.size := Nat.lt_of_lt_of_le hg3 hbx.size; have hp5 : p < w5.heap.size := Nat.lt_of_lt_of_le hpl hbx.size)
            | (refine (HF.out _ hbB').mono ?_; rintro e w5 ⟨hb5, rfl⟩; have hby := below_next hbB' hb5; have v0 := (hby.cell hg3).trans r0; have v1 := (hby.cell hg3).trans r1; have v2 := (HPA.out.below hby).cell 3 rfl; have hg5 : g3 < w5.heap.size := Nat.lt_of_lt_of_le hg3 hby.size; have hp5 : p < w5.heap.size := Nat.lt_of_lt_of_le hpl hby.size; have hB5 := hBZ.below hb5; have z0 := hB5.cell 0 rfl; have z1 := hB5.cell 1 rfl; have hzf := hB5.frozen))
          all_goals (
            go_wp2
            go_meet
            first
            | (have hq := hbx; exact ⟨w5.heap.size, rfl, Bx.new w5 _ _, below_next hq (below_alloc _ _)⟩)
            | (have hq := hby; exact ⟨wA.heap.size, rfl, (hB5.set 0 (.string sy)).set 1 (.slice yd yl yc), (hq.setCell (p := ⟨wA.heap.size, 0, none⟩) (Nat.le_refl _) (.string sy)).setCell (p := ⟨wA.heap.size, 1, none⟩) (Nat.le_refl _) (.slice yd yl yc)⟩))
        case rest =>
          obtain ⟨bF, rfl, hBF, hbc⟩ := hcut
          generalize wc = W5 at *
          have u1 := hBF.cell 1 rfl
          have u2 := (HBA2.out.below hbc).cell 1 rfl
          have HBC := hid (below_next HBA.out hbc)
          have HKc := hid (HK.out W5 hbc)
          clear hbA' hbB' hBZ hBF hbc f0 r0 r1 e0s
          go_wp2_with fail
          refine HKc.out.mono ?_
          rintro e w6 ⟨hb6, rfl⟩
          have HB6 := hid (below_next HBC.out hb6)
          clear hb6 u1 u2
          have hst2 := HST2.out
          by_cases he0 : fieldsF y.2 x.2 = 0
          · rw [if_pos he0]
            rw [he0, thenE, if_pos rfl] at hst2
            have HS3 := hid hst2
            clear hst2
            go_wp2
            exact ⟨⟨j + 1, by rw [← HL0.out]; omega, by go_num, HS3.out, HB6.out⟩, by simp [intOf]; omega⟩
          · rw [if_neg he0]
            rw [thenE, if_neg he0] at hst2
            have hRe : R = fieldsF y.2 x.2 := by
              rw [HR.out]
              unfold findE
              rw [← hst2, thenE, if_neg he0]
            rw [← hRe] at he0 ⊢
            refine ⟨rfl, HB6.out, ?_⟩
            rw [if_neg he0]
      · have hR71 : R = 71 := by
          rw [HR.out]
          unfold findE
          have hst2 := HST.out
          rw [if_neg hD] at hst2
          rw [← hst2, thenE, if_neg (by decide)]
        subst hR71
        clear hbw hbA hbA2 hBA hPA hfr hxm hsx HME HST hfl
        go_wp2_with fail
        rw [← HWA.out]
        refine wp_region_drawn2 (pred := fun jx v _ => match jx with | 0 => v = .pointer (some ⟨p, 0, none⟩) | 1 => v = .pointer (some ⟨p, 0, none⟩) | 2 => v = .pointer (some ⟨p, 3, none⟩) | 3 => v = .pointer (some ⟨p, 3, none⟩) | 4 => v = .slice b1 m1 d1 | 5 => v = .pointer (some ⟨p, 0, none⟩) | 6 => v = .pointer (some ⟨wr.heap.size, 0, none⟩) | 7 => v = .string sx | 8 => False | 9 => False | 10 => False | 11 => True | 12 => True | _ => True) (R := fun W => Below wA.heap.size wA W) (by kernel_rfl) (by kernel_rfl) (by kernel_rfl) (fun _ _ _ _ h _ => h) (Below.refl _ _).drew ?step ?done
        case step =>
          intro ix o ho A W hsz hdf hfr hdep hR
          rcases ix with _ | _ | _ | _ | _ | _ | _ | _ | _ | _ | _ | _ | _ | ix
          · injection ho with ho
            subst ho
            have e0 : A.eval (.tmp 0) = .pointer (some ⟨p, 0, none⟩) := (hfr 0 (noDst_spec (by kernel_rfl))).trans rfl
            exact gOp_mv rfl (wanted_plain rfl) (.inl rfl) e0 ⟨_, rfl, rfl, Below.refl _ _, hR⟩
          · injection ho with ho
            subst ho
            have e21 : A.eval (.tmp 21) = .pointer (some ⟨p, 0, none⟩) := hdep ⟨0, .data⟩ (by simp) rfl _ _ rfl rfl
            exact gOp_nil rfl (wanted_plain rfl) rfl e21 ⟨_, rfl, rfl, Below.refl _ _, hR⟩
          · injection ho with ho
            subst ho
            have e22 : A.eval (.tmp 22) = .pointer (some ⟨p, 0, none⟩) := hdep ⟨1, .data⟩ (by simp) rfl _ _ rfl rfl
            exact gOp_fld (v := .pointer (some ⟨p, 3, none⟩)) rfl (wanted_plain rfl) rfl e22 (by go_simp) ⟨_, rfl, rfl, Below.refl _ _, hR⟩
          · injection ho with ho
            subst ho
            have e23 : A.eval (.tmp 23) = .pointer (some ⟨p, 3, none⟩) := hdep ⟨2, .data⟩ (by simp) rfl _ _ rfl rfl
            exact gOp_fld (v := .pointer (some ⟨p, 3, none⟩)) rfl (wanted_plain rfl) rfl e23 (by go_simp) ⟨_, rfl, rfl, Below.refl _ _, hR⟩
          · injection ho with ho
            subst ho
            have e24 : A.eval (.tmp 24) = .pointer (some ⟨p, 3, none⟩) := hdep ⟨3, .data⟩ (by simp) rfl _ _ rfl rfl
            have x0 := (hR.cell HPL.out).trans e0s
            exact gOp_ld (v := .slice b1 m1 d1) rfl (wanted_plain rfl) rfl e24 (by go_simp) ⟨_, rfl, rfl, Below.refl _ _, hR⟩
          · injection ho with ho
            subst ho
            have e0 : A.eval (.tmp 0) = .pointer (some ⟨p, 0, none⟩) := (hfr 0 (noDst_spec (by kernel_rfl))).trans rfl
            exact gOp_mv rfl (wanted_plain rfl) (.inl rfl) e0 ⟨_, rfl, rfl, Below.refl _ _, hR⟩
          · injection ho with ho
            subst ho
            have e3 : A.eval (.tmp 3) = .pointer (some ⟨wr.heap.size, 0, none⟩) := (hfr 3 (noDst_spec (by kernel_rfl))).trans rfl
            exact gOp_fld (v := .pointer (some ⟨wr.heap.size, 0, none⟩)) rfl (wanted_plain rfl) rfl e3 (by go_simp) ⟨_, rfl, rfl, Below.refl _ _, hR⟩
          · injection ho with ho
            subst ho
            have e27 : A.eval (.tmp 27) = .pointer (some ⟨wr.heap.size, 0, none⟩) := hdep ⟨6, .data⟩ (by simp) rfl _ _ rfl rfl
            have x0 := (hR.cell HQL.out).trans f0
            exact gOp_ld (v := .string sx) rfl (wanted_plain rfl) rfl e27 (by go_simp) ⟨_, rfl, rfl, Below.refl _ _, hR⟩
          · injection ho with ho
            subst ho
            have e26 : A.eval (.tmp 26) = .pointer (some ⟨p, 0, none⟩) := hdep ⟨5, .data⟩ (by simp) rfl _ _ rfl rfl
            have e28 : A.eval (.tmp 28) = .string sx := hdep ⟨7, .data⟩ (by simp) rfl _ _ rfl rfl
            refine gOp_dies rfl (wanted_plain rfl) 84 #[.pointer (some ⟨p, 0, none⟩), .int .i64 1, .string sx] (run_call _ (fun _ _ => rfl) _ _ rfl _ (by simp [e26, e28]; rfl)) ?_
            refine (HF.out W hR).mono ?_
            rintro e w5 ⟨hb5, rfl⟩
            rw [if_neg hD]
            exact ⟨_, rfl, hdf, below_next HBA.out (below_next hR hb5), rfl⟩
          · injection ho with ho
            subst ho
            exact (hdep ⟨8, .data⟩ (by simp) rfl _ _ rfl rfl).elim
          · injection ho with ho
            subst ho
            exact (hdep ⟨9, .data⟩ (by simp) rfl _ _ rfl rfl).elim
          · injection ho with ho
            subst ho
            exact gOp_ok (v := .pointer (some ⟨W.heap.size, 0, none⟩)) (w' := W.alloc (.cells #[.string ⟨#[]⟩, .slice none 0 0] 60)) rfl (wanted_plain rfl) (by go_simp) ⟨_, rfl, trivial, below_alloc _ _, below_next hR (below_alloc _ _)⟩
          · injection ho with ho
            subst ho
            exact (hdep ⟨10, .data⟩ (by simp) rfl _ _ rfl rfl).elim
          · simp at ho
        case done =>
          intro A W _ _ _ hcome _
          exact (hcome 8 _ _ rfl rfl).elim
    · have hje : j = l1 := by omega
      subst hje
      have hr0 : stF B A.1 = 0 := by
        rw [← HME.out, HL0.out, List.drop_length]
        rfl
      have HZ0 := hid hr0
      have HB1 := hid hbw
      clear hr0 hbw HME k0
      have k1 := (HP.out.below HB1.out).cell 1 rfl
      go_wp2_with fail
      go_loopw [44] (fun i wr => LpI (enF B) A.2.1 w i wr) (fun i _ => l2 - (intOf i).toNat)
      case atStart => exact ⟨0, Nat.zero_le _, rfl, rfl, HB1.out⟩
      case round =>
        obtain ⟨j, hj, rfl, hme, hbw⟩ := hrel.all
        clear hrel
        rw [← HL1.out] at hj
        have HME := hid hme
        clear hme
        by_cases hlt : j < l2
        · obtain ⟨x, hx⟩ : ∃ x, A.2.1[j]? = some x := ⟨A.2.1[j]'(by rw [← HL1.out]; exact hlt), by simp⟩
          have hxm := List.mem_of_getElem? hx
          obtain ⟨g, off, cap, c, hv, hg, hRc, hc⟩ := (HSA.out.below hbw).2.1.at hx
          obtain ⟨sx, fd, fm, fc, rfl, hsx, hfr⟩ := hRc
          obtain ⟨fd', fc', hshape⟩ := hfr.shape
          cases hshape
          rw [← HL1.out] at hv
          injection hv with hv1 hv2 hv3
          clear hv2
          subst hv1 hv3
          have q0 := hc 0 _ rfl
          have q1 := hc 1 _ rfl
          simp only [Nat.add_zero] at q0
          have hdr : A.2.1.drop j = x :: A.2.1.drop (j + 1) := by
            rw [List.drop_eq_getElem_cons (by rw [← HL1.out]; exact hlt)]
            congr 1
            exact (List.getElem?_eq_some_iff.1 hx).2
          have hst := HME.out
          rw [hdr, enF] at hst
          obtain ⟨fl, hfl⟩ : ∃ fl, fl = x.2.length := ⟨_, rfl⟩
          rw [← hfl] at q1 hfr
          obtain ⟨wA, hwA⟩ : ∃ wA, wA = wr.alloc (.cells #[.string sx, .slice fd fl fc] 64) := ⟨_, rfl⟩
          have hbA2 : Below wr.heap.size wr wA := by rw [hwA]; exact below_alloc wr _
          have hbA := below_next hbw hbA2
          have hBA : Bx wA wr.heap.size [.string sx, .slice fd fl fc] 64 := by rw [hwA]; exact Bx.new wr _ _
          have f0 := hBA.cell 0 rfl
          have hPA := HP.out.below hbA
          have e1s := hPA.cell 4 rfl
          have HPL := hid hPA.lt
          have HQL := hid hBA.lt
          have hF : ∀ W, Below wA.heap.size wA W → Calls Tryz.prog 84 #[.pointer (some ⟨p, 0, none⟩), .int .i64 2, .string sx] W fun e w' => Below W.heap.size W w' ∧ e = if (fnd B.1 B.2.1 B.2.2 x.1).1 = 2 then .returned (.int .i64 (fnd B.1 B.2.1 B.2.2 x.1).2) else .panicked (errp 71) := by
            intro W hb
            have hbW := below_next hbA hb
            have h := xfind_any B.1 B.2.1 B.2.2 HLB.out p _ _ _ _ _ _ 2 sx W (HP.out.below hbW) (HSB.out.below hbW)
            rw [hsx] at h
            exact h
          have HF := hid hF
          have HBA := hid hbA
          have HWA := hid hwA
          have HST := hid hst
          clear hF hwA hst hdr hc hx
          by_cases hD : (fnd B.1 B.2.1 B.2.2 x.1).1 = 2
          · obtain ⟨i, y, hy, _, hi2⟩ := fnd_two hD
            have hym := List.mem_of_getElem? hy
            rw [if_pos hD, hi2] at HF
            have hst2 := HST.out
            rw [if_pos hD, hi2, Int.toNat_natCast, hy] at hst2
            simp only [Option.getD_some] at hst2
            have HST2 := hid hst2
            obtain ⟨g3, off3, cap3, c, hv, hg3, hRc, hc⟩ := (HSB.out.below hbA).2.1.at hy
            obtain ⟨sy, yd, ym, yc, rfl, hsy, hyr⟩ := hRc
            obtain ⟨yd', yc', hshape⟩ := hyr.shape
            cases hshape
            have hil := (List.getElem?_eq_some_iff.1 hy).1
            rw [← HMB1.out] at hv hil
            injection hv with hv1 hv2 hv3
            clear hv2
            subst hv1 hv3
            have r0 := hc 0 _ rfl
            have r1 := hc 1 _ rfl
            simp only [Nat.add_zero] at r0
            obtain ⟨yl, hyl⟩ : ∃ yl, yl = y.2.length := ⟨_, rfl⟩
            rw [← hyl] at r1 hyr
            have hbA' : Below wA.heap.size wA wA.drew := (Below.refl _ _).drew
            have hbB' : Below wA.heap.size wA (wA.alloc (.cells #[.string ⟨#[]⟩, .slice none 0 0] 64)).drew := (below_alloc wA _).drew
            have hBZ : Bx (wA.alloc (.cells #[.string ⟨#[]⟩, .slice none 0 0] 64)).drew wA.heap.size [.string ⟨#[]⟩, .slice none 0 0] 64 := (Bx.new wA _ _).below (Below.refl _ _).drew
            have hI1 : ¬ ((i : Int) < 0) := by omega
            have hI2 : ¬ (m2 ≤ i) := by omega
            have HYR := hid hyr
            have HFR := hid (hfr.below hbA2 (fun _ _ h => h))
            have HBA2 := hid hBA
            have HPA := hid hPA
            have HXM := hid hxm
            have HYM := hid hym
            have HK : Hid (∀ W, Below wA.heap.size wA W → Calls Tryz.prog 86 #[.slice yd yl yc, .slice fd fl fc] W fun e w' => Below W.heap.size W w' ∧ e = if allCasesF y.2 x.2 = 0 then .returned (.tuple #[]) else .panicked (errp (allCasesF y.2 x.2))) := fun W hb => findCases_any _ _ y.2 x.2 (by have := (HAo.out.2.1 x hxm).1; omega) (by have := (HBo.out.2.1 y hym).1; omega) (HAo.out.2.1 x hxm).2 (HBo.out.2.1 y hym).2 W (hyr.below hb (fun _ _ h => h)) (HFR.out.below hb (fun _ _ h => h))
            clear hst2 hc hy hyr hfr hbA hbA2 hBA hPA hxm hym hbw HME hsx hsy hi2 HST hfl hyl
            go_upto_region 9 with fail
            rw [← HWA.out]
            go_cut [7] from 45 to 64 (fun q wx => ∃ bF, q = .pointer (some ⟨bF, 0, none⟩) ∧ Bx wx bF [.string sy, .slice yd yl yc] 64 ∧ Below wA.heap.size wA wx)
            case first =>
              have hql := HQL.out
              have hpl := HPL.out
              go_region_with (first
                | (refine (HF.out _ hbA').mono ?_; rintro e w5 ⟨hb5, rfl⟩; have hbx := below_next hbA' hb5; have v0 := (hbx.cell hg3).trans r0; have v1 := (hbx.cell hg3).trans r1; have v2 := (HPA.out.below hbx).cell 4 rfl; have hg5 : g3 < w5.heap.size := Nat.lt_of_lt_of_le hg3 hbx.size; have hp5 : p < w5.heap.size := Nat.lt_of_lt_of_le hpl hbx.size)
                | (refine (HF.out _ hbB').mono ?_; rintro e w5 ⟨hb5, rfl⟩; have hby := below_next hbB' hb5; have v0 := (hby.cell hg3).trans r0; have v1 := (hby.cell hg3).trans r1; have v2 := (HPA.out.below hby).cell 4 rfl; have hg5 : g3 < w5.heap.size := Nat.lt_of_lt_of_le hg3 hby.size; have hp5 : p < w5.heap.size := Nat.lt_of_lt_of_le hpl hby.size; have hB5 := hBZ.below hb5; have z0 := hB5.cell 0 rfl; have z1 := hB5.cell 1 rfl; have hzf := hB5.frozen))
              all_goals (
                go_wp2
                go_meet
                first
                | (have hq := hbx; exact ⟨w5.heap.size, rfl, Bx.new w5 _ _, below_next hq (below_alloc _ _)⟩)
                | (have hq := hby; exact ⟨wA.heap.size, rfl, (hB5.set 0 (.string sy)).set 1 (.slice yd yl yc), (hq.setCell (p := ⟨wA.heap.size, 0, none⟩) (Nat.le_refl _) (.string sy)).setCell (p := ⟨wA.heap.size, 1, none⟩) (Nat.le_refl _) (.slice yd yl yc)⟩))
            case rest =>
              obtain ⟨bF, rfl, hBF, hbc⟩ := hcut
              generalize wc = W5 at *
              have u1 := hBF.cell 1 rfl
              have u2 := (HBA2.out.below hbc).cell 1 rfl
              have HBC := hid (below_next HBA.out hbc)
              have HKc := hid (HK.out W5 hbc)
              clear hbA' hbB' hBZ hBF hbc f0 r0 r1 e1s
              go_wp2_with fail
              refine HKc.out.mono ?_
              rintro e w6 ⟨hb6, rfl⟩
              have HB6 := hid (below_next HBC.out hb6)
              clear hb6 u1 u2
              have hst2 := HST2.out
              by_cases he0 : allCasesF y.2 x.2 = 0
              · rw [if_pos he0]
                rw [he0, thenE, if_pos rfl] at hst2
                have HS3 := hid hst2
                clear hst2
                go_wp2
                exact ⟨⟨j + 1, by rw [← HL1.out]; omega, by go_num, HS3.out, HB6.out⟩, by simp [intOf]; omega⟩
              · rw [if_neg he0]
                rw [thenE, if_neg he0] at hst2
                have hRe : R = allCasesF y.2 x.2 := by
                  rw [HR.out]
                  unfold findE
                  rw [HZ0.out, thenE, if_pos rfl]
                  rw [← hst2, thenE, if_neg he0]
                rw [← hRe] at he0 ⊢
                refine ⟨rfl, HB6.out, ?_⟩
                rw [if_neg he0]
          · have hR71 : R = 71 := by
              rw [HR.out]
              unfold findE
              have hst2 := HST.out
              rw [if_neg hD] at hst2
              rw [HZ0.out, thenE, if_pos rfl]
              rw [← hst2, thenE, if_neg (by decide)]
            subst hR71
            clear hbw hbA hbA2 hBA hPA hfr hxm hsx HME HST hfl
            go_wp2_with fail
            rw [← HWA.out]
            refine wp_region_drawn2 (pred := fun jx v _ => match jx with | 0 => v = .pointer (some ⟨p, 0, none⟩) | 1 => v = .pointer (some ⟨p, 0, none⟩) | 2 => v = .pointer (some ⟨p, 3, none⟩) | 3 => v = .pointer (some ⟨p, 4, none⟩) | 4 => v = .slice b2 m2 d2 | 5 => v = .pointer (some ⟨p, 0, none⟩) | 6 => v = .pointer (some ⟨wr.heap.size, 0, none⟩) | 7 => v = .string sx | 8 => False | 9 => False | 10 => False | 11 => True | 12 => True | _ => True) (R := fun W => Below wA.heap.size wA W) (by kernel_rfl) (by kernel_rfl) (by kernel_rfl) (fun _ _ _ _ h _ => h) (Below.refl _ _).drew ?step ?done
            case step =>
              intro ix o ho A W hsz hdf hfr hdep hR
              rcases ix with _ | _ | _ | _ | _ | _ | _ | _ | _ | _ | _ | _ | _ | ix
              · injection ho with ho
                subst ho
                have e0 : A.eval (.tmp 0) = .pointer (some ⟨p, 0, none⟩) := (hfr 0 (noDst_spec (by kernel_rfl))).trans rfl
                exact gOp_mv rfl (wanted_plain rfl) (.inl rfl) e0 ⟨_, rfl, rfl, Below.refl _ _, hR⟩
              · injection ho with ho
                subst ho
                have e48 : A.eval (.tmp 48) = .pointer (some ⟨p, 0, none⟩) := hdep ⟨0, .data⟩ (by simp) rfl _ _ rfl rfl
                exact gOp_nil rfl (wanted_plain rfl) rfl e48 ⟨_, rfl, rfl, Below.refl _ _, hR⟩
              · injection ho with ho
                subst ho
                have e49 : A.eval (.tmp 49) = .pointer (some ⟨p, 0, none⟩) := hdep ⟨1, .data⟩ (by simp) rfl _ _ rfl rfl
                exact gOp_fld (v := .pointer (some ⟨p, 3, none⟩)) rfl (wanted_plain rfl) rfl e49 (by go_simp) ⟨_, rfl, rfl, Below.refl _ _, hR⟩
              · injection ho with ho
                subst ho
                have e50 : A.eval (.tmp 50) = .pointer (some ⟨p, 3, none⟩) := hdep ⟨2, .data⟩ (by simp) rfl _ _ rfl rfl
                exact gOp_fld (v := .pointer (some ⟨p, 4, none⟩)) rfl (wanted_plain rfl) rfl e50 (by go_simp) ⟨_, rfl, rfl, Below.refl _ _, hR⟩
              · injection ho with ho
                subst ho
                have e51 : A.eval (.tmp 51) = .pointer (some ⟨p, 4, none⟩) := hdep ⟨3, .data⟩ (by simp) rfl _ _ rfl rfl
                have x0 := (hR.cell HPL.out).trans e1s
                exact gOp_ld (v := .slice b2 m2 d2) rfl (wanted_plain rfl) rfl e51 (by go_simp) ⟨_, rfl, rfl, Below.refl _ _, hR⟩
              · injection ho with ho
                subst ho
                have e0 : A.eval (.tmp 0) = .pointer (some ⟨p, 0, none⟩) := (hfr 0 (noDst_spec (by kernel_rfl))).trans rfl
                exact gOp_mv rfl (wanted_plain rfl) (.inl rfl) e0 ⟨_, rfl, rfl, Below.refl _ _, hR⟩
              · injection ho with ho
                subst ho
                have e6 : A.eval (.tmp 6) = .pointer (some ⟨wr.heap.size, 0, none⟩) := (hfr 6 (noDst_spec (by kernel_rfl))).trans rfl
                exact gOp_fld (v := .pointer (some ⟨wr.heap.size, 0, none⟩)) rfl (wanted_plain rfl) rfl e6 (by go_simp) ⟨_, rfl, rfl, Below.refl _ _, hR⟩
              · injection ho with ho
                subst ho
                have e54 : A.eval (.tmp 54) = .pointer (some ⟨wr.heap.size, 0, none⟩) := hdep ⟨6, .data⟩ (by simp) rfl _ _ rfl rfl
                have x0 := (hR.cell HQL.out).trans f0
                exact gOp_ld (v := .string sx) rfl (wanted_plain rfl) rfl e54 (by go_simp) ⟨_, rfl, rfl, Below.refl _ _, hR⟩
              · injection ho with ho
                subst ho
                have e53 : A.eval (.tmp 53) = .pointer (some ⟨p, 0, none⟩) := hdep ⟨5, .data⟩ (by simp) rfl _ _ rfl rfl
                have e55 : A.eval (.tmp 55) = .string sx := hdep ⟨7, .data⟩ (by simp) rfl _ _ rfl rfl
                refine gOp_dies rfl (wanted_plain rfl) 84 #[.pointer (some ⟨p, 0, none⟩), .int .i64 2, .string sx] (run_call _ (fun _ _ => rfl) _ _ rfl _ (by simp [e53, e55]; rfl)) ?_
                refine (HF.out W hR).mono ?_
                rintro e w5 ⟨hb5, rfl⟩
                rw [if_neg hD]
                exact ⟨_, rfl, hdf, below_next HBA.out (below_next hR hb5), rfl⟩
              · injection ho with ho
                subst ho
                exact (hdep ⟨8, .data⟩ (by simp) rfl _ _ rfl rfl).elim
              · injection ho with ho
                subst ho
                exact (hdep ⟨9, .data⟩ (by simp) rfl _ _ rfl rfl).elim
              · injection ho with ho
                subst ho
                exact gOp_ok (v := .pointer (some ⟨W.heap.size, 0, none⟩)) (w' := W.alloc (.cells #[.string ⟨#[]⟩, .slice none 0 0] 64)) rfl (wanted_plain rfl) (by go_simp) ⟨_, rfl, trivial, below_alloc _ _, below_next hR (below_alloc _ _)⟩
              · injection ho with ho
                subst ho
                exact (hdep ⟨10, .data⟩ (by simp) rfl _ _ rfl rfl).elim
              · simp at ho
            case done =>
              intro A W _ _ _ hcome _
              exact (hcome 8 _ _ rfl rfl).elim
        · have hje : j = l2 := by omega
          subst hje
          have hr0 : enF B A.2.1 = 0 := by
            rw [← HME.out, HL1.out, List.drop_length]
            rfl
          have HZ1 := hid hr0
          have HB2 := hid hbw
          clear hr0 hbw HME k1
          have k2 := (HP.out.below HB2.out).cell 2 rfl
          go_wp2_with fail
          go_loopw [71] (fun i wr => LpI (svF B) A.2.2 w i wr) (fun i _ => l3 - (intOf i).toNat)
          case atStart => exact ⟨0, Nat.zero_le _, rfl, rfl, HB2.out⟩
          case round =>
            obtain ⟨j, hj, rfl, hme, hbw⟩ := hrel.all
            clear hrel
            rw [← HL2.out] at hj
            have HME := hid hme
            clear hme
            by_cases hlt : j < l3
            · obtain ⟨x, hx⟩ : ∃ x, A.2.2[j]? = some x := ⟨A.2.2[j]'(by rw [← HL2.out]; exact hlt), by simp⟩
              have hxm := List.mem_of_getElem? hx
              obtain ⟨g, off, cap, c, hv, hg, hRc, hc⟩ := (HSA.out.below hbw).2.2.at hx
              obtain ⟨sx, fd, fm, fc, rfl, hsx, hfr⟩ := hRc
              obtain ⟨fd', fc', hshape⟩ := hfr.shape
              cases hshape
              rw [← HL2.out] at hv
              injection hv with hv1 hv2 hv3
              clear hv2
              subst hv1 hv3
              have q0 := hc 0 _ rfl
              have q1 := hc 1 _ rfl
              simp only [Nat.add_zero] at q0
              have hdr : A.2.2.drop j = x :: A.2.2.drop (j + 1) := by
                rw [List.drop_eq_getElem_cons (by rw [← HL2.out]; exact hlt)]
                congr 1
                exact (List.getElem?_eq_some_iff.1 hx).2
              have hst := HME.out
              rw [hdr, svF] at hst
              obtain ⟨fl, hfl⟩ : ∃ fl, fl = x.2.length := ⟨_, rfl⟩
              rw [← hfl] at q1 hfr
              obtain ⟨wA, hwA⟩ : ∃ wA, wA = wr.alloc (.cells #[.string sx, .slice fd fl fc] 67) := ⟨_, rfl⟩
              have hbA2 : Below wr.heap.size wr wA := by rw [hwA]; exact below_alloc wr _
              have hbA := below_next hbw hbA2
              have hBA : Bx wA wr.heap.size [.string sx, .slice fd fl fc] 67 := by rw [hwA]; exact Bx.new wr _ _
              have f0 := hBA.cell 0 rfl
              have hPA := HP.out.below hbA
              have e2s := hPA.cell 5 rfl
              have HPL := hid hPA.lt
              have HQL := hid hBA.lt
              have hF : ∀ W, Below wA.heap.size wA W → Calls Tryz.prog 84 #[.pointer (some ⟨p, 0, none⟩), .int .i64 3, .string sx] W fun e w' => Below W.heap.size W w' ∧ e = if (fnd B.1 B.2.1 B.2.2 x.1).1 = 3 then .returned (.int .i64 (fnd B.1 B.2.1 B.2.2 x.1).2) else .panicked (errp 71) := by
                intro W hb
                have hbW := below_next hbA hb
                have h := xfind_any B.1 B.2.1 B.2.2 HLB.out p _ _ _ _ _ _ 3 sx W (HP.out.below hbW) (HSB.out.below hbW)
                rw [hsx] at h
                exact h
              have HF := hid hF
              have HBA := hid hbA
              have HWA := hid hwA
              have HST := hid hst
              clear hF hwA hst hdr hc hx
              by_cases hD : (fnd B.1 B.2.1 B.2.2 x.1).1 = 3
              · obtain ⟨i, y, hy, _, hi2⟩ := fnd_three hD
                have hym := List.mem_of_getElem? hy
                rw [if_pos hD, hi2] at HF
                have hst2 := HST.out
                rw [if_pos hD, hi2, Int.toNat_natCast, hy] at hst2
                simp only [Option.getD_some] at hst2
                have HST2 := hid hst2
                obtain ⟨g3, off3, cap3, c, hv, hg3, hRc, hc⟩ := (HSB.out.below hbA).2.2.at hy
                obtain ⟨sy, yd, ym, yc, rfl, hsy, hyr⟩ := hRc
                obtain ⟨yd', yc', hshape⟩ := hyr.shape
                cases hshape
                have hil := (List.getElem?_eq_some_iff.1 hy).1
                rw [← HMB2.out] at hv hil
                injection hv with hv1 hv2 hv3
                clear hv2
                subst hv1 hv3
                have r0 := hc 0 _ rfl
                have r1 := hc 1 _ rfl
                simp only [Nat.add_zero] at r0
                obtain ⟨yl, hyl⟩ : ∃ yl, yl = y.2.length := ⟨_, rfl⟩
                rw [← hyl] at r1 hyr
                have hbA' : Below wA.heap.size wA wA.drew := (Below.refl _ _).drew
                have hbB' : Below wA.heap.size wA (wA.alloc (.cells #[.string ⟨#[]⟩, .slice none 0 0] 67)).drew := (below_alloc wA _).drew
                have hBZ : Bx (wA.alloc (.cells #[.string ⟨#[]⟩, .slice none 0 0] 67)).drew wA.heap.size [.string ⟨#[]⟩, .slice none 0 0] 67 := (Bx.new wA _ _).below (Below.refl _ _).drew
                have hI1 : ¬ ((i : Int) < 0) := by omega
                have hI2 : ¬ (m3 ≤ i) := by omega
                have HYR := hid hyr
                have HFR := hid (hfr.below hbA2 (MthG.below hbA2))
                have HBA2 := hid hBA
                have HPA := hid hPA
                have HXM := hid hxm
                have HYM := hid hym
                have HK : Hid (∀ W, Below wA.heap.size wA W → Calls Tryz.prog 87 #[.slice yd yl yc, .slice fd fl fc] W fun e w' => Below W.heap.size W w' ∧ e = if methodsF y.2 x.2 = 0 then .returned (.tuple #[]) else .panicked (errp (methodsF y.2 x.2))) := fun W hb => findMethods_any _ _ y.2 x.2 (HBo.out.2.2 y hym).2 (HAo.out.2.2 x hxm).2 (by have := (HAo.out.2.2 x hxm).1; omega) (by have := (HBo.out.2.2 y hym).1; omega) W (hyr.below hb (MthG.below hb)) (HFR.out.below hb (MthG.below hb))
                clear hst2 hc hy hyr hfr hbA hbA2 hBA hPA hxm hym hbw HME hsx hsy hi2 HST hfl hyl
                go_upto_region 15 with fail
                rw [← HWA.out]
                go_cut [10] from 72 to 91 (fun q wx => ∃ bF, q = .pointer (some ⟨bF, 0, none⟩) ∧ Bx wx bF [.string sy, .slice yd yl yc] 67 ∧ Below wA.heap.size wA wx)
                case first =>
                  have hql := HQL.out
                  have hpl := HPL.out
                  go_region_with (first
                    | (refine (HF.out _ hbA').mono ?_; rintro e w5 ⟨hb5, rfl⟩; have hbx := below_next hbA' hb5; have v0 := (hbx.cell hg3).trans r0; have v1 := (hbx.cell hg3).trans r1; have v2 := (HPA.out.below hbx).cell 5 rfl; have hg5 : g3 < w5.heap.size := Nat.lt_of_lt_of_le hg3 hbx.size; have hp5 : p < w5.heap.size := Nat.lt_of_lt_of_le hpl hbx.size)
                    | (refine (HF.out _ hbB').mono ?_; rintro e w5 ⟨hb5, rfl⟩; have hby := below_next hbB' hb5; have v0 := (hby.cell hg3).trans r0; have v1 := (hby.cell hg3).trans r1; have v2 := (HPA.out.below hby).cell 5 rfl; have hg5 : g3 < w5.heap.size := Nat.lt_of_lt_of_le hg3 hby.size; have hp5 : p < w5.heap.size := Nat.lt_of_lt_of_le hpl hby.size; have hB5 := hBZ.below hb5; have z0 := hB5.cell 0 rfl; have z1 := hB5.cell 1 rfl; have hzf := hB5.frozen))
                  all_goals (
                    go_wp2
                    go_meet
                    first
                    | (have hq := hbx; exact ⟨w5.heap.size, rfl, Bx.new w5 _ _, below_next hq (below_alloc _ _)⟩)
                    | (have hq := hby; exact ⟨wA.heap.size, rfl, (hB5.set 0 (.string sy)).set 1 (.slice yd yl yc), (hq.setCell (p := ⟨wA.heap.size, 0, none⟩) (Nat.le_refl _) (.string sy)).setCell (p := ⟨wA.heap.size, 1, none⟩) (Nat.le_refl _) (.slice yd yl yc)⟩))
                case rest =>
                  obtain ⟨bF, rfl, hBF, hbc⟩ := hcut
                  generalize wc = W5 at *
                  have u1 := hBF.cell 1 rfl
                  have u2 := (HBA2.out.below hbc).cell 1 rfl
                  have HBC := hid (below_next HBA.out hbc)
                  have HKc := hid (HK.out W5 hbc)
                  clear hbA' hbB' hBZ hBF hbc f0 r0 r1 e2s
                  go_wp2_with fail
                  refine HKc.out.mono ?_
                  rintro e w6 ⟨hb6, rfl⟩
                  have HB6 := hid (below_next HBC.out hb6)
                  clear hb6 u1 u2
                  have hst2 := HST2.out
                  by_cases he0 : methodsF y.2 x.2 = 0
                  · rw [if_pos he0]
                    rw [he0, thenE, if_pos rfl] at hst2
                    have HS3 := hid hst2
                    clear hst2
                    go_wp2
                    exact ⟨⟨j + 1, by rw [← HL2.out]; omega, by go_num, HS3.out, HB6.out⟩, by simp [intOf]; omega⟩
                  · rw [if_neg he0]
                    rw [thenE, if_neg he0] at hst2
                    have hRe : R = methodsF y.2 x.2 := by
                      rw [HR.out]
                      unfold findE
                      rw [HZ0.out, thenE, if_pos rfl, HZ1.out, thenE, if_pos rfl]
                      rw [← hst2]
                    rw [← hRe] at he0 ⊢
                    refine ⟨rfl, HB6.out, ?_⟩
                    rw [if_neg he0]
              · have hR71 : R = 71 := by
                  rw [HR.out]
                  unfold findE
                  have hst2 := HST.out
                  rw [if_neg hD] at hst2
                  rw [HZ0.out, thenE, if_pos rfl, HZ1.out, thenE, if_pos rfl]
                  rw [← hst2]
                subst hR71
                clear hbw hbA hbA2 hBA hPA hfr hxm hsx HME HST hfl
                go_wp2_with fail
                rw [← HWA.out]
                refine wp_region_drawn2 (pred := fun jx v _ => match jx with | 0 => v = .pointer (some ⟨p, 0, none⟩) | 1 => v = .pointer (some ⟨p, 0, none⟩) | 2 => v = .pointer (some ⟨p, 3, none⟩) | 3 => v = .pointer (some ⟨p, 5, none⟩) | 4 => v = .slice b3 m3 d3 | 5 => v = .pointer (some ⟨p, 0, none⟩) | 6 => v = .pointer (some ⟨wr.heap.size, 0, none⟩) | 7 => v = .string sx | 8 => False | 9 => False | 10 => False | 11 => True | 12 => True | _ => True) (R := fun W => Below wA.heap.size wA W) (by kernel_rfl) (by kernel_rfl) (by kernel_rfl) (fun _ _ _ _ h _ => h) (Below.refl _ _).drew ?step ?done
                case step =>
                  intro ix o ho A W hsz hdf hfr hdep hR
                  rcases ix with _ | _ | _ | _ | _ | _ | _ | _ | _ | _ | _ | _ | _ | ix
                  · injection ho with ho
                    subst ho
                    have e0 : A.eval (.tmp 0) = .pointer (some ⟨p, 0, none⟩) := (hfr 0 (noDst_spec (by kernel_rfl))).trans rfl
                    exact gOp_mv rfl (wanted_plain rfl) (.inl rfl) e0 ⟨_, rfl, rfl, Below.refl _ _, hR⟩
                  · injection ho with ho
                    subst ho
                    have e75 : A.eval (.tmp 75) = .pointer (some ⟨p, 0, none⟩) := hdep ⟨0, .data⟩ (by simp) rfl _ _ rfl rfl
                    exact gOp_nil rfl (wanted_plain rfl) rfl e75 ⟨_, rfl, rfl, Below.refl _ _, hR⟩
                  · injection ho with ho
                    subst ho
                    have e76 : A.eval (.tmp 76) = .pointer (some ⟨p, 0, none⟩) := hdep ⟨1, .data⟩ (by simp) rfl _ _ rfl rfl
                    exact gOp_fld (v := .pointer (some ⟨p, 3, none⟩)) rfl (wanted_plain rfl) rfl e76 (by go_simp) ⟨_, rfl, rfl, Below.refl _ _, hR⟩
                  · injection ho with ho
                    subst ho
                    have e77 : A.eval (.tmp 77) = .pointer (some ⟨p, 3, none⟩) := hdep ⟨2, .data⟩ (by simp) rfl _ _ rfl rfl
                    exact gOp_fld (v := .pointer (some ⟨p, 5, none⟩)) rfl (wanted_plain rfl) rfl e77 (by go_simp) ⟨_, rfl, rfl, Below.refl _ _, hR⟩
                  · injection ho with ho
                    subst ho
                    have e78 : A.eval (.tmp 78) = .pointer (some ⟨p, 5, none⟩) := hdep ⟨3, .data⟩ (by simp) rfl _ _ rfl rfl
                    have x0 := (hR.cell HPL.out).trans e2s
                    exact gOp_ld (v := .slice b3 m3 d3) rfl (wanted_plain rfl) rfl e78 (by go_simp) ⟨_, rfl, rfl, Below.refl _ _, hR⟩
                  · injection ho with ho
                    subst ho
                    have e0 : A.eval (.tmp 0) = .pointer (some ⟨p, 0, none⟩) := (hfr 0 (noDst_spec (by kernel_rfl))).trans rfl
                    exact gOp_mv rfl (wanted_plain rfl) (.inl rfl) e0 ⟨_, rfl, rfl, Below.refl _ _, hR⟩
                  · injection ho with ho
                    subst ho
                    have e9 : A.eval (.tmp 9) = .pointer (some ⟨wr.heap.size, 0, none⟩) := (hfr 9 (noDst_spec (by kernel_rfl))).trans rfl
                    exact gOp_fld (v := .pointer (some ⟨wr.heap.size, 0, none⟩)) rfl (wanted_plain rfl) rfl e9 (by go_simp) ⟨_, rfl, rfl, Below.refl _ _, hR⟩
                  · injection ho with ho
                    subst ho
                    have e81 : A.eval (.tmp 81) = .pointer (some ⟨wr.heap.size, 0, none⟩) := hdep ⟨6, .data⟩ (by simp) rfl _ _ rfl rfl
                    have x0 := (hR.cell HQL.out).trans f0
                    exact gOp_ld (v := .string sx) rfl (wanted_plain rfl) rfl e81 (by go_simp) ⟨_, rfl, rfl, Below.refl _ _, hR⟩
                  · injection ho with ho
                    subst ho
                    have e80 : A.eval (.tmp 80) = .pointer (some ⟨p, 0, none⟩) := hdep ⟨5, .data⟩ (by simp) rfl _ _ rfl rfl
                    have e82 : A.eval (.tmp 82) = .string sx := hdep ⟨7, .data⟩ (by simp) rfl _ _ rfl rfl
                    refine gOp_dies rfl (wanted_plain rfl) 84 #[.pointer (some ⟨p, 0, none⟩), .int .i64 3, .string sx] (run_call _ (fun _ _ => rfl) _ _ rfl _ (by simp [e80, e82]; rfl)) ?_
                    refine (HF.out W hR).mono ?_
                    rintro e w5 ⟨hb5, rfl⟩
                    rw [if_neg hD]
                    exact ⟨_, rfl, hdf, below_next HBA.out (below_next hR hb5), rfl⟩
                  · injection ho with ho
                    subst ho
                    exact (hdep ⟨8, .data⟩ (by simp) rfl _ _ rfl rfl).elim
                  · injection ho with ho
                    subst ho
                    exact (hdep ⟨9, .data⟩ (by simp) rfl _ _ rfl rfl).elim
                  · injection ho with ho
                    subst ho
                    exact gOp_ok (v := .pointer (some ⟨W.heap.size, 0, none⟩)) (w' := W.alloc (.cells #[.string ⟨#[]⟩, .slice none 0 0] 67)) rfl (wanted_plain rfl) (by go_simp) ⟨_, rfl, trivial, below_alloc _ _, below_next hR (below_alloc _ _)⟩
                  · injection ho with ho
                    subst ho
                    exact (hdep ⟨10, .data⟩ (by simp) rfl _ _ rfl rfl).elim
                  · simp at ho
                case done =>
                  intro A W _ _ _ hcome _
                  exact (hcome 8 _ _ rfl rfl).elim
            · have hje : j = l3 := by omega
              subst hje
              have hr0 : svF B A.2.2 = 0 := by
                rw [← HME.out, HL2.out, List.drop_length]
                rfl
              have HZ2 := hid hr0
              have HB3 := hid hbw
              clear hr0 hbw HME k2
              have hR0 : R = 0 := by
                rw [HR.out]
                unfold findE
                rw [HZ0.out, thenE, if_pos rfl, HZ1.out, thenE, if_pos rfl, HZ2.out]
              subst hR0
              go_wp2
              go_end0
              exact ⟨HB3.out, rfl⟩
end Go.Proofs.YtdbgncdnffbhkaaGreatDoor

namespace Go.Proofs.YtdbgncdnffbhkaaGreatDoor
open Go.RowKit
set_option maxRecDepth 20000

theorem enums_full : ∀ (en : List (List Nat × List Pl.Cas)), enumsE en = 0 → ∀ x ∈ en, 0 < x.2.length := by
  intro en
  induction en with
  | nil => intro _ x hx; cases hx
  | cons a r ih =>
    intro h x hx
    rw [enumsE] at h
    by_cases hz : 0 < a.2.length
    · rw [if_pos hz, thenE, if_pos rfl] at h
      rcases List.mem_cons.1 hx with rfl | hx
      · exact hz
      · refine ih ?_ x hx
        unfold thenE at h
        split at h
        · exact h
        · omega
    · rw [if_neg hz, thenE, if_neg (by decide)] at h
      simp at h
theorem thenE_zero {a b : Int} (h : thenE a b = 0) : a = 0 ∧ b = 0 := by
  unfold thenE at h
  split at h
  · exact ⟨by assumption, h⟩
  · omega
theorem all_enums {st : List (List Nat × List Pl.Fld)} {en : List (List Nat × List Pl.Cas)} {sv : List (List Nat × List Pl.Mth)} (h : allE st en sv = 0) : enumsE en = 0 := by
  unfold allE at h
  split at h
  · simp at h
  · split at h
    · simp at h
    · split at h
      · simp at h
      · exact (thenE_zero (thenE_zero h).2).1
theorem parts_ok {st : List (List Nat × List Pl.Fld)} {en : List (List Nat × List Pl.Cas)} {sv : List (List Nat × List Pl.Mth)} (hok : ∀ d ∈ Pl.inOrder st en sv, Pl.okDecl d) (h : allE st en sv = 0) : PartsOk (st, en, sv) := by
  refine ⟨fun x hx => ?_, fun x hx => ?_, fun x hx => ?_⟩
  · obtain ⟨h1, h2, h3⟩ := hok (Pl.mkSt x) (List.mem_append_left _ (List.mem_append_left _ (List.mem_map_of_mem hx)))
    exact ⟨by omega, h3⟩
  · obtain ⟨h1, h2, h3⟩ := hok (Pl.mkEn x) (List.mem_append_left _ (List.mem_append_right _ (List.mem_map_of_mem hx)))
    exact ⟨by omega, enums_full en (all_enums h) x hx⟩
  · obtain ⟨h1, h2, h3⟩ := hok (Pl.mkSv x) (List.mem_append_right _ (List.mem_map_of_mem hx))
    exact ⟨by omega, h3⟩

/-- What Extends tells. -/
def extE (E F : Int) (A B : Option Sc) : Int := thenE E (thenE F (match A, B with | some A, some B => findE A B | _, _ => 0))

theorem ScOk.good {w : World} {s1 s2 s3 : Value} {E : Int} {D : Option Sc} (h : ScOk w s1 s2 s3 E D) (hE : E = 0) : ∃ A : Sc, D = some A ∧ SchG A.1 A.2.1 A.2.2 s1 s2 s3 w ∧ PartsOk A ∧ (A.1.length ≤ 1000 ∧ A.2.1.length ≤ 1000 ∧ A.2.2.length ≤ 1000) := by
  match D, h with
  | none, ⟨a, b, c, er, h1, h2, h3, h4, h5⟩ => omega
  | some (st, en, sv), ⟨h1, _, h3, h4, h5⟩ => exact ⟨(st, en, sv), rfl, SchL.g (Nat.le_refl _) (by omega) h1 h3, parts_ok h3 (by rw [← h5]; exact hE), by simp only; omega⟩

structure ExtI (E F : Int) (w : World) (i : Value) (wr : World) : Prop where
  all : (i = .int .i64 0 ∨ (i = .int .i64 1 ∧ E = 0) ∨ (i = .int .i64 2 ∧ E = 0 ∧ F = 0)) ∧ Below w.heap.size w wr

set_option maxHeartbeats 16000000 in
theorem Extends_any (s1 s2 s3 t1 t2 t3 : Value) (E F : Int) (A B : Option Sc) (w : World) (hA : ScOk w s1 s2 s3 E A) (hB : ScOk w t1 t2 t3 F B) (ht : Tab w.heap.size w) :
    Calls Tryz.prog 22 #[.agg #[s1, s2, s3], .agg #[t1, t2, t3]] w fun e w' => e = .returned (.int .i64 (extE E F A B)) ∧ Below w.heap.size w w' := by
  obtain ⟨R, hR⟩ : ∃ R, R = extE E F A B := ⟨_, rfl⟩
  rw [← hR]
  have HR := hid hR
  obtain ⟨a1, m1, c1, a2, m2, c2, a3, m3, c3, rfl, rfl, rfl⟩ := hA.shape
  obtain ⟨b1, n1, d1, b2, n2, d2, b3, n3, d3, rfl, rfl, rfl⟩ := hB.shape
  obtain ⟨w1, hw1⟩ : ∃ w1, w1 = w.alloc (.cells #[.slice a1 m1 c1, .slice a2 m2 c2, .slice a3 m3 c3] 26) := ⟨_, rfl⟩
  obtain ⟨w2, hw2⟩ : ∃ w2, w2 = w1.alloc (.cells #[.slice b1 n1 d1, .slice b2 n2 d2, .slice b3 n3 d3] 26) := ⟨_, rfl⟩
  obtain ⟨w3, hw3⟩ : ∃ w3, w3 = w2.alloc (.cells #[.slice a1 m1 c1, .slice a2 m2 c2, .slice a3 m3 c3, .slice b1 n1 d1, .slice b2 n2 d2, .slice b3 n3 d3] 26) := ⟨_, rfl⟩
  have hz1 : w1.heap.size = w.heap.size + 1 := by rw [hw1]; simp
  have hz2 : w2.heap.size = w.heap.size + 2 := by rw [hw2]; simp [hz1]
  have hb1 : Below w.heap.size w w1 := by rw [hw1]; exact below_alloc w _
  have hb12 : Below w1.heap.size w1 w2 := by rw [hw2]; exact below_alloc w1 _
  have hb23 : Below w2.heap.size w2 w3 := by rw [hw3]; exact below_alloc w2 _
  have hb3 := below_next (below_next hb1 hb12) hb23
  have hBa : Bx w3 w.heap.size [.slice a1 m1 c1, .slice a2 m2 c2, .slice a3 m3 c3] 26 := Bx.below (Bx.below (by rw [hw1]; exact Bx.new w _ _) hb12) hb23
  have hBb : Bx w3 (w.heap.size + 1) [.slice b1 n1 d1, .slice b2 n2 d2, .slice b3 n3 d3] 26 := Bx.below (by rw [hw2]; exact Bx.newAt hz1.symm _ _) hb23
  have hBc : Bx w3 (w.heap.size + 2) [.slice a1 m1 c1, .slice a2 m2 c2, .slice a3 m3 c3, .slice b1 n1 d1, .slice b2 n2 d2, .slice b3 n3 d3] 26 := by rw [hw3]; exact Bx.newAt hz2.symm _ _
  have HA3 := hid (hA.below hb3)
  have HB3 := hid (hB.below hb3)
  have HT3 := hid ((ht.below hb3).up2 hb3.size)
  have Hb3 := hid hb3
  have HBa := hid hBa
  have HBb := hid hBb
  have HBc := hid hBc
  have HW1 := hid hw1
  have HW2 := hid hw2
  have HW3 := hid hw3
  have hmf : ∀ (fn : Fn) (first cap : Array Value) (w : World), (Instr.makeFunc fn first cap).run Tryz.prog w = .ok (.func fn first cap) w := fun _ _ _ _ => rfl
  clear hR hA hB ht hw1 hw2 hw3 hz1 hz2 hb1 hb12 hb23 hb3 hBa hBb hBc
  go_enter Tryz.func22, Tryz.ntmps22
  go_wp2_with fail
  rw [← HW1.out, ← HW2.out, ← HW3.out]
  go_loopw [13] (fun i wr => ExtI E F w3 i wr) (fun i _ => 3 - (intOf i).toNat)
  case atStart => exact ⟨.inl rfl, Below.refl _ _⟩
  case round =>
    obtain ⟨hi, hbw⟩ := hrel.all
    clear hrel
    rcases hi with rfl | ⟨rfl, hE⟩ | ⟨rfl, hE, hF⟩
    · have hBc := HBc.out.below hbw
      have q0 := hBc.cell 0 rfl
      have q1 := hBc.cell 1 rfl
      have q2 := hBc.cell 2 rfl
      have hbA := below_next hbw (below_alloc wr (.cells #[.slice a1 m1 c1, .slice a2 m2 c2, .slice a3 m3 c3] 26))
      have hCk := Check_any _ _ _ E A _ (HA3.out.below hbA) ((HT3.out.below hbA).up2 hbA.size)
      have HCk := hid hCk
      have HBA := hid hbA
      clear hCk hbA hbw hBc
      go_wp2_with fail
      refine HCk.out.mono ?_
      rintro e w5 ⟨rfl, hb5⟩
      have HB5 := hid (below_next HBA.out hb5)
      clear hb5
      by_cases h0 : E = 0
      · subst h0
        go_wp2
        exact ⟨⟨.inr (.inl ⟨by go_num, rfl⟩), HB5.out⟩, by simp [intOf]⟩
      · have hRE : R = E := by rw [HR.out]; unfold extE; rw [thenE, if_neg h0]
        subst hRE
        have hq : (R == 0) = false := by simp [h0]
        go_wp2_with fail
        go_ret
        exact ⟨rfl, below_next Hb3.out HB5.out⟩
    · have hBc := HBc.out.below hbw
      have q3 := hBc.cell 3 rfl
      have q4 := hBc.cell 4 rfl
      have q5 := hBc.cell 5 rfl
      have hbA := below_next hbw (below_alloc wr (.cells #[.slice b1 n1 d1, .slice b2 n2 d2, .slice b3 n3 d3] 26))
      have hCk := Check_any _ _ _ F B _ (HB3.out.below hbA) ((HT3.out.below hbA).up2 hbA.size)
      have HCk := hid hCk
      have HBA := hid hbA
      clear hCk hbA hbw hBc
      go_wp2_with fail
      refine HCk.out.mono ?_
      rintro e w5 ⟨rfl, hb5⟩
      have HB5 := hid (below_next HBA.out hb5)
      clear hb5
      by_cases h0 : F = 0
      · subst h0
        go_wp2
        exact ⟨⟨.inr (.inr ⟨by go_num, hE, rfl⟩), HB5.out⟩, by simp [intOf]⟩
      · have hRE : R = F := by rw [HR.out]; unfold extE; rw [hE, thenE, if_pos rfl, thenE, if_neg h0]
        subst hRE
        have hq : (R == 0) = false := by simp [h0]
        go_wp2_with fail
        go_ret
        exact ⟨rfl, below_next Hb3.out HB5.out⟩
    · have hBa := HBa.out.below hbw
      have hBb := HBb.out.below hbw
      have q0 := hBa.cell 0 rfl
      have q1 := hBa.cell 1 rfl
      have q2 := hBa.cell 2 rfl
      have p0 := hBb.cell 0 rfl
      have p1 := hBb.cell 1 rfl
      have p2 := hBb.cell 2 rfl
      have HBW := hid hbw
      obtain ⟨SA, hSA, hGA, hPA, hLA⟩ := (HA3.out.below hbw).good hE
      obtain ⟨SB, hSB, hGB, hPB, hLB⟩ := (HB3.out.below hbw).good hF
      have hRf : R = findE SA SB := by
        rw [HR.out]
        unfold extE
        rw [hE, thenE, if_pos rfl, hF, thenE, if_pos rfl, hSA, hSB]
      obtain ⟨w4, hw4⟩ : ∃ w4, w4 = wr.alloc (.cells #[.slice a1 m1 c1, .slice a2 m2 c2, .slice a3 m3 c3, .slice b1 n1 d1, .slice b2 n2 d2, .slice b3 n3 d3] 99) := ⟨_, rfl⟩
      obtain ⟨w5, hw5⟩ : ∃ w5, w5 = w4.alloc (.cells #[.int .i64 0] 27) := ⟨_, rfl⟩
      have hb4 : Below wr.heap.size wr w4 := by rw [hw4]; exact below_alloc wr _
      have hb45 : Below w4.heap.size w4 w5 := by rw [hw5]; exact below_alloc w4 _
      have hb5 := below_next hb4 hb45
      have hB5 : Bx w5 wr.heap.size [.slice a1 m1 c1, .slice a2 m2 c2, .slice a3 m3 c3, .slice b1 n1 d1, .slice b2 n2 d2, .slice b3 n3 d3] 99 := Bx.below (by rw [hw4]; exact Bx.new wr _ _) hb45
      have hBe : Bx w5 w4.heap.size [.int .i64 0] 27 := by rw [hw5]; exact Bx.new w4 _ _
      have hall := findAll_any SA SB hPA hPB hLA hLB wr.heap.size _ _ _ _ _ _ w5 hB5 (hGA.below hb5) (hGB.below hb5)
      rw [← hRf] at hall
      have hPP : ∀ W, Below w5.heap.size w5 W → Bx W w4.heap.size [.int .i64 0] 27 := fun W hb => hBe.below hb
      have hlast : ∀ (W : World) (v : Value), Below w5.heap.size w5 W → Below w.heap.size w (W.setCell ⟨w4.heap.size, 0, none⟩ v) := by
        intro W v hb
        have h3 := below_next Hb3.out hbw
        have h4 := below_next h3 hb4
        have h6 := below_next (below_next h3 hb5) hb
        exact h6.setCell (by simp only; exact h4.size) _
      have hcau : Calls Tryz.prog 42 #[.func (.func 48) #[.pointer (some ⟨wr.heap.size, 0, none⟩)] #[]] w4 fun e w' => e = .returned (.int .i64 R) ∧ Below w.heap.size w w' := by
        by_cases hR0 : R = 0
        · rw [hR0]
          refine (scaught_ok _ _ (fun _ _ => rfl) w4 (fun W => Below w5.heap.size w5 W) hPP ?_).mono ?_
          · rw [hw5] at hall ⊢
            refine hall.mono ?_
            rintro e W ⟨hg, rfl⟩
            exact ⟨by rw [if_pos hR0], hg⟩
          · rintro e w' ⟨rfl, W, hg, rfl⟩
            exact ⟨rfl, hlast W _ hg⟩
        · refine (scaught_bad _ _ (fun _ _ => rfl) w4 (fun er => er = R) (fun W => Below w5.heap.size w5 W) hPP ?_).mono ?_
          · rw [hw5] at hall ⊢
            refine hall.mono ?_
            rintro e W ⟨hg, rfl⟩
            exact ⟨R, rfl, by rw [if_neg hR0], hg⟩
          · rintro e w' ⟨er, rfl, rfl, W, hg, rfl⟩
            exact ⟨rfl, hlast W _ hg⟩
      have HCAU := hid hcau
      have HW4 := hid hw4
      clear hBa hBb hbw hcau hlast hPP hall hBe hB5 hb5 hb45 hb4 hw5 hw4 hRf hSA hSB hGA hGB hPA hPB hLA hLB
      go_wp2_with fail
      rw [← HW4.out]
      refine HCAU.out.mono ?_
      rintro e w6 ⟨rfl, hb6⟩
      have HB6 := hid hb6
      clear hb6
      go_wp2_with fail
      go_ret
      exact ⟨rfl, HB6.out⟩
end Go.Proofs.YtdbgncdnffbhkaaGreatDoor

namespace Go.Proofs.YtdbgncdnffbhkaaGreatDoor
open Go.RowKit
set_option maxRecDepth 20000

theorem fieldsF_zero {B : List Pl.Fld} : ∀ {A : List Pl.Fld}, fieldsF B A = 0 ↔ ∀ a ∈ A, a ∈ B := by
  intro A
  induction A with
  | nil => simp [fieldsF]
  | cons a r ih =>
    rw [fieldsF]
    by_cases h : B.any (fun b => decide (b = a)) = true
    · rw [if_pos h, ih]
      have ha : a ∈ B := by
        obtain ⟨b, hb, e⟩ := List.any_eq_true.1 h
        rw [← of_decide_eq_true e]
        exact hb
      constructor
      · intro hr x hx
        rcases List.mem_cons.1 hx with rfl | hx
        · exact ha
        · exact hr x hx
      · exact fun hr x hx => hr x (List.mem_cons_of_mem _ hx)
    · rw [if_neg h]
      constructor
      · intro h0; simp at h0
      · intro hr
        exact absurd (List.any_eq_true.2 ⟨a, hr a List.mem_cons_self, decide_eq_true rfl⟩) h
def hasC (B : List Pl.Cas) (a : Pl.Cas) : Prop := 0 ≤ idxF (fun b : Pl.Cas => decide (b.name = a.name)) B 0 ∧ B[(idxF (fun b : Pl.Cas => decide (b.name = a.name)) B 0).toNat]? = some a
def hasM (B : List Pl.Mth) (a : Pl.Mth) : Prop := 0 ≤ idxF (fun b : Pl.Mth => decide (b.name = a.name)) B 0 ∧ B[(idxF (fun b : Pl.Mth => decide (b.name = a.name)) B 0).toNat]? = some a
theorem casesF_zero {B : List Pl.Cas} : ∀ {A : List Pl.Cas}, casesF B A = 0 ↔ ∀ a ∈ A, hasC B a := by
  intro A
  induction A with
  | nil => simp [casesF]
  | cons a r ih =>
    rw [casesF]
    unfold hasC at ih ⊢
    constructor
    · intro h x hx
      split at h
      · split at h
        · rcases List.mem_cons.1 hx with rfl | hx
          · exact ⟨by assumption, by assumption⟩
          · exact ih.1 h x hx
        · simp at h
      · simp at h
    · intro h
      have ha := h a List.mem_cons_self
      rw [if_pos ha.1, if_pos ha.2]
      exact ih.2 fun x hx => h x (List.mem_cons_of_mem _ hx)
theorem methodsF_zero {B : List Pl.Mth} : ∀ {A : List Pl.Mth}, methodsF B A = 0 ↔ ∀ a ∈ A, hasM B a := by
  intro A
  induction A with
  | nil => simp [methodsF]
  | cons a r ih =>
    rw [methodsF]
    unfold hasM at ih ⊢
    constructor
    · intro h x hx
      split at h
      · split at h
        · rcases List.mem_cons.1 hx with rfl | hx
          · exact ⟨by assumption, by assumption⟩
          · exact ih.1 h x hx
        · simp at h
      · simp at h
    · intro h
      have ha := h a List.mem_cons_self
      rw [if_pos ha.1, if_pos ha.2]
      exact ih.2 fun x hx => h x (List.mem_cons_of_mem _ hx)
theorem allCasesF_zero {B A : List Pl.Cas} : allCasesF B A = 0 ↔ casesF B A = 0 ∧ B[0]? = A[0]? := by
  unfold allCasesF thenE
  constructor
  · intro h
    split at h
    · refine ⟨by assumption, ?_⟩
      split at h
      · assumption
      · simp at h
    · omega
  · rintro ⟨h1, h2⟩
    rw [if_pos h1, if_pos h2]
theorem thenE_zero_iff {a b : Int} : thenE a b = 0 ↔ a = 0 ∧ b = 0 := ⟨thenE_zero, fun h => by rw [thenE, if_pos h.1, h.2]⟩
theorem stF_zero {B : Sc} : ∀ {A : List (List Nat × List Pl.Fld)}, stF B A = 0 ↔ ∀ a ∈ A, (fnd B.1 B.2.1 B.2.2 a.1).1 = 1 ∧ fieldsF ((B.1[(fnd B.1 B.2.1 B.2.2 a.1).2.toNat]?).getD ([], [])).2 a.2 = 0 := by
  intro A
  induction A with
  | nil => simp [stF]
  | cons a r ih =>
    rw [stF]
    constructor
    · intro h x hx
      split at h
      · have h2 := thenE_zero h
        rcases List.mem_cons.1 hx with rfl | hx
        · exact ⟨by assumption, h2.1⟩
        · exact ih.1 h2.2 x hx
      · simp at h
    · intro h
      have ha := h a List.mem_cons_self
      rw [if_pos ha.1]
      exact thenE_zero_iff.2 ⟨ha.2, ih.2 fun x hx => h x (List.mem_cons_of_mem _ hx)⟩
theorem enF_zero {B : Sc} : ∀ {A : List (List Nat × List Pl.Cas)}, enF B A = 0 ↔ ∀ a ∈ A, (fnd B.1 B.2.1 B.2.2 a.1).1 = 2 ∧ allCasesF ((B.2.1[(fnd B.1 B.2.1 B.2.2 a.1).2.toNat]?).getD ([], [])).2 a.2 = 0 := by
  intro A
  induction A with
  | nil => simp [enF]
  | cons a r ih =>
    rw [enF]
    constructor
    · intro h x hx
      split at h
      · have h2 := thenE_zero h
        rcases List.mem_cons.1 hx with rfl | hx
        · exact ⟨by assumption, h2.1⟩
        · exact ih.1 h2.2 x hx
      · simp at h
    · intro h
      have ha := h a List.mem_cons_self
      rw [if_pos ha.1]
      exact thenE_zero_iff.2 ⟨ha.2, ih.2 fun x hx => h x (List.mem_cons_of_mem _ hx)⟩
theorem svF_zero {B : Sc} : ∀ {A : List (List Nat × List Pl.Mth)}, svF B A = 0 ↔ ∀ a ∈ A, (fnd B.1 B.2.1 B.2.2 a.1).1 = 3 ∧ methodsF ((B.2.2[(fnd B.1 B.2.1 B.2.2 a.1).2.toNat]?).getD ([], [])).2 a.2 = 0 := by
  intro A
  induction A with
  | nil => simp [svF]
  | cons a r ih =>
    rw [svF]
    constructor
    · intro h x hx
      split at h
      · have h2 := thenE_zero h
        rcases List.mem_cons.1 hx with rfl | hx
        · exact ⟨by assumption, h2.1⟩
        · exact ih.1 h2.2 x hx
      · simp at h
    · intro h
      have ha := h a List.mem_cons_self
      rw [if_pos ha.1]
      exact thenE_zero_iff.2 ⟨ha.2, ih.2 fun x hx => h x (List.mem_cons_of_mem _ hx)⟩

end Go.Proofs.YtdbgncdnffbhkaaGreatDoor

namespace Go.Proofs.YtdbgncdnffbhkaaGreatDoor
open Go.RowKit
set_option maxRecDepth 20000

theorem num6_any (n : Int) (w : World) : Calls Tryz.prog 18 #[.int .i64 n] w fun e w' => e = .returned (.int .i64 n) ∧ w' = w := by
  go_enter Tryz.func18, Tryz.ntmps18
  go_wp2
  go_ret
  exact ⟨rfl, rfl⟩
theorem ret_load9 {W : World} {tmps : Array Value} {b : Nat} {x y z p q : Value} (ht : tmps.getD 2 undef = .pointer (some ⟨b, 0, none⟩)) (h3 : tmps.getD 3 undef = p) (h4 : tmps.getD 4 undef = q) (h0 : W.cell? ⟨b, 0, none⟩ = some x) (h1 : W.cell? ⟨b, 1, none⟩ = some y) (h2 : W.cell? ⟨b, 2, none⟩ = some z) :
    (results Tryz.f9 tmps).run Tryz.prog W = .ok (.tuple #[.agg #[x, y, z], p, q]) W := by
  have ht' : tmps[2]?.getD undef = .pointer (some ⟨b, 0, none⟩) := by rw [← Array.getD_eq_getD_getElem?]; exact ht
  have h3' : tmps[3]?.getD undef = p := by rw [← Array.getD_eq_getD_getElem?]; exact h3
  have h4' : tmps[4]?.getD undef = q := by rw [← Array.getD_eq_getD_getElem?]; exact h4
  simp [results, Tryz.results9]
  go_simp

theorem TOk.sc {t : ByteArray} {ds : List Pl.Decl} (h : TOk t ds) {B : Nat} {s1 s2 s3 : Value} {w : World} (hV : SchV B ds s1 s2 s3 w) : ScOk w s1 s2 s3 (allE (stOf ds) (enOf ds) (svOf ds)) (some (stOf ds, enOf ds, svOf ds)) :=
  ⟨hV.sch 99 h.good.1 h.good.2, ⟨_, Pl.schW_ok _ _ _ h.good.1 h.good.2⟩, h.good.1, h.good.2, rfl⟩

/-- What Load answers. -/
def LoadR (w : World) (E : Int) (L : Nat) (e : Ending) (w' : World) : Prop :=
  Below w.heap.size w w' ∧ ∃ a1 m1 c1 a2 m2 c2 a3 m3 c3, e = .returned (.tuple #[.agg #[.slice a1 m1 c1, .slice a2 m2 c2, .slice a3 m3 c3], .int .i64 0, .int .i64 E]) ∧ (E = 0 → m1 = L)

set_option maxHeartbeats 8000000 in
theorem load_ok (t : ByteArray) (ds : List Pl.Decl) (hT : TOk t ds) (w : World) (ht : Tab w.heap.size w) :
    Calls Tryz.prog 9 #[.string t] w (LoadR w (allE (stOf ds) (enOf ds) (svOf ds)) (stOf ds).length) := by
  obtain ⟨E, hE⟩ : ∃ E, E = allE (stOf ds) (enOf ds) (svOf ds) := ⟨_, rfl⟩
  rw [← hE]
  have HE := hid hE
  obtain ⟨w1, hw1⟩ : ∃ w1, w1 = w.alloc (.cells #[.slice none 0 0, .slice none 0 0, .slice none 0 0] 26) := ⟨_, rfl⟩
  have hb1 : Below w.heap.size w w1 := by rw [hw1]; exact below_alloc w _
  have hB1 : Bx w1 w.heap.size [.slice none 0 0, .slice none 0 0, .slice none 0 0] 26 := by rw [hw1]; exact Bx.new w _ _
  have htx := text_out t w1
  have HT := hid hT
  have HTx := hid htx
  have HW1 := hid hw1
  have Hb1 := hid hb1
  have HB1 := hid hB1
  have HTab := hid ht
  clear hE hw1 hb1 hB1 htx ht hT
  go_enter Tryz.func9, Tryz.ntmps9
  go_wp2_with fail
  rw [← HW1.out]
  refine HTx.out.mono ?_
  rintro e w2 (⟨ln, er, her, hbad, _, rfl, hb2⟩ | ⟨ds', s1, s2, s3, hok, rfl, hV, hb2⟩)
  · exact absurd (HT.out.notBad hbad) her
  · obtain rfl := HT.out.one hok
    obtain ⟨a1, c1, a2, c2, a3, c3, rfl, rfl, rfl⟩ := hV.shape
    have hsc := HT.out.sc hV
    rw [← HE.out] at hsc
    have hl1 : (stOf ds).length = (stOf ds).length := rfl
    obtain ⟨l1, hL1⟩ : ∃ L, L = (stOf ds).length := ⟨_, rfl⟩
    obtain ⟨l2, hL2⟩ : ∃ L, L = (enOf ds).length := ⟨_, rfl⟩
    obtain ⟨l3, hL3⟩ : ∃ L, L = (svOf ds).length := ⟨_, rfl⟩
    rw [← hL1, ← hL2, ← hL3] at hsc ⊢
    obtain ⟨w3, hw3⟩ : ∃ w3, w3 = w2.alloc (.cells #[.slice a1 l1 c1, .slice a2 l2 c2, .slice a3 l3 c3] 26) := ⟨_, rfl⟩
    have hb3 : Below w2.heap.size w2 w3 := by rw [hw3]; exact below_alloc w2 _
    have hB3 : Bx w3 w2.heap.size [.slice a1 l1 c1, .slice a2 l2 c2, .slice a3 l3 c3] 26 := by rw [hw3]; exact Bx.new w2 _ _
    have hbw := below_next (below_next Hb1.out hb2) hb3
    have hCk := Check_any _ _ _ E _ w3 (hsc.below hb3) ((HTab.out.below hbw).up2 hbw.size)
    have HCk := hid hCk
    have HSC := hid (hsc.below hb3)
    have HBW := hid hbw
    have HB3 := hid hB3
    have HBl := hid ((HB1.out.below hb2).below hb3)
    have HW3 := hid hw3
    have HL1 := hid hL1
    clear hsc hw3 hb3 hB3 hbw hCk hb2 hV hL1 hL2 hL3 hl1
    go_wp2_with fail
    rw [← HW3.out]
    refine HCk.out.mono ?_
    rintro e w4 ⟨rfl, hb4⟩
    have hBl := HBl.out.below hb4
    have hBr := HB3.out.below hb4
    have y0 := hBl.cell 0 rfl
    have y1 := hBl.cell 1 rfl
    have y2 := hBl.cell 2 rfl
    have hyf := hBl.frozen
    have z0 := hBr.cell 0 rfl
    have z1 := hBr.cell 1 rfl
    have z2 := hBr.cell 2 rfl
    by_cases h0 : E = 0
    · subst h0
      have hBs := ((hBl.set 0 (.slice a1 l1 c1)).set 1 (.slice a2 l2 c2)).set 2 (.slice a3 l3 c3)
      have hbL := ((HBW.out.trans (hb4.mono HBW.out.size)).setCell (p := ⟨w.heap.size, 0, none⟩) (Nat.le_refl _) (.slice a1 l1 c1)).setCell (p := ⟨w.heap.size, 1, none⟩) (Nat.le_refl _) (.slice a2 l2 c2) |>.setCell (p := ⟨w.heap.size, 2, none⟩) (Nat.le_refl _) (.slice a3 l3 c3)
      have HBs := hid hBs
      have HbL := hid hbL
      have HSC4 := hid (HSC.out.below hb4)
      clear hBs hbL hb4 hBl hBr
      go_wp2_with fail
      exact bodyPost_ret (ret_load9 rfl rfl rfl (HBs.out.cell 0 rfl) (HBs.out.cell 1 rfl) (HBs.out.cell 2 rfl)) rfl ⟨HbL.out, _, _, _, _, _, _, _, _, _, rfl, fun _ => by first | rfl | exact HL1.out⟩
    · have hbL := ((HBW.out.trans (hb4.mono HBW.out.size)).setCell (p := ⟨w.heap.size, 0, none⟩) (Nat.le_refl _) (.slice none 0 0)).setCell (p := ⟨w.heap.size, 1, none⟩) (Nat.le_refl _) (.slice none 0 0) |>.setCell (p := ⟨w.heap.size, 2, none⟩) (Nat.le_refl _) (.slice none 0 0)
      have HBs := hid (((hBl.set 0 (.slice none 0 0)).set 1 (.slice none 0 0)).set 2 (.slice none 0 0))
      have HbL := hid hbL
      have hq : (E == 0) = false := by simp [h0]
      have H0 := hid h0
      clear hbL hb4 hBl hBr h0
      go_wp2_with fail
      exact bodyPost_ret (ret_load9 rfl rfl rfl (HBs.out.cell 0 rfl) (HBs.out.cell 1 rfl) (HBs.out.cell 2 rfl)) rfl ⟨HbL.out, _, _, _, _, _, _, _, _, _, rfl, fun h => absurd h H0.out⟩

/-- The two texts of alive. -/
def sA1 : ByteArray := { data := #[115, 116, 114, 117, 99, 116, 32, 65, 32, 123, 32, 49, 32, 97, 32, 58, 32, 65, 32, 59, 32, 125] }
def sA2 : ByteArray := { data := #[115, 116, 114, 117, 99, 116, 32, 65, 32, 123, 32, 49, 32, 97, 32, 58, 32, 63, 65, 59, 32, 125] }
theorem ok_A1 : TOk sA1 [.st [65] [⟨1, [97], .named [65]⟩]] := by
  have h : (tokA sA1).2.2 = 0 ∧ (tokA sA1).1.map Pl.kt = [(1, Pl.wStruct), (1, [65]), (3, [123]), (2, [49]), (1, [97]), (3, [58]), (1, [65]), (3, [59]), (3, [125])] := by decide
  exact ⟨h.1, by rw [h.2]; rfl⟩
theorem ok_A2 : TOk sA2 [.st [65] [⟨1, [97], .opt (.named [65])⟩]] := by
  have h : (tokA sA2).2.2 = 0 ∧ (tokA sA2).1.map Pl.kt = [(1, Pl.wStruct), (1, [65]), (3, [123]), (2, [49]), (1, [97]), (3, [58]), (3, [63]), (1, [65]), (3, [59]), (3, [125])] := by decide
  exact ⟨h.1, by rw [h.2]; rfl⟩
theorem all_A1 : allE [([65], [⟨1, [97], .named [65]⟩])] [] [] = 42 := by decide
theorem all_A2 : allE [([65], [⟨1, [97], .opt (.named [65])⟩])] [] [] = 0 := by decide

set_option maxHeartbeats 8000000 in
theorem alive6_any (w : World) (ht : Tab w.heap.size w) : Calls Tryz.prog 24 #[] w fun e w' => e = .returned (.bool true) ∧ Below w.heap.size w w' := by
  have h1 := load_ok sA1 _ ok_A1 w ht
  have e1 : allE (stOf [Pl.Decl.st [65] [⟨1, [97], .named [65]⟩]]) (enOf [Pl.Decl.st [65] [⟨1, [97], .named [65]⟩]]) (svOf [Pl.Decl.st [65] [⟨1, [97], .named [65]⟩]]) = 42 := all_A1
  have e2 : allE (stOf [Pl.Decl.st [65] [⟨1, [97], .opt (.named [65])⟩]]) (enOf [Pl.Decl.st [65] [⟨1, [97], .opt (.named [65])⟩]]) (svOf [Pl.Decl.st [65] [⟨1, [97], .opt (.named [65])⟩]]) = 0 := all_A2
  rw [e1] at h1
  have H1 := hid h1
  have h2 : ∀ W, Below w.heap.size w W → Calls Tryz.prog 9 #[.string sA2] W (LoadR W 0 1) := by
    intro W hb
    have h := load_ok sA2 _ ok_A2 W ((ht.below hb).up2 hb.size)
    rw [e2] at h
    exact h
  have H2 := hid h2
  unfold sA1 at H1
  unfold sA2 at H2
  clear h1 h2 e1 e2 ht
  go_enter Tryz.func24, Tryz.ntmps24
  go_wp2_with fail
  refine H1.out.mono ?_
  rintro e w1 ⟨hb1, a1, m1, c1, a2, m2, c2, a3, m3, c3, rfl, _⟩
  have Hb1 := hid (below_next hb1 (below_alloc w1 (.cells #[.slice a1 m1 c1, .slice a2 m2 c2, .slice a3 m3 c3] 26)))
  clear hb1
  go_wp2_with fail
  refine (H2.out _ Hb1.out).mono ?_
  rintro e w2 ⟨hb2, x1, n1, d1, x2, n2, d2, x3, n3, d3, rfl, hn⟩
  have hn1 := hn rfl
  subst hn1
  have Hb2 := hid (below_next (below_next Hb1.out hb2) (below_alloc w2 (.cells #[.slice x1 1 d1, .slice x2 n2 d2, .slice x3 n3 d3] 26)))
  clear hb2 hn
  go_wp2_with (first | (refine (num6_any _ _).mono ?_; rintro e w3 ⟨rfl, rfl⟩) | fail)
  go_ret
  exact ⟨rfl, Hb2.out⟩

end Go.Proofs.YtdbgncdnffbhkaaGreatDoor

