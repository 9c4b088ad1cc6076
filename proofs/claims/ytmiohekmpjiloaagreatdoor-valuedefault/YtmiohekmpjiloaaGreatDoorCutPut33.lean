/- value: checkValue. value: checkValue of any value. value: innermost of any type. value: checkType of any schema and any type. What a schema that may be is closed under. value: Check of any schema, type and value. -/
import Derived.Test.YtmiohekmpjiloaaGreatDoorCutPut32
import Derived.Deep.RegionWith
import Derived.Test.YtmiohekmpjiloaaGreatDoorCutPut24
import Derived.Test.YtmiohekmpjiloaaGreatDoorCutPut22
import Derived.Test.YtmiohekmpjiloaaGreatDoorCutPut27
import Derived.Test.YtmiohekmpjiloaaGreatDoorCutPut23
namespace Go.Proofs.YtmiohekmpjiloaaGreatDoor
open Go.RowKit
set_option maxRecDepth 20000

theorem cmpV_nil {n : Nat} {u : Pl.GV} (h : cmpV (n + 1) u zeroV = 0) : u.l = [] := by
  simp only [cmpV] at h
  split at h
  · cases hl : u.l with
    | nil => rfl
    | cons x l => rw [hl] at h; simp [zeroV, Pl.GV.l, cmpL] at h
  · rename_i h0
    exact absurd h h0
theorem VyS.upto {B : Nat} {n m : Nat} (h : n ≤ m) : ∀ (l : List Pl.GV) (w : World) (v : Value), VyS B m l w v → VyS B n l w v := by
  induction h with
  | refl => intro l w v h; exact h
  | step _ ih => intro l w v h; exact ih l w v (VyS.less _ _ _ _ h)
/-- What a check ends with. -/
def EndE (E : Int) : Ending := if E = 0 then .returned (.tuple #[]) else .panicked (errp E)
theorem EndE_zero : EndE 0 = .returned (.tuple #[]) := rfl
theorem EndE_ne {E : Int} (h : E ≠ 0) : EndE E = .panicked (errp E) := if_neg h
theorem partsV_cons (f : Nat → Pl.GV → Int) (j : Nat) (x : Pl.GV) (l : List Pl.GV) : partsV f j (x :: l) = if f j x = 0 then partsV f (j + 1) l else f j x := rfl
theorem flds_len {st : List (List Nat × List Pl.Fld)} {en : List (List Nat × List Pl.Cas)} {sv : List (List Nat × List Pl.Mth)} (hC : Closed st en sv) (t : Pl.Ty) : (fldsM st (fnd st en sv) t).length ≤ 1000 := by
  cases t with
  | named x =>
    simp only [fldsM]
    split
    · cases hq : st[(fnd st en sv x).2.toNat]? with
      | none => simp
      | some a => exact hC.flen a (List.mem_of_getElem? hq)
    · simp
  | _ => simp [fldsM]
theorem cass_len {st : List (List Nat × List Pl.Fld)} {en : List (List Nat × List Pl.Cas)} {sv : List (List Nat × List Pl.Mth)} (hC : Closed st en sv) (t : Pl.Ty) : (cassM en (fnd st en sv) t).length ≤ 1000 := by
  cases t with
  | named x =>
    simp only [cassM]
    split
    · simp
    · split
      · cases hq : en[(fnd st en sv x).2.toNat]? with
        | none => simp
        | some a => exact hC.cas a (List.mem_of_getElem? hq)
      · simp
  | _ => simp [cassM]

set_option maxHeartbeats 32000000 in
theorem chk_step (st : List (List Nat × List Pl.Fld)) (en : List (List Nat × List Pl.Cas)) (sv : List (List Nat × List Pl.Mth)) (hC : Closed st en sv) (t : Pl.Ty) (ho : Pl.okTy t) (hk : knP (fnd st en sv) t = true) (s1 s2 s3 : Value) (k : Int) (s : ByteArray) (ao : Option Addr) (mo co : Nat) (B : Nat) (g : Pl.GV) (a1 : Option Addr) (m1 c1 : Nat) (w : World) (hS : SchG st en sv s1 s2 s3 w) (hT : TyG w t (.int .i64 k) (.string s) (.slice ao mo co)) (N : Nat) (hN : 65536 ≤ N) (hV : VyS B (N + 1) g.l w (.slice a1 m1 c1)) (hB : B ≤ w.heap.size) (V : Nat → Pl.GV → Int)
    (hpart : ownE (kindM (fnd st en sv) t) (fldsM st (fnd st en sv) t) (cassM en (fnd st en sv) t) g = 0 → ∀ (j : Nat) (x : Pl.GV), g.l[j]? = some x → ∀ (W : World) (vf vc : Value), Below w.heap.size w W → Rw 5 FldG W vf (fldsM st (fnd st en sv) t) → Rw 2 CasG W vc (cassM en (fnd st en sv) t) → Calls Tryz.prog 60 #[.agg #[.int .i64 (kindM (fnd st en sv) t), .string s, .slice ao mo co, vf, vc], .int .i64 j] W fun e w' => ∃ pk ps pa pm pc, e = .returned (.agg #[.int .i64 pk, .string ps, .slice pa pm pc]) ∧ TyG w' (partT (fldsM st (fnd st en sv) t) t j) (.int .i64 pk) (.string ps) (.slice pa pm pc) ∧ Below W.heap.size W w')
    (hrec : ownE (kindM (fnd st en sv) t) (fldsM st (fnd st en sv) t) (cassM en (fnd st en sv) t) g = 0 → ∀ (j : Nat) (x : Pl.GV), g.l[j]? = some x → ∀ (W : World) (pk : Int) (ps : ByteArray) (pa : Option Addr) (pm pc : Nat) (xa : Option Addr) (xm xc : Nat), Below w.heap.size w W → TyG W (partT (fldsM st (fnd st en sv) t) t j) (.int .i64 pk) (.string ps) (.slice pa pm pc) → VyS B N x.l W (.slice xa xm xc) → Calls Tryz.prog 38 #[.agg #[s1, s2, s3], .agg #[.int .i64 pk, .string ps, .slice pa pm pc], .agg #[.int .i64 x.i, .int .u64 x.u, .string x.t, .slice xa xm xc]] W fun e w' => Below W.heap.size W w' ∧ e = EndE (V j x)) :
    Calls Tryz.prog 38 #[.agg #[s1, s2, s3], .agg #[.int .i64 k, .string s, .slice ao mo co], .agg #[.int .i64 g.i, .int .u64 g.u, .string g.t, .slice a1 m1 c1]] w fun e w' => Below w.heap.size w w' ∧ e = EndE (if ownE (kindM (fnd st en sv) t) (fldsM st (fnd st en sv) t) (cassM en (fnd st en sv) t) g = 0 then partsV V 0 g.l else ownE (kindM (fnd st en sv) t) (fldsM st (fnd st en sv) t) (cassM en (fnd st en sv) t) g) := by
  obtain ⟨hκ1, hκ2, hκ8⟩ := kindM_rng ho hk
  have hm1 : m1 = g.l.length := hV.len.1
  have hfl : (fldsM st (fnd st en sv) t).length ≤ 1000 := flds_len hC t
  have hcl : (cassM en (fnd st en sv) t).length ≤ 1000 := cass_len hC t
  obtain ⟨b1, d1, b2, d2, b3, d3, rfl, rfl, rfl⟩ := hS.shape
  obtain ⟨w3, hw3⟩ : ∃ w3, w3 = ((w.alloc (.cells #[.slice b1 st.length d1, .slice b2 en.length d2, .slice b3 sv.length d3] 65)).alloc (.cells #[.int .i64 k, .string s, .slice ao mo co] 29)).alloc (.cells #[.int .i64 g.i, .int .u64 g.u, .string g.t, .slice a1 m1 c1] 33) := ⟨_, rfl⟩
  have hb3 : Below w.heap.size w w3 := by rw [hw3]; exact below_next (below_next (below_alloc w _) (below_alloc _ _)) (below_alloc _ _)
  have hBt : Bx w3 w.heap.size [.slice b1 st.length d1, .slice b2 en.length d2, .slice b3 sv.length d3] 65 := by rw [hw3]; exact ((Bx.new w _ _).below (below_alloc _ _)).below (below_alloc _ _)
  have hBv : Bx w3 (w.heap.size + 1 + 1) [.int .i64 g.i, .int .u64 g.u, .string g.t, .slice a1 m1 c1] 33 := by rw [hw3]; exact Bx.newAt (by simp) _ _
  have HMN := hid (mean_any st en sv hC.len t ho _ _ _ k s ao mo co w3 (hS.below hb3) (TyG.below hb3 _ _ _ _ hT))
  have HV := hid (fun W (hW : Below w3.heap.size w3 W) => VyS.bel ((below_next hb3 hW).mono hB) _ _ _ hV)
  have HBW := hid (fun W (hW : Below w3.heap.size w3 W) => Nat.le_trans hB (below_next hb3 hW).size)
  have HBT := hid hBt
  have HBV := hid hBv
  have HB3 := hid hb3
  have HW3 := hid hw3
  have HS := hid hS
  have HM1 := hid hm1
  have HPART := hid hpart
  have HREC := hid hrec
  clear hw3 hb3 hBt hBv hS hT hV hm1 hpart hrec
  generalize kindM (fnd st en sv) t = κ at *
  generalize fldsM st (fnd st en sv) t = fs at *
  generalize cassM en (fnd st en sv) t = cs at *
  obtain ⟨E, hE⟩ : ∃ E, E = ownE κ fs cs g := ⟨_, rfl⟩
  rw [← hE] at HPART HREC ⊢
  obtain ⟨RES, hRES⟩ : ∃ r, r = EndE (if E = 0 then partsV V 0 g.l else E) := ⟨_, rfl⟩
  rw [← hRES]
  have HE := hid hE
  have HRES := hid hRES
  clear hE hRES
  generalize st.length = l1 at *
  generalize en.length = l2 at *
  generalize sv.length = l3 at *
  go_enter Tryz.func38, Tryz.ntmps38
  go_wp2_with fail
  rw [← HW3.out]
  refine HMN.out.mono ?_
  rintro e w4 ⟨vf, vc, rfl, hrf, hrc, hb4⟩
  obtain ⟨af, cf, rfl⟩ := hrf.shape
  obtain ⟨ac, cc, rfl⟩ := hrc.shape
  obtain ⟨mf, hmf⟩ : ∃ m, m = fs.length := ⟨_, rfl⟩
  obtain ⟨mc, hmc⟩ : ∃ m, m = cs.length := ⟨_, rfl⟩
  rw [← hmf] at hrf
  rw [← hmc] at hrc
  rw [← hmf, ← hmc]
  have HMF := hid hmf
  have HMC := hid hmc
  clear hmf hmc
  have hba := below_alloc w4 (.cells #[.int .i64 κ, .string s, .slice ao mo co, .slice af mf cf, .slice ac mc cc] 97)
  obtain ⟨w5, hw5⟩ : ∃ w5, w5 = w4.alloc (.cells #[.int .i64 κ, .string s, .slice ao mo co, .slice af mf cf, .slice ac mc cc] 97) := ⟨_, rfl⟩
  rw [← hw5] at hba
  have hb5 := below_next hb4 hba
  have HRF := hid (hrf.below hba (fun _ _ h => FldG.below hba _ _ h))
  have HRC := hid (hrc.below hba (fun _ _ h => h))
  have HBM : Hid (Bx w5 w4.heap.size [.int .i64 κ, .string s, .slice ao mo co, .slice af mf cf, .slice ac mc cc] 97) := by rw [hw5]; exact Bx.new w4 _ _
  have HB5 := hid hb5
  have HBN5 := hid (below_next HB3.out hb5)
  have HTL := hid (tooLong_any κ s ao af ac mo co mf cf mc cc g.i g.u g.t a1 m1 c1 w5)
  clear hrf hrc hb4 hba hb5 HMN
  subst hw5
  have v0 := (HBV.out.below HB5.out).cell 0 rfl
  have v1 := (HBV.out.below HB5.out).cell 1 rfl
  have v2 := (HBV.out.below HB5.out).cell 2 rfl
  have v3 := (HBV.out.below HB5.out).cell 3 rfl
  have q0 := HBM.out.cell 0 rfl
  have q1 := HBM.out.cell 1 rfl
  have q2 := HBM.out.cell 2 rfl
  have q3 := HBM.out.cell 3 rfl
  have q4 := HBM.out.cell 4 rfl
  go_wp2_with fail
  refine HTL.out.mono ?_
  rintro e w6 ⟨rfl, hb6⟩
  have HB6 := hid (below_next HB5.out hb6)
  have HBM6 := hid hb6
  have HBN6 := hid (below_next HBN5.out hb6)
  clear hb6 HTL
  clear v0 v1 v2 v3 q0 q1 q2 q3 q4
  have v0 := (HBV.out.below HB6.out).cell 0 rfl
  have v1 := (HBV.out.below HB6.out).cell 1 rfl
  have v2 := (HBV.out.below HB6.out).cell 2 rfl
  have v3 := (HBV.out.below HB6.out).cell 3 rfl
  have q0 := (HBM.out.below HBM6.out).cell 0 rfl
  have q1 := (HBM.out.below HBM6.out).cell 1 rfl
  have q2 := (HBM.out.below HBM6.out).cell 2 rfl
  have q3 := (HBM.out.below HBM6.out).cell 3 rfl
  have q4 := (HBM.out.below HBM6.out).cell 4 rfl
  cases h1 : tooL κ g.t.size m1 with
  | true =>
    rw [HM1.out] at h1
    have hEc : E = 5 := by
      rw [HE.out]
      unfold ownE
      rw [h1, if_pos rfl]
    obtain rfl : RES = .panicked (errp 5) := by
      rw [HRES.out, if_neg (show ¬ E = 0 by omega), hEc]
      rfl
    clear HRES
    go_wp2_with fail
    refine (vneed_false 5 _).mono ?_
    rintro e w9 ⟨rfl, rfl⟩
    exact ⟨rfl, HBN6.out, rfl⟩

  | false =>
    have hts : g.t.size ≤ 1024 := by
      unfold tooL at h1
      simp only [Bool.or_eq_false_iff, decide_eq_false_iff_not] at h1
      omega
    rw [HM1.out] at h1
    have HRG := hid (range_any κ s ao af mo co mf cf (.slice ac mc cc) cs (by omega) g.i g.u g.t (by unfold maxLen; omega) a1 m1 c1 w6 (HRC.out.below HBM6.out (fun _ _ h => h)))
    go_wp2_with fail
    refine (vneed_true _ _).mono ?_
    rintro e wz ⟨rfl, rfl⟩
    go_wp2_with fail
    refine HRG.out.mono ?_
    rintro e w7 ⟨rfl, hb7⟩
    have HB7 := hid (below_next HB6.out hb7)
    have HBM7 := hid (below_next HBM6.out hb7)
    have HBN7 := hid (below_next HBN6.out hb7)
    clear hb7
    clear v0 v1 v2 v3 q0 q1 q2 q3 q4
    have v0 := (HBV.out.below HB7.out).cell 0 rfl
    have v1 := (HBV.out.below HB7.out).cell 1 rfl
    have v2 := (HBV.out.below HB7.out).cell 2 rfl
    have v3 := (HBV.out.below HB7.out).cell 3 rfl
    have q0 := (HBM.out.below HBM7.out).cell 0 rfl
    have q1 := (HBM.out.below HBM7.out).cell 1 rfl
    have q2 := (HBM.out.below HBM7.out).cell 2 rfl
    have q3 := (HBM.out.below HBM7.out).cell 3 rfl
    have q4 := (HBM.out.below HBM7.out).cell 4 rfl
    cases h2 : rangeB κ cs g.i g.t with
    | false =>
      have hEc : E = 4 := by
        rw [HE.out]
        unfold ownE
        rw [h1, if_neg (by decide), h2, if_pos rfl]
      obtain rfl : RES = .panicked (errp 4) := by
        rw [HRES.out, if_neg (show ¬ E = 0 by omega), hEc]
        rfl
      clear HRES
      go_wp2_with fail
      refine (vneed_false 4 _).mono ?_
      rintro e w9 ⟨rfl, rfl⟩
      exact ⟨rfl, HBN7.out, rfl⟩

    | true =>
      have HWH := hid (whole_any κ s ao af ac mo co mf cf mc cc g.i g.u g.t a1 m1 c1 w7)
      go_wp2_with fail
      refine (vneed_true _ _).mono ?_
      rintro e wz ⟨rfl, rfl⟩
      go_wp2_with fail
      refine HWH.out.mono ?_
      rintro e w8 ⟨rfl, hb8⟩
      have HB8 := hid (below_next HB7.out hb8)
      have HBM8 := hid (below_next HBM7.out hb8)
      have HBN8 := hid (below_next HBN7.out hb8)
      clear hb8
      clear v0 v1 v2 v3 q0 q1 q2 q3 q4
      have v0 := (HBV.out.below HB8.out).cell 0 rfl
      have v1 := (HBV.out.below HB8.out).cell 1 rfl
      have v2 := (HBV.out.below HB8.out).cell 2 rfl
      have v3 := (HBV.out.below HB8.out).cell 3 rfl
      have q0 := (HBM.out.below HBM8.out).cell 0 rfl
      have q1 := (HBM.out.below HBM8.out).cell 1 rfl
      have q2 := (HBM.out.below HBM8.out).cell 2 rfl
      have q3 := (HBM.out.below HBM8.out).cell 3 rfl
      have q4 := (HBM.out.below HBM8.out).cell 4 rfl
      cases h3 : wholeB κ mf m1 with
      | false =>
        rw [HMF.out, HM1.out] at h3
        have hEc : E = 3 := by
          rw [HE.out]
          unfold ownE
          rw [h1, if_neg (by decide), h2, if_neg (by decide), h3, if_pos rfl]
        obtain rfl : RES = .panicked (errp 3) := by
          rw [HRES.out, if_neg (show ¬ E = 0 by omega), hEc]
          rfl
        clear HRES
        go_wp2_with fail
        refine (vneed_false 3 _).mono ?_
        rintro e w9 ⟨rfl, rfl⟩
        exact ⟨rfl, HBN8.out, rfl⟩

      | true =>
        rw [HMF.out, HM1.out] at h3
        have HUN := hid (unused_any κ ⟨hκ1, hκ2, hκ8⟩ s ao af ac mo co mf cf mc cc g.i g.u g.t a1 m1 c1 w8)
        go_wp2_with fail
        refine (vneed_true _ _).mono ?_
        rintro e wz ⟨rfl, rfl⟩
        go_wp2_with fail
        refine HUN.out.mono ?_
        rintro e w9 ⟨rfl, hb9⟩
        have HB9 := hid (below_next HB8.out hb9)
        have HBM9 := hid (below_next HBM8.out hb9)
        have HBN9 := hid (below_next HBN8.out hb9)
        clear hb9
        clear v0 v1 v2 v3 q0 q1 q2 q3 q4
        have v0 := (HBV.out.below HB9.out).cell 0 rfl
        have v1 := (HBV.out.below HB9.out).cell 1 rfl
        have v2 := (HBV.out.below HB9.out).cell 2 rfl
        have v3 := (HBV.out.below HB9.out).cell 3 rfl
        have q0 := (HBM.out.below HBM9.out).cell 0 rfl
        have q1 := (HBM.out.below HBM9.out).cell 1 rfl
        have q2 := (HBM.out.below HBM9.out).cell 2 rfl
        have q3 := (HBM.out.below HBM9.out).cell 3 rfl
        have q4 := (HBM.out.below HBM9.out).cell 4 rfl
        have hVu : VyS B 65536 (unusedG κ g).l w9 (uO κ (.slice a1 m1 c1)) := by
          unfold unusedG uO
          simp only [Pl.GV.l]
          split
          · exact VyS.nil _ _ _
          · exact VyS.upto (by omega) _ _ _ (HV.out w9 HB9.out)
        have HSM := hid (Same_any B (unusedG κ g) zeroV (uO κ (.slice a1 m1 c1)) (.slice none 0 0) w9 hVu (VyS.nil _ _ _) (HBW.out w9 HB9.out))
        obtain ⟨ua, um, uc, hus⟩ := hVu.shape
        rw [hus] at HSM ⊢
        have HSM2 : Hid (Calls Tryz.prog 15 #[.agg #[.int .i64 (uI κ g.i), .int .u64 (uU κ g.u), .string (uT κ g.t), .slice ua um uc], .agg #[.int .i64 0, .int .u64 0, .string ⟨#[]⟩, .slice none 0 0]] w9 fun e w' => e = .returned (.bool (cmpV 65536 (unusedG κ g) zeroV == 0)) ∧ Below w9.heap.size w9 w') := HSM.out
        clear hus hVu HSM HUN HWH HRG
        go_wp2_with fail
        refine HSM2.out.mono ?_
        rintro e w10 ⟨rfl, hb10⟩
        have HB10 := hid (below_next HB9.out hb10)
        have HBM10 := hid (below_next HBM9.out hb10)
        have HBN10 := hid (below_next HBN9.out hb10)
        clear hb10
        clear v0 v1 v2 v3 q0 q1 q2 q3 q4
        have v0 := (HBV.out.below HB10.out).cell 0 rfl
        have v1 := (HBV.out.below HB10.out).cell 1 rfl
        have v2 := (HBV.out.below HB10.out).cell 2 rfl
        have v3 := (HBV.out.below HB10.out).cell 3 rfl
        have q0 := (HBM.out.below HBM10.out).cell 0 rfl
        have q1 := (HBM.out.below HBM10.out).cell 1 rfl
        have q2 := (HBM.out.below HBM10.out).cell 2 rfl
        have q3 := (HBM.out.below HBM10.out).cell 3 rfl
        have q4 := (HBM.out.below HBM10.out).cell 4 rfl
        by_cases h4 : cmpV 65536 (unusedG κ g) zeroV = 0
        · rw [show (cmpV 65536 (unusedG κ g) zeroV == 0) = true by simp [h4]]
          go_wp2_with fail
          refine (vneed_true _ _).mono ?_
          rintro e wz ⟨rfl, rfl⟩
          have hE0 : E = 0 := by
            rw [HE.out]
            unfold ownE
            rw [h1, if_neg (by decide), h2, if_neg (by decide), h3, if_neg (by decide), if_pos h4]
          have HPA := hid (HPART.out hE0)
          have HRA := hid (HREC.out hE0)
          obtain ⟨R, hR⟩ : ∃ R, R = partsV V 0 g.l := ⟨_, rfl⟩
          obtain rfl : RES = EndE R := by rw [HRES.out, if_pos hE0, hR]
          clear HRES HPART HREC
          have HR := hid hR
          have HM2 : Hid (m1 = g.l.length) := HM1.out
          have hm63 : m1 ≤ 9223372036854775807 := (HV.out _ HB10.out).len.2
          clear hR hE0 h1 h2 h3 h4
          go_wp2_with fail
          clear v0 v1 v2 v3 q0 q1 q2 q3 q4
          go_loopw [34] (fun i wr => ∃ j : Nat, j ≤ m1 ∧ i = .int .i64 j ∧ Hid (partsV V j (g.l.drop j) = R) ∧ Below wz.heap.size wz wr) (fun i _ => m1 - (intOf i).toNat)
          case atStart => exact ⟨0, Nat.zero_le _, rfl, HR.out.symm, Below.refl _ _⟩
          case round =>
            obtain ⟨j, hj, rfl, HJ, hbw⟩ := hrel
            have hb10 := below_next HB10.out hbw
            have hbm := below_next HBM10.out hbw
            have hbn := below_next HBN10.out hbw
            by_cases hlt : j < m1
            · obtain ⟨x, hx⟩ : ∃ x, g.l[j]? = some x := ⟨g.l[j]'(by rw [← HM2.out]; exact hlt), by simp⟩
              obtain ⟨blk, off, xa, xm, xc, rfl, hblk, z0, z1, z2, z3, z4⟩ := (HV.out _ hb10).cells hx
              have hdr : g.l.drop j = x :: g.l.drop (j + 1) := by
                rw [List.drop_eq_getElem_cons (by rw [← HM2.out]; exact hlt)]
                congr 1
                exact (List.getElem?_eq_some_iff.1 hx).2
              have hJ := HJ.out
              rw [hdr, partsV_cons] at hJ
              have HJJ := hid hJ
              have hba := below_alloc wr (.cells #[.int .i64 x.i, .int .u64 x.u, .string x.t, .slice xa xm xc] 33)
              obtain ⟨wa, hwa⟩ : ∃ wa, wa = wr.alloc (.cells #[.int .i64 x.i, .int .u64 x.u, .string x.t, .slice xa xm xc] 33) := ⟨_, rfl⟩
              rw [← hwa] at hba
              have HBX : Hid (Bx wa wr.heap.size [.int .i64 x.i, .int .u64 x.u, .string x.t, .slice xa xm xc] 33) := by rw [hwa]; exact Bx.new wr _ _
              have HBA10 := hid (below_next hb10 hba)
              have HBAM := hid (below_next hbm hba)
              have HBAN := hid (below_next hbn hba)
              have HOP := hid (fun W (hW : Below wa.heap.size wa W) => HPA.out j x hx W (.slice af mf cf) (.slice ac mc cc) (below_next HBAN.out hW) (HRF.out.below (below_next HBAM.out hW) (fun _ _ h => FldG.below (below_next HBAM.out hW) _ _ h)) (HRC.out.below (below_next HBAM.out hW) (fun _ _ h => h)))
              have HRX := hid (fun W (hW : Below wa.heap.size wa W) pk ps pa pm pc hty => HRA.out j x hx W pk ps pa pm pc xa xm xc (below_next HBAN.out hW) hty (VyS.bel ((below_next hba hW).mono (HBW.out wr hb10)) _ _ _ z4))
              have v0 := (HBT.out.below HBA10.out).cell 0 rfl
              have v1 := (HBT.out.below HBA10.out).cell 1 rfl
              have v2 := (HBT.out.below HBA10.out).cell 2 rfl
              have q0 := (HBM.out.below HBAM.out).cell 0 rfl
              have q1 := (HBM.out.below HBAM.out).cell 1 rfl
              have q2 := (HBM.out.below HBAM.out).cell 2 rfl
              have q3 := (HBM.out.below HBAM.out).cell 3 rfl
              have q4 := (HBM.out.below HBAM.out).cell 4 rfl
              have x0 := HBX.out.cell 0 rfl
              have x1 := HBX.out.cell 1 rfl
              have x2 := HBX.out.cell 2 rfl
              have x3 := HBX.out.cell 3 rfl
              have HWA := hid hwa
              have hbwa := below_next hbw hba
              have HBWA := hid hbwa
              generalize V j x = vx at *
              clear hbw hb10 hbm hbn hx hdr hJ z4 hba hwa hbwa HJ
              by_cases hvx : vx = 0
              · subst hvx
                have hJ := HJJ.out
                rw [if_pos rfl] at hJ
                have HJ2 := hid hJ
                rw [EndE_zero] at HRX
                clear hJ HJJ
                go_wp2_with fail
                rw [← HWA.out]
                go_region_with (first | (go_at_call 60; refine (HOP.out _ (Below.refl _ _).drew).mono ?_; rintro e wp ⟨pk, ps, pa, pm, pc, rfl, hty, hbp⟩; have HBP := hid ((Below.refl _ _).drew.trans hbp); have HTY := hid hty; have y0 := (HBT.out.below (below_next HBA10.out HBP.out)).cell 0 rfl; have y1 := (HBT.out.below (below_next HBA10.out HBP.out)).cell 1 rfl; have y2 := (HBT.out.below (below_next HBA10.out HBP.out)).cell 2 rfl; have y3 := (HBX.out.below HBP.out).cell 0 rfl; have y4 := (HBX.out.below HBP.out).cell 1 rfl; have y5 := (HBX.out.below HBP.out).cell 2 rfl; have y6 := (HBX.out.below HBP.out).cell 3 rfl; clear hbp hty) | (go_at_call 38; refine (HRX.out _ HBP.out _ _ _ _ _ HTY.out).mono ?_; rintro e wq ⟨hbq, rfl⟩; have HBQ := hid (below_next HBWA.out (below_next HBP.out hbq)); clear hbq))
                all_goals
                  go_wp2
                  exact ⟨⟨j + 1, by omega, by go_num, HJ2.out, HBQ.out⟩, by simp [intOf]; omega⟩
              · have hJ := HJJ.out
                rw [if_neg hvx] at hJ
                subst hJ
                rw [EndE_ne hvx] at HRX
                have HENE := hid (EndE_ne hvx)
                have ltt := HBT.out.below HBA10.out |>.lt
                have ltm := HBM.out.below HBAM.out |>.lt
                have ltx := HBX.out.lt
                clear HJJ
                go_wp2_with fail
                rw [← HWA.out]
                refine wp_region_drawn2 (pred := fun jx v W => match jx with | 0 => v = .agg #[.slice b1 l1 d1, .slice b2 l2 d2, .slice b3 l3 d3] | 1 => v = .agg #[.int .i64 κ, .string s, .slice ao mo co, .slice af mf cf, .slice ac mc cc] | 2 => v = .int .i64 j | 3 => ∃ pk ps pa pm pc, v = .agg #[.int .i64 pk, .string ps, .slice pa pm pc] ∧ TyG W (partT fs t j) (.int .i64 pk) (.string ps) (.slice pa pm pc) | 4 => v = .agg #[.int .i64 x.i, .int .u64 x.u, .string x.t, .slice xa xm xc] | 5 => False | _ => True) (R := fun W => Below wa.heap.size wa W) (by kernel_rfl) (by kernel_rfl) (by kernel_rfl) (fun i v W W' h hb => ?mono) (Below.drew (Below.refl _ _)) ?step ?done
                case mono =>
                  rcases i with _ | _ | _ | _ | _ | _ | i
                  · exact h
                  · exact h
                  · exact h
                  · obtain ⟨pk, ps, pa, pm, pc, h1, h2⟩ := h
                    exact ⟨pk, ps, pa, pm, pc, h1, TyG.below hb _ _ _ _ h2⟩
                  · exact h
                  · exact h
                  · exact trivial
                case step =>
                  intro ix o ho A W hsz hdf hfr hdep hR
                  rcases ix with _ | _ | _ | _ | _ | _ | ix
                  · injection ho with ho
                    subst ho
                    have e3 : A.eval (.tmp 3) = .pointer (some ⟨w.heap.size, 0, none⟩) := (hfr 3 (noDst_spec (by kernel_rfl))).trans rfl
                    have y0 := (hR.cell ltt).trans v0
                    have y1 := (hR.cell ltt).trans v1
                    have y2 := (hR.cell ltt).trans v2
                    exact gOp_ld (v := .agg #[.slice b1 l1 d1, .slice b2 l2 d2, .slice b3 l3 d3]) rfl (wanted_plain rfl) rfl e3 (by go_simp) ⟨_, rfl, rfl, Below.refl _ _, hR⟩
                  · injection ho with ho
                    subst ho
                    have e6 : A.eval (.tmp 6) = .pointer (some ⟨w4.heap.size, 0, none⟩) := (hfr 6 (noDst_spec (by kernel_rfl))).trans rfl
                    have y0 := (hR.cell ltm).trans q0
                    have y1 := (hR.cell ltm).trans q1
                    have y2 := (hR.cell ltm).trans q2
                    have y3 := (hR.cell ltm).trans q3
                    have y4 := (hR.cell ltm).trans q4
                    exact gOp_ld (v := .agg #[.int .i64 κ, .string s, .slice ao mo co, .slice af mf cf, .slice ac mc cc]) rfl (wanted_plain rfl) rfl e6 (by go_simp) ⟨_, rfl, rfl, Below.refl _ _, hR⟩
                  · injection ho with ho
                    subst ho
                    have e7 : A.eval (.tmp 7) = .int .i64 j := (hfr 7 (noDst_spec (by kernel_rfl))).trans rfl
                    exact gOp_mv rfl (wanted_plain rfl) (.inl rfl) e7 ⟨_, rfl, rfl, Below.refl _ _, hR⟩
                  · injection ho with ho
                    subst ho
                    have e40 : A.eval (.tmp 40) = .agg #[.int .i64 κ, .string s, .slice ao mo co, .slice af mf cf, .slice ac mc cc] := hdep ⟨1, .data⟩ (by simp) rfl _ _ rfl rfl
                    have e41 : A.eval (.tmp 41) = .int .i64 j := hdep ⟨2, .data⟩ (by simp) rfl _ _ rfl rfl
                    refine gOp_enter rfl (wanted_plain rfl) 60 #[.agg #[.int .i64 κ, .string s, .slice ao mo co, .slice af mf cf, .slice ac mc cc], .int .i64 j] (run_call _ (fun _ _ => rfl) _ _ rfl _ (by simp [e40, e41])) ?_
                    refine (HOP.out W hR).mono ?_
                    rintro e w' ⟨pk, ps, pa, pm, pc, rfl, hty, hb'⟩
                    exact ⟨_, rfl, _, rfl, ⟨pk, ps, pa, pm, pc, rfl, hty⟩, hb', below_next hR hb'⟩
                  · injection ho with ho
                    subst ho
                    have e8 : A.eval (.tmp 8) = .pointer (some ⟨wr.heap.size, 0, none⟩) := (hfr 8 (noDst_spec (by kernel_rfl))).trans rfl
                    have y0 := (hR.cell ltx).trans x0
                    have y1 := (hR.cell ltx).trans x1
                    have y2 := (hR.cell ltx).trans x2
                    have y3 := (hR.cell ltx).trans x3
                    exact gOp_ld (v := .agg #[.int .i64 x.i, .int .u64 x.u, .string x.t, .slice xa xm xc]) rfl (wanted_plain rfl) rfl e8 (by go_simp) ⟨_, rfl, rfl, Below.refl _ _, hR⟩
                  · injection ho with ho
                    subst ho
                    have e39 : A.eval (.tmp 39) = .agg #[.slice b1 l1 d1, .slice b2 l2 d2, .slice b3 l3 d3] := hdep ⟨0, .data⟩ (by simp) rfl _ _ rfl rfl
                    obtain ⟨pk, ps, pa, pm, pc, e42, hx42⟩ : ∃ pk ps pa pm pc, A.eval (.tmp 42) = .agg #[.int .i64 pk, .string ps, .slice pa pm pc] ∧ TyG W (partT fs t j) (.int .i64 pk) (.string ps) (.slice pa pm pc) := hdep ⟨3, .data⟩ (by simp) rfl _ _ rfl rfl
                    have e43 : A.eval (.tmp 43) = .agg #[.int .i64 x.i, .int .u64 x.u, .string x.t, .slice xa xm xc] := hdep ⟨4, .data⟩ (by simp) rfl _ _ rfl rfl
                    refine gOp_dies rfl (wanted_plain rfl) 38 #[.agg #[.slice b1 l1 d1, .slice b2 l2 d2, .slice b3 l3 d3], .agg #[.int .i64 pk, .string ps, .slice pa pm pc], .agg #[.int .i64 x.i, .int .u64 x.u, .string x.t, .slice xa xm xc]] (run_call _ (fun _ _ => rfl) _ _ rfl _ (by simp [e39, e42, e43])) ?_
                    refine (HRX.out W hR pk ps pa pm pc hx42).mono ?_
                    rintro e w5 ⟨hb5, rfl⟩
                    exact ⟨_, rfl, hdf, below_next HBAN.out (below_next hR hb5), HENE.out.symm⟩
                  · simp at ho
                case done =>
                  intro A W _ _ _ hcome _
                  exact (hcome 5 _ _ rfl rfl).elim
            · have hJ := HJ.out
              rw [List.drop_of_length_le (by rw [← HM2.out]; omega), partsV] at hJ
              subst hJ
              have hjI : ¬ (j : Int) < (m1 : Int) := by omega
              have HBN := hid hbn
              clear hbw hb10 hbm hbn
              go_wp2
              go_end0
              exact ⟨HBN.out, rfl⟩

        · rw [show (cmpV 65536 (unusedG κ g) zeroV == 0) = false by simp [h4]]
          have hEc : E = 9 := by
            rw [HE.out]
            unfold ownE
            rw [h1, if_neg (by decide), h2, if_neg (by decide), h3, if_neg (by decide), if_neg h4]
          obtain rfl : RES = .panicked (errp 9) := by
            rw [HRES.out, if_neg (show ¬ E = 0 by omega), hEc]
            rfl
          clear HRES
          go_wp2_with fail
          refine (vneed_false 9 _).mono ?_
          rintro e w9 ⟨rfl, rfl⟩
          exact ⟨rfl, HBN10.out, rfl⟩

end Go.Proofs.YtmiohekmpjiloaaGreatDoor

namespace Go.Proofs.YtmiohekmpjiloaaGreatDoor
open Go.RowKit
set_option maxRecDepth 20000

theorem own_zero {κ : Int} {fs : List Pl.Fld} {cs : List Pl.Cas} {g : Pl.GV} (h : ownE κ fs cs g = 0) : wholeB κ fs.length g.l.length = true ∧ (unusedG κ g).l = [] := by
  unfold ownE at h
  split at h
  · omega
  · split at h
    · omega
    · split at h
      · omega
      · rename_i h3
        split at h
        · rename_i h4
          exact ⟨by simpa using h3, cmpV_nil (n := 65535) h4⟩
        · omega
theorem own_leaf {κ : Int} {fs : List Pl.Fld} {cs : List Pl.Cas} {g : Pl.GV} (h : ownE κ fs cs g = 0) (hκ : ¬ (κ = 6 ∨ κ = 7 ∨ κ = 9)) : g.l = [] := by
  have := (own_zero h).2
  unfold unusedG at this
  simp only [Pl.GV.l] at this
  rwa [if_neg hκ] at this

theorem part_ok {st : List (List Nat × List Pl.Fld)} {en : List (List Nat × List Pl.Cas)} {sv : List (List Nat × List Pl.Mth)} (hC : Closed st en sv) {t : Pl.Ty} (ho : Pl.okTy t) (hk : knP (fnd st en sv) t = true) {g : Pl.GV} (h : ownE (kindM (fnd st en sv) t) (fldsM st (fnd st en sv) t) (cassM en (fnd st en sv) t) g = 0) {j : Nat} {x : Pl.GV} (hx : g.l[j]? = some x) : Pl.okTy (partT (fldsM st (fnd st en sv) t) t j) ∧ knP (fnd st en sv) (partT (fldsM st (fnd st en sv) t) t j) = true := by
  cases t with
  | plain q =>
    have := own_leaf h (by have := ho.1; have := ho.2; simp only [kindM, kindOf]; omega)
    rw [this] at hx
    simp at hx
  | list t => exact ⟨ho, hk⟩
  | opt t => exact ⟨ho, hk⟩
  | named y =>
    by_cases h1 : (fnd st en sv y).1 = 1
    · have hw := (own_zero h).1
      simp only [kindM, if_pos h1] at hw
      have hl : g.l.length = (fldsM st (fnd st en sv) (.named y)).length := by simpa [wholeB] using hw
      have hj : j < (fldsM st (fnd st en sv) (.named y)).length := by rw [← hl]; exact (List.getElem?_eq_some_iff.1 hx).1
      obtain ⟨f, hf⟩ : ∃ f, (fldsM st (fnd st en sv) (.named y))[j]? = some f := ⟨_, List.getElem?_eq_getElem hj⟩
      simp only [partT, hf, Option.getD_some]
      obtain ⟨i, a, hi, _, hfi⟩ := fnd_one h1
      simp only [fldsM, if_pos h1, hfi, Int.toNat_natCast, hi, Option.getD_some] at hf
      exact hC.fld a (List.mem_of_getElem? hi) f (List.mem_of_getElem? hf)
    · have := own_leaf h (by simp only [kindM, if_neg h1]; split <;> omega)
      rw [this] at hx
      simp at hx

theorem ofPart_any {st : List (List Nat × List Pl.Fld)} {en : List (List Nat × List Pl.Cas)} {sv : List (List Nat × List Pl.Mth)} {t : Pl.Ty} (ho : Pl.okTy t) {g : Pl.GV} (h : ownE (kindM (fnd st en sv) t) (fldsM st (fnd st en sv) t) (cassM en (fnd st en sv) t) g = 0) {k : Int} {s : ByteArray} {ao : Option Addr} {mo co : Nat} {j : Nat} {x : Pl.GV} (hx : g.l[j]? = some x) {W : World} (hT : TyG W t (.int .i64 k) (.string s) (.slice ao mo co)) {vf vc : Value} (hf : Rw 5 FldG W vf (fldsM st (fnd st en sv) t)) (hc : Rw 2 CasG W vc (cassM en (fnd st en sv) t)) :
    Calls Tryz.prog 60 #[.agg #[.int .i64 (kindM (fnd st en sv) t), .string s, .slice ao mo co, vf, vc], .int .i64 j] W fun e w' => ∃ pk ps pa pm pc, e = .returned (.agg #[.int .i64 pk, .string ps, .slice pa pm pc]) ∧ TyG w' (partT (fldsM st (fnd st en sv) t) t j) (.int .i64 pk) (.string ps) (.slice pa pm pc) ∧ Below W.heap.size W w' := by
  obtain ⟨af, cf, rfl⟩ := hf.shape
  obtain ⟨ac, cc, rfl⟩ := hc.shape
  cases t with
  | plain q =>
    have := own_leaf h (by have := ho.1; have := ho.2; simp only [kindM, kindOf]; omega)
    rw [this] at hx
    simp at hx
  | list t =>
    obtain ⟨_, _, g', off, cp, x', y', z', hs, hg, h0, h1, h2, ht⟩ := hT
    cases hs
    exact ofPart_one 6 (by decide) t g' off _ x' y' z' j s af ac _ cf _ cc W hg h0 h1 h2 ht
  | opt t =>
    obtain ⟨_, _, g', off, cp, x', y', z', hs, hg, h0, h1, h2, ht⟩ := hT
    cases hs
    exact ofPart_one 7 (by decide) t g' off _ x' y' z' j s af ac _ cf _ cc W hg h0 h1 h2 ht
  | named y =>
    by_cases h1 : (fnd st en sv y).1 = 1
    · have hw := (own_zero h).1
      simp only [kindM, if_pos h1] at hw
      have hl : g.l.length = (fldsM st (fnd st en sv) (.named y)).length := by simpa [wholeB] using hw
      have hj : j < (fldsM st (fnd st en sv) (.named y)).length := by rw [← hl]; exact (List.getElem?_eq_some_iff.1 hx).1
      obtain ⟨f, hff⟩ : ∃ f, (fldsM st (fnd st en sv) (.named y))[j]? = some f := ⟨_, List.getElem?_eq_getElem hj⟩
      have hp : partT (fldsM st (fnd st en sv) (.named y)) (.named y) j = f.ty := by simp only [partT, hff, Option.getD_some]
      rw [hp]
      simp only [kindM, if_pos h1]
      exact ofPart_struct _ j f hff s ao ac mo co _ cc _ W hf
    · have := own_leaf h (by simp only [kindM, if_neg h1]; split <;> omega)
      rw [this] at hx
      simp at hx

theorem checkValue_any (st : List (List Nat × List Pl.Fld)) (en : List (List Nat × List Pl.Cas)) (sv : List (List Nat × List Pl.Mth)) (hC : Closed st en sv) (B : Nat) (n : Nat) : ∀ (t : Pl.Ty) (g : Pl.GV) (s1 s2 s3 : Value) (k : Int) (s : ByteArray) (ao : Option Addr) (mo co : Nat) (a1 : Option Addr) (m1 c1 : Nat) (w : World), Pl.okTy t → knP (fnd st en sv) t = true → DV n g → SchG st en sv s1 s2 s3 w → TyG w t (.int .i64 k) (.string s) (.slice ao mo co) → VyS B (65536 + n) g.l w (.slice a1 m1 c1) → B ≤ w.heap.size →
    Calls Tryz.prog 38 #[.agg #[s1, s2, s3], .agg #[.int .i64 k, .string s, .slice ao mo co], .agg #[.int .i64 g.i, .int .u64 g.u, .string g.t, .slice a1 m1 c1]] w fun e w' => Below w.heap.size w w' ∧ e = EndE (valE st en (fnd st en sv) n t g) := by
  induction n with
  | zero => intro t g _ _ _ _ _ _ _ _ _ _ _ _ _ _ hd; exact hd.elim
  | succ n ih =>
    intro t g s1 s2 s3 k s ao mo co a1 m1 c1 w ho hk hd hS hT hV hB
    refine chk_step st en sv hC t ho hk s1 s2 s3 k s ao mo co B g a1 m1 c1 w hS hT (65536 + n) (by omega) hV hB (fun j x => valE st en (fnd st en sv) n (partT (fldsM st (fnd st en sv) t) t j) x) ?_ ?_
    · intro h0 j x hx W vf vc hW hf hc
      exact ofPart_any ho h0 hx (TyG.below hW _ _ _ _ hT) hf hc
    · intro h0 j x hx W pk ps pa pm pc xa xm xc hW hty hVx
      obtain ⟨hop, hkp⟩ := part_ok hC ho hk h0 hx
      exact ih _ x s1 s2 s3 pk ps pa pm pc xa xm xc W hop hkp (hd x (List.mem_of_getElem? hx)) (hS.below hW) hty hVx (Nat.le_trans hB hW.size)
end Go.Proofs.YtmiohekmpjiloaaGreatDoor

namespace Go.Proofs.YtmiohekmpjiloaaGreatDoor
open Go.RowKit
set_option maxRecDepth 20000

def wraps : Pl.Ty → Nat
  | .list t => 1 + wraps t
  | .opt t => 1 + wraps t
  | _ => 0
def inmost : Pl.Ty → Pl.Ty
  | .list t => inmost t
  | .opt t => inmost t
  | t => t
/-- How many steps down a type's first one goes, as it lies. -/
def chn : Nat → World → Option Value → Option Value → Nat
  | 0, _, _, _ => 0
  | n + 1, W, a, c => match a, c with
    | some (.int .i64 k), some (.slice (some ⟨g, off, none⟩) _ _) => if k = 6 ∨ k = 7 then 1 + chn n W (W.cell? ⟨g, off, none⟩) (W.cell? ⟨g, off + 2, none⟩) else 0
    | _, _ => 0
theorem chn_flat (n : Nat) (W : World) (k : Int) (c : Option Value) (h : ¬ (k = 6 ∨ k = 7)) : chn n W (some (.int .i64 k)) c = 0 := by
  cases n with
  | zero => rfl
  | succ n =>
    simp only [chn]
    split <;> simp_all
theorem chn_ty {w W : World} (hb : Below w.heap.size w W) (t : Pl.Ty) : ∀ (n : Nat) (a b c : Value), Pl.okTy t → TyG w t a b c → wraps t ≤ n → chn n W (some a) (some c) = wraps t := by
  induction t with
  | plain k =>
    intro n a b c ho h _
    obtain ⟨rfl, _⟩ := TyG.parts h
    have := ho.2
    exact chn_flat n W _ _ (by simp only [kindOf]; omega)
  | named x =>
    intro n a b c ho h _
    obtain ⟨rfl, _⟩ := TyG.parts h
    exact chn_flat n W _ _ (by simp only [kindOf]; omega)
  | list t ih =>
    intro n a b c ho h hn
    obtain ⟨rfl, _, g, off, cp, x, y, z, rfl, hg, h0, h1, h2, ht⟩ := h
    simp only [wraps] at hn ⊢
    obtain ⟨n, rfl⟩ : ∃ m, n = m + 1 := ⟨n - 1, by omega⟩
    simp only [chn]
    rw [if_pos (.inl trivial), hb.cell hg, hb.cell hg, h0, h2, ih n x y z ho ht (by omega)]
  | opt t ih =>
    intro n a b c ho h hn
    obtain ⟨rfl, _, g, off, cp, x, y, z, rfl, hg, h0, h1, h2, ht⟩ := h
    simp only [wraps] at hn ⊢
    obtain ⟨n, rfl⟩ : ∃ m, n = m + 1 := ⟨n - 1, by omega⟩
    simp only [chn]
    rw [if_pos (.inr trivial), hb.cell hg, hb.cell hg, h0, h2, ih n x y z ho ht (by omega)]
theorem wraps_le (t : Pl.Ty) : wraps t ≤ Pl.tyD t := by
  induction t with
  | plain k => exact Nat.zero_le _
  | named x => exact Nat.zero_le _
  | list t ih => simp only [wraps, Pl.tyD]; omega
  | opt t ih => simp only [wraps, Pl.tyD]; omega

set_option maxHeartbeats 8000000 in
theorem innermost_any (t : Pl.Ty) (ho : Pl.okTy t) (hd : Pl.tyD t ≤ 8) (k : Int) (s : ByteArray) (ao : Option Addr) (mo co : Nat) (w : World) (hT : TyG w t (.int .i64 k) (.string s) (.slice ao mo co)) :
    Calls Tryz.prog 53 #[.agg #[.int .i64 k, .string s, .slice ao mo co]] w fun e w' => ∃ k' s' a m c, e = .returned (.agg #[.int .i64 k', .string s', .slice a m c]) ∧ TyG w' (inmost t) (.int .i64 k') (.string s') (.slice a m c) ∧ Below w.heap.size w w' := by
  obtain ⟨w2, hw2⟩ : ∃ w2, w2 = (w.alloc (.cells #[.int .i64 k, .string s, .slice ao mo co] 29)).alloc (.cells #[.int .i64 0, .string ⟨#[]⟩, .slice none 0 0] 29) := ⟨_, rfl⟩
  have hb2 : Below w.heap.size w w2 := by rw [hw2]; exact below_next (below_alloc w _) (below_alloc _ _)
  have hB1 : Bx w2 w.heap.size [.int .i64 k, .string s, .slice ao mo co] 29 := by rw [hw2]; exact (Bx.new w _ _).below (below_alloc _ _)
  have hB2 : Bx w2 (w.heap.size + 1) [.int .i64 0, .string ⟨#[]⟩, .slice none 0 0] 29 := by rw [hw2]; exact Bx.newAt (by simp) _ _
  have HW2 := hid hw2
  have HB1 := hid hB1
  have HB2 := hid hB2
  have Hb2 := hid hb2
  have HT := hid hT
  have HO := hid ho
  have HD := hid hd
  clear hw2 hb2 hB1 hB2 hT ho hd
  go_enter Tryz.func53, Tryz.ntmps53
  go_wp2_with fail
  rw [← HW2.out]
  go_loopw [] (fun wr => ∃ (u : Pl.Ty) (k' : Int) (s' : ByteArray) (a' : Option Addr) (m' c' : Nat), Hid (inmost u = inmost t ∧ Pl.okTy u ∧ Pl.tyD u ≤ 8 ∧ TyG w u (.int .i64 k') (.string s') (.slice a' m' c') ∧ Bx wr w.heap.size [.int .i64 k', .string s', .slice a' m' c'] 29 ∧ Bx wr (w.heap.size + 1) [.int .i64 0, .string ⟨#[]⟩, .slice none 0 0] 29 ∧ Below w.heap.size w wr)) (fun wr => chn 20 wr (wr.cell? ⟨w.heap.size, 0, none⟩) (wr.cell? ⟨w.heap.size, 2, none⟩))
  case atStart => exact ⟨t, _, _, _, _, _, rfl, HO.out, HD.out, HT.out, HB1.out, HB2.out, Hb2.out⟩
  case round =>
    obtain ⟨u, k', s', a', m', c', hu⟩ := hrel
    obtain ⟨h1, h2, h3, h4, h5, h6, h7⟩ := hu.out
    have x0 := h5.cell 0 rfl
    have x1 := h5.cell 1 rfl
    have x2 := h5.cell 2 rfl
    have xf := h5.frozen
    have hlt := h5.lt
    have HMU : Hid (chn 20 wr (wr.cell? ⟨w.heap.size, 0, none⟩) (wr.cell? ⟨w.heap.size, 2, none⟩) = wraps u) := by
      show _ = _
      rw [x0, x2]
      exact chn_ty h7 u 20 _ _ _ h2 h4 (by have := wraps_le u; omega)
    have step : ∀ (v : Pl.Ty) (g off : Nat) (x y z : Value), inmost v = inmost t → Pl.okTy v → Pl.tyD v ≤ 8 → wraps u = 1 + wraps v → a' = some ⟨g, off, none⟩ → g < w.heap.size → w.cell? ⟨g, off, none⟩ = some x → w.cell? ⟨g, off + 1, none⟩ = some y → w.cell? ⟨g, off + 2, none⟩ = some z → TyG w v x y z → ∃ (k2 : Int) (s2 : ByteArray) (a2 : Option Addr) (m2 c2 : Nat), wr.cell? ⟨g, off, none⟩ = some (.int .i64 k2) ∧ wr.cell? ⟨g, off + 1, none⟩ = some (.string s2) ∧ wr.cell? ⟨g, off + 2, none⟩ = some (.slice a2 m2 c2) ∧ Hid ((∃ (u : Pl.Ty) (k' : Int) (s' : ByteArray) (a' : Option Addr) (m' c' : Nat), Hid (inmost u = inmost t ∧ Pl.okTy u ∧ Pl.tyD u ≤ 8 ∧ TyG w u (.int .i64 k') (.string s') (.slice a' m' c') ∧ Bx (((wr.setCell ⟨w.heap.size, 0, none⟩ (.int .i64 k2)).setCell ⟨w.heap.size, 1, none⟩ (.string s2)).setCell ⟨w.heap.size, 2, none⟩ (.slice a2 m2 c2)) w.heap.size [.int .i64 k', .string s', .slice a' m' c'] 29 ∧ Bx (((wr.setCell ⟨w.heap.size, 0, none⟩ (.int .i64 k2)).setCell ⟨w.heap.size, 1, none⟩ (.string s2)).setCell ⟨w.heap.size, 2, none⟩ (.slice a2 m2 c2)) (w.heap.size + 1) [.int .i64 0, .string ⟨#[]⟩, .slice none 0 0] 29 ∧ Below w.heap.size w (((wr.setCell ⟨w.heap.size, 0, none⟩ (.int .i64 k2)).setCell ⟨w.heap.size, 1, none⟩ (.string s2)).setCell ⟨w.heap.size, 2, none⟩ (.slice a2 m2 c2)))) ∧ chn 20 (((wr.setCell ⟨w.heap.size, 0, none⟩ (.int .i64 k2)).setCell ⟨w.heap.size, 1, none⟩ (.string s2)).setCell ⟨w.heap.size, 2, none⟩ (.slice a2 m2 c2)) ((((wr.setCell ⟨w.heap.size, 0, none⟩ (.int .i64 k2)).setCell ⟨w.heap.size, 1, none⟩ (.string s2)).setCell ⟨w.heap.size, 2, none⟩ (.slice a2 m2 c2)).cell? ⟨w.heap.size, 0, none⟩) ((((wr.setCell ⟨w.heap.size, 0, none⟩ (.int .i64 k2)).setCell ⟨w.heap.size, 1, none⟩ (.string s2)).setCell ⟨w.heap.size, 2, none⟩ (.slice a2 m2 c2)).cell? ⟨w.heap.size, 2, none⟩) < wraps u) := by
      intro v g off x y z e1 e2 e3 e4 e5 hg c0 c1 c2 hv
      obtain ⟨rfl, ⟨s2, rfl, _⟩, hof⟩ := TyG.parts hv
      obtain ⟨a2, m2, cc2, rfl⟩ : ∃ a m c, z = .slice a m c := by
        unfold OfG at hof
        split at hof
        · obtain ⟨_, _, rfl⟩ := hof; exact ⟨_, _, _, rfl⟩
        · obtain ⟨_, _, _, _, _, _, rfl, _⟩ := hof; exact ⟨_, _, _, rfl⟩
      have hX := ((h5.set 0 (.int .i64 (kindOf v))).set 1 (.string s2)).set 2 (.slice a2 m2 cc2)
      have hc : Ch (Xo w.heap.size) wr (((wr.setCell ⟨w.heap.size, 0, none⟩ (.int .i64 (kindOf v))).setCell ⟨w.heap.size, 1, none⟩ (.string s2)).setCell ⟨w.heap.size, 2, none⟩ (.slice a2 m2 cc2)) := ((Ch.set h5 rfl _).trans (Ch.set (h5.set 0 _) rfl _)).trans (Ch.set ((h5.set 0 _).set 1 _) rfl _)
      have hbb := ((h7.setCell (p := ⟨w.heap.size, 0, none⟩) (Nat.le_refl _) (.int .i64 (kindOf v))).setCell (p := ⟨w.heap.size, 1, none⟩) (Nat.le_refl _) (.string s2)).setCell (p := ⟨w.heap.size, 2, none⟩) (Nat.le_refl _) (.slice a2 m2 cc2)
      refine ⟨_, _, _, _, _, (h7.cell hg).trans c0, (h7.cell hg).trans c1, (h7.cell hg).trans c2, ⟨v, _, _, _, _, _, e1, e2, e3, hv, hX, h6.ch hc (show ¬ w.heap.size + 1 = w.heap.size by omega), hbb⟩, ?_⟩
      rw [hX.cell 0 rfl, hX.cell 2 rfl, chn_ty hbb v 20 _ _ _ e2 hv (by have := wraps_le v; omega)]
      omega
    cases u with
    | plain q =>
      have hne : inmost t = .plain q := h1.symm
      have hk : 1 ≤ k' ∧ (k' ≤ 5 ∨ k' = 8) := by
        have h0 := (TyG.parts h4).1
        injection h0 with _ h0
        subst h0
        have := h2.1; have := h2.2; simp only [kindOf]; omega
      have hq6 : (k' == 6) = false := by simp; omega
      have hq7 : (k' == 7) = false := by simp; omega
      have u0 := h6.cell 0 rfl
      have u1 := h6.cell 1 rfl
      have u2 := h6.cell 2 rfl
      have uf := h6.frozen
      have HR := hid (((h6.set 0 (.int .i64 k')).set 1 (.string s')).set 2 (.slice a' m' c'))
      have hbb := ((h7.setCell (p := ⟨w.heap.size + 1, 0, none⟩) (by simp only; omega) (.int .i64 k')).setCell (p := ⟨w.heap.size + 1, 1, none⟩) (by simp only; omega) (.string s')).setCell (p := ⟨w.heap.size + 1, 2, none⟩) (by simp only; omega) (.slice a' m' c')
      have HTY := hid (TyG.below hbb _ _ _ _ h4)
      have HBB := hid hbb
      have HNE := hid hne
      clear step h1 h2 h3 h4 h5 h6 h7 hu hbb hne hk HMU
      go_wp2_with fail
      refine bodyPost_ret (ret_inner rfl (HR.out.cell 0 rfl) (HR.out.cell 1 rfl) (HR.out.cell 2 rfl)) rfl ⟨_, _, _, _, _, rfl, ?_, HBB.out⟩
      rw [HNE.out]
      exact HTY.out
    | named q =>
      have hne : inmost t = .named q := h1.symm
      have hk : 1 ≤ k' ∧ (k' ≤ 5 ∨ k' = 8) := by
        have h0 := (TyG.parts h4).1
        injection h0 with _ h0
        subst h0
        simp [kindOf]
      have hq6 : (k' == 6) = false := by simp; omega
      have hq7 : (k' == 7) = false := by simp; omega
      have u0 := h6.cell 0 rfl
      have u1 := h6.cell 1 rfl
      have u2 := h6.cell 2 rfl
      have uf := h6.frozen
      have HR := hid (((h6.set 0 (.int .i64 k')).set 1 (.string s')).set 2 (.slice a' m' c'))
      have hbb := ((h7.setCell (p := ⟨w.heap.size + 1, 0, none⟩) (by simp only; omega) (.int .i64 k')).setCell (p := ⟨w.heap.size + 1, 1, none⟩) (by simp only; omega) (.string s')).setCell (p := ⟨w.heap.size + 1, 2, none⟩) (by simp only; omega) (.slice a' m' c')
      have HTY := hid (TyG.below hbb _ _ _ _ h4)
      have HBB := hid hbb
      have HNE := hid hne
      clear step h1 h2 h3 h4 h5 h6 h7 hu hbb hne hk HMU
      go_wp2_with fail
      refine bodyPost_ret (ret_inner rfl (HR.out.cell 0 rfl) (HR.out.cell 1 rfl) (HR.out.cell 2 rfl)) rfl ⟨_, _, _, _, _, rfl, ?_, HBB.out⟩
      rw [HNE.out]
      exact HTY.out
    | list v =>
      obtain ⟨hk6, _, g, off, cp, x, y, z, hsl, hg, c0, c1, c2, hv⟩ := h4
      cases hk6
      cases hsl
      simp only [Pl.tyD] at h3
      obtain ⟨k2, s2, a2, m2, cc2, r0, r1, r2, HFIN⟩ := step v g off x y z h1 h2 (by omega) rfl rfl hg c0 c1 c2 hv
      clear step c0 c1 c2 hv h1 h2 h3 h5 h6 h7 hu
      go_wp2
      rw [HMU.out]
      exact HFIN.out
    | opt v =>
      obtain ⟨hk6, _, g, off, cp, x, y, z, hsl, hg, c0, c1, c2, hv⟩ := h4
      cases hk6
      cases hsl
      simp only [Pl.tyD] at h3
      obtain ⟨k2, s2, a2, m2, cc2, r0, r1, r2, HFIN⟩ := step v g off x y z h1 h2 (by omega) rfl rfl hg c0 c1 c2 hv
      clear step c0 c1 c2 hv h1 h2 h3 h5 h6 h7 hu
      go_wp2
      rw [HMU.out]
      exact HFIN.out
end Go.Proofs.YtmiohekmpjiloaaGreatDoor

namespace Go.Proofs.YtmiohekmpjiloaaGreatDoor
open Go.RowKit
set_option maxRecDepth 20000

set_option maxHeartbeats 4000000 in
theorem checkType_sch (E : Int) (hE : E ≠ 0) (D : Option Sc) (s1 s2 s3 : Value) (k : Int) (s : ByteArray) (ao : Option Addr) (mo co : Nat) (w : World) (hS : ScOk w s1 s2 s3 E D) (ht : Tab w.heap.size w) :
    Calls Tryz.prog 29 #[.agg #[s1, s2, s3], .agg #[.int .i64 k, .string s, .slice ao mo co]] w fun e w' => Below w.heap.size w w' ∧ e = .panicked (errp E) := by
  obtain ⟨d1, l1, n1, d2, l2, n2, d3, l3, n3, rfl, rfl, rfl⟩ := hS.shape
  obtain ⟨w2, hw2⟩ : ∃ w2, w2 = (w.alloc (.cells #[.slice d1 l1 n1, .slice d2 l2 n2, .slice d3 l3 n3] 65)).alloc (.cells #[.int .i64 k, .string s, .slice ao mo co] 29) := ⟨_, rfl⟩
  have hb : Below w.heap.size w w2 := by rw [hw2]; exact below_next (below_alloc w _) (below_alloc _ _)
  have hB1 : Bx w2 w.heap.size [.slice d1 l1 n1, .slice d2 l2 n2, .slice d3 l3 n3] 65 := by rw [hw2]; exact (Bx.new w _ _).below (below_alloc _ _)
  have hB2 : Bx w2 (w.heap.size + 1) [.int .i64 k, .string s, .slice ao mo co] 29 := by rw [hw2]; exact Bx.newAt (by simp) _ _
  have HCK := hid (Check_any _ _ _ E _ w2 (hS.below hb) ((ht.below hb).up2 hb.size))
  have HB1 := hid hB1
  have HB2 := hid hB2
  have HB := hid hb
  have HW2 := hid hw2
  have y0 := hB1.cell 0 rfl
  have y1 := hB1.cell 1 rfl
  have y2 := hB1.cell 2 rfl
  have hq : (E == 0) = false := by simp [hE]
  clear hw2 hb hB1 hB2 hS ht
  go_enter Tryz.func29, Tryz.ntmps29
  go_wp2_with fail
  rw [← HW2.out]
  go_wp2_with fail
  refine HCK.out.mono ?_
  rintro e w3 ⟨rfl, hb3⟩
  have HB3 := hid hb3
  have HBN3 := hid (below_next HB.out hb3)
  clear y0 y1 y2 HCK
  clear hb3
  go_wp2_with fail
  refine (vneed_false E _).mono ?_
  rintro e w4 ⟨rfl, rfl⟩
  exact ⟨rfl, HBN3.out, rfl⟩

set_option maxHeartbeats 4000000 in
theorem checkType_shape (g : Pl.GT) (hg : Pl.shapeP g ≠ 0) (D : Option Sc) (s1 s2 s3 : Value) (k : Int) (s : ByteArray) (ao : Option Addr) (mo co : Nat) (w : World) (hS : ScOk w s1 s2 s3 0 D) (ht : Tab w.heap.size w) (hL : Ly w.heap.size 99 g w (.int .i64 k) (.string s) (.slice ao mo co)) :
    Calls Tryz.prog 29 #[.agg #[s1, s2, s3], .agg #[.int .i64 k, .string s, .slice ao mo co]] w fun e w' => Below w.heap.size w w' ∧ e = .panicked (errp (Pl.shapeP g : Int)) := by
  obtain ⟨E, hE0⟩ : ∃ E : Int, E = 0 := ⟨_, rfl⟩
  rw [← hE0] at hS
  obtain ⟨d1, l1, n1, d2, l2, n2, d3, l3, n3, rfl, rfl, rfl⟩ := hS.shape
  obtain ⟨w2, hw2⟩ : ∃ w2, w2 = (w.alloc (.cells #[.slice d1 l1 n1, .slice d2 l2 n2, .slice d3 l3 n3] 65)).alloc (.cells #[.int .i64 k, .string s, .slice ao mo co] 29) := ⟨_, rfl⟩
  have hb : Below w.heap.size w w2 := by rw [hw2]; exact below_next (below_alloc w _) (below_alloc _ _)
  have hB1 : Bx w2 w.heap.size [.slice d1 l1 n1, .slice d2 l2 n2, .slice d3 l3 n3] 65 := by rw [hw2]; exact (Bx.new w _ _).below (below_alloc _ _)
  have hB2 : Bx w2 (w.heap.size + 1) [.int .i64 k, .string s, .slice ao mo co] 29 := by rw [hw2]; exact Bx.newAt (by simp) _ _
  have HCK := hid (Check_any _ _ _ E _ w2 (hS.below hb) ((ht.below hb).up2 hb.size))
  have HB1 := hid hB1
  have HB2 := hid hB2
  have HB := hid hb
  have HW2 := hid hw2
  have y0 := hB1.cell 0 rfl
  have y1 := hB1.cell 1 rfl
  have y2 := hB1.cell 2 rfl
  have HSH := hid (fun W (hW : Below w.heap.size w W) => shape_any w.heap.size 99 (Nat.le_refl _) g W _ _ _ (hL.bel hW) hW.size)
  have hq : ((Pl.shapeP g : Int) == 0) = false := by simp [hg]
  subst hE0
  clear hw2 hb hB1 hB2 hS ht hL
  generalize Pl.shapeP g = sg at *
  go_enter Tryz.func29, Tryz.ntmps29
  go_wp2_with fail
  rw [← HW2.out]
  go_wp2_with fail
  refine HCK.out.mono ?_
  rintro e w3 ⟨rfl, hb3⟩
  have HB3 := hid hb3
  have HBN3 := hid (below_next HB.out hb3)
  clear y0 y1 y2 HCK
  have t0 := (HB2.out.below hb3).cell 0 rfl
  have t1 := (HB2.out.below hb3).cell 1 rfl
  have t2 := (HB2.out.below hb3).cell 2 rfl
  clear hb3
  go_wp2_with fail
  refine (vneed_true _ _).mono ?_
  rintro e w4 ⟨rfl, rfl⟩
  go_wp2_with fail
  refine (HSH.out _ HBN3.out).mono ?_
  rintro e w5 ⟨rfl, hb5⟩
  have HBN5 := hid (below_next HBN3.out hb5)
  clear hb5
  go_wp2_with fail
  refine (vneed_false _ _).mono ?_
  rintro e w6 ⟨rfl, rfl⟩
  exact ⟨rfl, HBN5.out, rfl⟩
theorem okTy_inmost (t : Pl.Ty) (h : Pl.okTy t) : Pl.okTy (inmost t) := by
  induction t with
  | plain k => exact h
  | named x => exact h
  | list t ih => exact ih h
  | opt t ih => exact ih h
theorem knP_inmost (f : List Nat → Int × Int) (t : Pl.Ty) (h : Pl.okTy t) : knP f t = (kindM f (inmost t) != 8) := by
  induction t with
  | plain k =>
    have := h.2
    simp only [knP, inmost, kindM, kindOf]
    simp
    omega
  | named x =>
    simp only [knP, inmost, kindM]
    by_cases h1 : (f x).1 = 1
    · simp [h1]
    · by_cases h2 : (f x).1 = 2
      · simp [h2]
      · simp [h1, h2]
  | list t ih => exact ih h
  | opt t ih => exact ih h

set_option maxHeartbeats 8000000 in
theorem checkType_bad (st : List (List Nat × List Pl.Fld)) (en : List (List Nat × List Pl.Cas)) (sv : List (List Nat × List Pl.Mth)) (t : Pl.Ty) (ho : Pl.okTy t) (hd : Pl.tyD t ≤ 8) (hk : kindM (fnd st en sv) (inmost t) = 8) (s1 s2 s3 : Value) (k : Int) (s : ByteArray) (ao : Option Addr) (mo co : Nat) (w : World) (hS : ScOk w s1 s2 s3 0 (some (st, en, sv))) (ht : Tab w.heap.size w) (hL : Ly w.heap.size 99 (Pl.emb t) w (.int .i64 k) (.string s) (.slice ao mo co)) (hT : TyG w t (.int .i64 k) (.string s) (.slice ao mo co)) :
    Calls Tryz.prog 29 #[.agg #[s1, s2, s3], .agg #[.int .i64 k, .string s, .slice ao mo co]] w fun e w' => Below w.heap.size w w' ∧ e = .panicked (errp 41) := by
  have hG : SchG st en sv s1 s2 s3 w := SchL.g (Nat.le_refl _) (by omega) hS.1 hS.2.2.1
  have hlen := hS.2.2.2.1
  obtain ⟨E, hE0⟩ : ∃ E : Int, E = 0 := ⟨_, rfl⟩
  rw [← hE0] at hS
  obtain ⟨d1, l1, n1, d2, l2, n2, d3, l3, n3, rfl, rfl, rfl⟩ := hS.shape
  obtain ⟨w2, hw2⟩ : ∃ w2, w2 = (w.alloc (.cells #[.slice d1 l1 n1, .slice d2 l2 n2, .slice d3 l3 n3] 65)).alloc (.cells #[.int .i64 k, .string s, .slice ao mo co] 29) := ⟨_, rfl⟩
  have hb : Below w.heap.size w w2 := by rw [hw2]; exact below_next (below_alloc w _) (below_alloc _ _)
  have hB1 : Bx w2 w.heap.size [.slice d1 l1 n1, .slice d2 l2 n2, .slice d3 l3 n3] 65 := by rw [hw2]; exact (Bx.new w _ _).below (below_alloc _ _)
  have hB2 : Bx w2 (w.heap.size + 1) [.int .i64 k, .string s, .slice ao mo co] 29 := by rw [hw2]; exact Bx.newAt (by simp) _ _
  have HCK := hid (Check_any _ _ _ E _ w2 (hS.below hb) ((ht.below hb).up2 hb.size))
  have HB1 := hid hB1
  have HB2 := hid hB2
  have HB := hid hb
  have HW2 := hid hw2
  have y0 := hB1.cell 0 rfl
  have y1 := hB1.cell 1 rfl
  have y2 := hB1.cell 2 rfl
  have HSH := hid (fun W (hW : Below w.heap.size w W) => shape_any w.heap.size 99 (Nat.le_refl _) (Pl.emb t) W _ _ _ (hL.bel hW) hW.size)
  rw [Pl.shape_emb t ho hd] at HSH
  have HIN := hid (fun W (hW : Below w.heap.size w W) => innermost_any t ho hd k s ao mo co W (TyG.below hW _ _ _ _ hT))
  have hoi := okTy_inmost t ho
  have HMN : Hid (∀ W, Below w.heap.size w W → ∀ k2 s2 a2 m2 c2, TyG W (inmost t) (.int .i64 k2) (.string s2) (.slice a2 m2 c2) → Calls Tryz.prog 52 #[.agg #[.slice d1 l1 n1, .slice d2 l2 n2, .slice d3 l3 n3], .agg #[.int .i64 k2, .string s2, .slice a2 m2 c2]] W fun e w' => ∃ vf vc, e = .returned (.agg #[.int .i64 8, .string s2, .slice a2 m2 c2, vf, vc]) ∧ Below W.heap.size W w') := by
    intro W hW k2 s2 a2 m2 c2 hty
    refine (mean_any st en sv (by omega) (inmost t) hoi _ _ _ k2 s2 a2 m2 c2 W (hG.below hW) hty).mono ?_
    rintro e w' ⟨vf, vc, rfl, _, _, hb'⟩
    exact ⟨vf, vc, by rw [hk], hb'⟩
  subst hE0
  clear hw2 hb hB1 hB2 hS ht hL hT hG hlen
  go_enter Tryz.func29, Tryz.ntmps29
  go_wp2_with fail
  rw [← HW2.out]
  go_wp2_with fail
  refine HCK.out.mono ?_
  rintro e w3 ⟨rfl, hb3⟩
  have HB3 := hid hb3
  have HBN3 := hid (below_next HB.out hb3)
  clear y0 y1 y2 HCK
  have t0 := (HB2.out.below hb3).cell 0 rfl
  have t1 := (HB2.out.below hb3).cell 1 rfl
  have t2 := (HB2.out.below hb3).cell 2 rfl
  clear hb3
  go_wp2_with fail
  refine (vneed_true _ _).mono ?_
  rintro e w4 ⟨rfl, rfl⟩
  go_wp2_with fail
  refine (HSH.out _ HBN3.out).mono ?_
  rintro e w5 ⟨rfl, hb5⟩
  have HBN5 := hid (below_next HBN3.out hb5)
  have HB5 := hid (below_next HB3.out hb5)
  clear hb5 t0 t1 t2
  go_wp2_with fail
  refine (vneed_true _ _).mono ?_
  rintro e w6 ⟨rfl, rfl⟩
  have t0 := (HB2.out.below HB5.out).cell 0 rfl
  have t1 := (HB2.out.below HB5.out).cell 1 rfl
  have t2 := (HB2.out.below HB5.out).cell 2 rfl
  have y0 := (HB1.out.below HB5.out).cell 0 rfl
  have y1 := (HB1.out.below HB5.out).cell 1 rfl
  have y2 := (HB1.out.below HB5.out).cell 2 rfl
  have lt1 := (HB1.out.below HB5.out).lt
  have lt2 := (HB2.out.below HB5.out).lt
  go_wp2_with fail
  refine wp_region_drawn2 (pred := fun jx v W => match jx with | 0 => v = .agg #[.slice d1 l1 n1, .slice d2 l2 n2, .slice d3 l3 n3] | 1 => v = .agg #[.int .i64 k, .string s, .slice ao mo co] | 2 => ∃ k2 s2 a2 m2 c2, v = .agg #[.int .i64 k2, .string s2, .slice a2 m2 c2] ∧ TyG W (inmost t) (.int .i64 k2) (.string s2) (.slice a2 m2 c2) | 3 => ∃ s2 a2 m2 c2 vf vc, v = .agg #[.int .i64 8, .string s2, .slice a2 m2 c2, vf, vc] ∧ True | 4 => ∃ s2 a2 m2 c2, v = .agg #[.int .i64 8, .string s2, .slice a2 m2 c2] ∧ True | 5 => v = .int .i64 8 | 6 => v = .bool false | 7 => False | _ => True) (R := fun W => Below w6.heap.size w6 W) (by kernel_rfl) (by kernel_rfl) (by kernel_rfl) (fun i v W W' h hb => ?mono) (Below.drew (Below.refl _ _)) ?step ?done
  case mono =>
    rcases i with _ | _ | _ | _ | _ | _ | _ | _ | i
    · exact h
    · exact h
    · obtain ⟨k2, s2, a2, m2, c2, h1, h2⟩ := h
      exact ⟨k2, s2, a2, m2, c2, h1, TyG.below hb _ _ _ _ h2⟩
    · exact h
    · exact h
    · exact h
    · exact h
    · exact h
    · exact trivial
  case step =>
    intro ix o ho A W hsz hdf hfr hdep hR
    rcases ix with _ | _ | _ | _ | _ | _ | _ | _ | ix
    · injection ho with ho
      subst ho
      have e2 : A.eval (.tmp 2) = .pointer (some ⟨w.heap.size, 0, none⟩) := (hfr 2 (noDst_spec (by kernel_rfl))).trans rfl
      have z0 := (hR.cell lt1).trans y0
      have z1 := (hR.cell lt1).trans y1
      have z2 := (hR.cell lt1).trans y2
      exact gOp_ld (v := .agg #[.slice d1 l1 n1, .slice d2 l2 n2, .slice d3 l3 n3]) rfl (wanted_plain rfl) rfl e2 (by go_simp) ⟨_, rfl, rfl, Below.refl _ _, hR⟩
    · injection ho with ho
      subst ho
      have e3 : A.eval (.tmp 3) = .pointer (some ⟨w.heap.size + 1, 0, none⟩) := (hfr 3 (noDst_spec (by kernel_rfl))).trans rfl
      have z0 := (hR.cell lt2).trans t0
      have z1 := (hR.cell lt2).trans t1
      have z2 := (hR.cell lt2).trans t2
      exact gOp_ld (v := .agg #[.int .i64 k, .string s, .slice ao mo co]) rfl (wanted_plain rfl) rfl e3 (by go_simp) ⟨_, rfl, rfl, Below.refl _ _, hR⟩
    · injection ho with ho
      subst ho
      have e19 : A.eval (.tmp 19) = .agg #[.int .i64 k, .string s, .slice ao mo co] := hdep ⟨1, .data⟩ (by simp) rfl _ _ rfl rfl
      refine gOp_enter rfl (wanted_plain rfl) 53 #[.agg #[.int .i64 k, .string s, .slice ao mo co]] (run_call _ (fun _ _ => rfl) _ _ rfl _ (by simp [e19])) ?_
      refine (HIN.out W (below_next HBN5.out hR)).mono ?_
      rintro e w' ⟨k2, s2, a2, m2, c2, rfl, hty, hb'⟩
      exact ⟨_, rfl, _, rfl, ⟨k2, s2, a2, m2, c2, rfl, hty⟩, hb', below_next hR hb'⟩
    · injection ho with ho
      subst ho
      have e18 : A.eval (.tmp 18) = .agg #[.slice d1 l1 n1, .slice d2 l2 n2, .slice d3 l3 n3] := hdep ⟨0, .data⟩ (by simp) rfl _ _ rfl rfl
      obtain ⟨k2, s2, a2, m2, c2, e20, hx20⟩ : ∃ k2 s2 a2 m2 c2, A.eval (.tmp 20) = .agg #[.int .i64 k2, .string s2, .slice a2 m2 c2] ∧ TyG W (inmost t) (.int .i64 k2) (.string s2) (.slice a2 m2 c2) := hdep ⟨2, .data⟩ (by simp) rfl _ _ rfl rfl
      refine gOp_enter rfl (wanted_plain rfl) 52 #[.agg #[.slice d1 l1 n1, .slice d2 l2 n2, .slice d3 l3 n3], .agg #[.int .i64 k2, .string s2, .slice a2 m2 c2]] (run_call _ (fun _ _ => rfl) _ _ rfl _ (by simp [e18, e20])) ?_
      refine (HMN.out W (below_next HBN5.out hR) k2 s2 a2 m2 c2 hx20).mono ?_
      rintro e w' ⟨vf, vc, rfl, hb'⟩
      exact ⟨_, rfl, _, rfl, ⟨s2, a2, m2, c2, vf, vc, rfl, trivial⟩, hb', below_next hR hb'⟩
    · injection ho with ho
      subst ho
      obtain ⟨s2, a2, m2, c2, vf, vc, e21, hx21⟩ : ∃ s2 a2 m2 c2 vf vc, A.eval (.tmp 21) = .agg #[.int .i64 8, .string s2, .slice a2 m2 c2, vf, vc] ∧ True := hdep ⟨3, .data⟩ (by simp) rfl _ _ rfl rfl
      exact gOp_part (v := .agg #[.int .i64 8, .string s2, .slice a2 m2 c2]) rfl (wanted_plain rfl) rfl e21 (mean_field _ _ _ _ _ W) ⟨_, rfl, ⟨s2, a2, m2, c2, rfl, trivial⟩, Below.refl _ _, hR⟩
    · injection ho with ho
      subst ho
      obtain ⟨s2, a2, m2, c2, e22, hx22⟩ : ∃ s2 a2 m2 c2, A.eval (.tmp 22) = .agg #[.int .i64 8, .string s2, .slice a2 m2 c2] ∧ True := hdep ⟨4, .data⟩ (by simp) rfl _ _ rfl rfl
      exact gOp_part (v := .int .i64 8) rfl (wanted_plain rfl) rfl e22 (type_field _ _ _ W) ⟨_, rfl, rfl, Below.refl _ _, hR⟩
    · injection ho with ho
      subst ho
      have e23 : A.eval (.tmp 23) = .int .i64 8 := hdep ⟨5, .data⟩ (by simp) rfl _ _ rfl rfl
      exact gOp_ok (v := .bool false) rfl (wanted_plain rfl) (run_bin rfl e23 rfl (by go_simp) (by go_simp)) ⟨_, rfl, rfl, Below.refl _ _, hR⟩
    · injection ho with ho
      subst ho
      have e24 : A.eval (.tmp 24) = .bool false := hdep ⟨6, .data⟩ (by simp) rfl _ _ rfl rfl
      refine gOp_dies rfl (wanted_plain rfl) 37 #[.bool false, .int .i64 41] (run_call _ (fun _ _ => rfl) _ _ rfl _ (by simp [e24]; rfl)) ?_
      refine (vneed_false 41 _).mono ?_
      rintro e w5 ⟨rfl, rfl⟩
      exact ⟨_, rfl, hdf, below_next HBN5.out hR, rfl⟩
    · simp at ho
  case done =>
    intro A W _ _ _ hcome _
    exact (hcome 7 _ _ rfl rfl).elim

set_option maxHeartbeats 8000000 in
theorem checkType_good (st : List (List Nat × List Pl.Fld)) (en : List (List Nat × List Pl.Cas)) (sv : List (List Nat × List Pl.Mth)) (t : Pl.Ty) (ho : Pl.okTy t) (hd : Pl.tyD t ≤ 8) (hk : kindM (fnd st en sv) (inmost t) ≠ 8) (s1 s2 s3 : Value) (k : Int) (s : ByteArray) (ao : Option Addr) (mo co : Nat) (w : World) (hS : ScOk w s1 s2 s3 0 (some (st, en, sv))) (ht : Tab w.heap.size w) (hL : Ly w.heap.size 99 (Pl.emb t) w (.int .i64 k) (.string s) (.slice ao mo co)) (hT : TyG w t (.int .i64 k) (.string s) (.slice ao mo co)) :
    Calls Tryz.prog 29 #[.agg #[s1, s2, s3], .agg #[.int .i64 k, .string s, .slice ao mo co]] w fun e w' => Below w.heap.size w w' ∧ e = .returned (.tuple #[]) := by
  have hG : SchG st en sv s1 s2 s3 w := SchL.g (Nat.le_refl _) (by omega) hS.1 hS.2.2.1
  have hlen := hS.2.2.2.1
  obtain ⟨E, hE0⟩ : ∃ E : Int, E = 0 := ⟨_, rfl⟩
  rw [← hE0] at hS
  obtain ⟨d1, l1, n1, d2, l2, n2, d3, l3, n3, rfl, rfl, rfl⟩ := hS.shape
  obtain ⟨w2, hw2⟩ : ∃ w2, w2 = (w.alloc (.cells #[.slice d1 l1 n1, .slice d2 l2 n2, .slice d3 l3 n3] 65)).alloc (.cells #[.int .i64 k, .string s, .slice ao mo co] 29) := ⟨_, rfl⟩
  have hb : Below w.heap.size w w2 := by rw [hw2]; exact below_next (below_alloc w _) (below_alloc _ _)
  have hB1 : Bx w2 w.heap.size [.slice d1 l1 n1, .slice d2 l2 n2, .slice d3 l3 n3] 65 := by rw [hw2]; exact (Bx.new w _ _).below (below_alloc _ _)
  have hB2 : Bx w2 (w.heap.size + 1) [.int .i64 k, .string s, .slice ao mo co] 29 := by rw [hw2]; exact Bx.newAt (by simp) _ _
  have HCK := hid (Check_any _ _ _ E _ w2 (hS.below hb) ((ht.below hb).up2 hb.size))
  have HB1 := hid hB1
  have HB2 := hid hB2
  have HB := hid hb
  have HW2 := hid hw2
  have y0 := hB1.cell 0 rfl
  have y1 := hB1.cell 1 rfl
  have y2 := hB1.cell 2 rfl
  have HSH := hid (fun W (hW : Below w.heap.size w W) => shape_any w.heap.size 99 (Nat.le_refl _) (Pl.emb t) W _ _ _ (hL.bel hW) hW.size)
  rw [Pl.shape_emb t ho hd] at HSH
  have HIN := hid (fun W (hW : Below w.heap.size w W) => innermost_any t ho hd k s ao mo co W (TyG.below hW _ _ _ _ hT))
  have hoi := okTy_inmost t ho
  have HMN : Hid (∀ W, Below w.heap.size w W → ∀ k2 s2 a2 m2 c2, TyG W (inmost t) (.int .i64 k2) (.string s2) (.slice a2 m2 c2) → Calls Tryz.prog 52 #[.agg #[.slice d1 l1 n1, .slice d2 l2 n2, .slice d3 l3 n3], .agg #[.int .i64 k2, .string s2, .slice a2 m2 c2]] W fun e w' => ∃ vf vc, e = .returned (.agg #[.int .i64 (kindM (fnd st en sv) (inmost t)), .string s2, .slice a2 m2 c2, vf, vc]) ∧ Below W.heap.size W w') := by
    intro W hW k2 s2 a2 m2 c2 hty
    refine (mean_any st en sv (by omega) (inmost t) hoi _ _ _ k2 s2 a2 m2 c2 W (hG.below hW) hty).mono ?_
    rintro e w' ⟨vf, vc, rfl, _, _, hb'⟩
    exact ⟨vf, vc, rfl, hb'⟩
  subst hE0
  clear hw2 hb hB1 hB2 hS ht hL hT hG hlen
  go_enter Tryz.func29, Tryz.ntmps29
  go_wp2_with fail
  rw [← HW2.out]
  go_wp2_with fail
  refine HCK.out.mono ?_
  rintro e w3 ⟨rfl, hb3⟩
  have HB3 := hid hb3
  have HBN3 := hid (below_next HB.out hb3)
  clear y0 y1 y2 HCK
  have t0 := (HB2.out.below hb3).cell 0 rfl
  have t1 := (HB2.out.below hb3).cell 1 rfl
  have t2 := (HB2.out.below hb3).cell 2 rfl
  clear hb3
  go_wp2_with fail
  refine (vneed_true _ _).mono ?_
  rintro e w4 ⟨rfl, rfl⟩
  go_wp2_with fail
  refine (HSH.out _ HBN3.out).mono ?_
  rintro e w5 ⟨rfl, hb5⟩
  have HBN5 := hid (below_next HBN3.out hb5)
  have HB5 := hid (below_next HB3.out hb5)
  clear hb5 t0 t1 t2
  go_wp2_with fail
  refine (vneed_true _ _).mono ?_
  rintro e w6 ⟨rfl, rfl⟩
  have t0 := (HB2.out.below HB5.out).cell 0 rfl
  have t1 := (HB2.out.below HB5.out).cell 1 rfl
  have t2 := (HB2.out.below HB5.out).cell 2 rfl
  have y0 := (HB1.out.below HB5.out).cell 0 rfl
  have y1 := (HB1.out.below HB5.out).cell 1 rfl
  have y2 := (HB1.out.below HB5.out).cell 2 rfl
  have lt1 := (HB1.out.below HB5.out).lt
  have lt2 := (HB2.out.below HB5.out).lt
  go_wp2_with fail
  refine wp_region_drawn (pred := fun jx v W => match jx with | 0 => v = .agg #[.slice d1 l1 n1, .slice d2 l2 n2, .slice d3 l3 n3] | 1 => v = .agg #[.int .i64 k, .string s, .slice ao mo co] | 2 => ∃ k2 s2 a2 m2 c2, v = .agg #[.int .i64 k2, .string s2, .slice a2 m2 c2] ∧ TyG W (inmost t) (.int .i64 k2) (.string s2) (.slice a2 m2 c2) | 3 => ∃ s2 a2 m2 c2 vf vc, v = .agg #[.int .i64 (kindM (fnd st en sv) (inmost t)), .string s2, .slice a2 m2 c2, vf, vc] ∧ True | 4 => ∃ s2 a2 m2 c2, v = .agg #[.int .i64 (kindM (fnd st en sv) (inmost t)), .string s2, .slice a2 m2 c2] ∧ True | 5 => v = .int .i64 (kindM (fnd st en sv) (inmost t)) | 6 => v = .bool true | 7 => v = .tuple #[] | _ => True) (R := fun W => Below w6.heap.size w6 W) (by kernel_rfl) (by kernel_rfl) (by kernel_rfl) (fun i v W W' h hb => ?mono) (Below.drew (Below.refl _ _)) ?step ?done
  case mono =>
    rcases i with _ | _ | _ | _ | _ | _ | _ | _ | i
    · exact h
    · exact h
    · obtain ⟨k2, s2, a2, m2, c2, h1, h2⟩ := h
      exact ⟨k2, s2, a2, m2, c2, h1, TyG.below hb _ _ _ _ h2⟩
    · exact h
    · exact h
    · exact h
    · exact h
    · exact h
    · exact trivial
  case step =>
    intro ix o ho A W hsz hdf hfr hdep hR
    rcases ix with _ | _ | _ | _ | _ | _ | _ | _ | ix
    · injection ho with ho
      subst ho
      have e2 : A.eval (.tmp 2) = .pointer (some ⟨w.heap.size, 0, none⟩) := (hfr 2 (noDst_spec (by kernel_rfl))).trans rfl
      have z0 := (hR.cell lt1).trans y0
      have z1 := (hR.cell lt1).trans y1
      have z2 := (hR.cell lt1).trans y2
      exact gOp_ld (v := .agg #[.slice d1 l1 n1, .slice d2 l2 n2, .slice d3 l3 n3]) rfl (wanted_plain rfl) rfl e2 (by go_simp) ⟨_, rfl, rfl, Below.refl _ _, hR⟩
    · injection ho with ho
      subst ho
      have e3 : A.eval (.tmp 3) = .pointer (some ⟨w.heap.size + 1, 0, none⟩) := (hfr 3 (noDst_spec (by kernel_rfl))).trans rfl
      have z0 := (hR.cell lt2).trans t0
      have z1 := (hR.cell lt2).trans t1
      have z2 := (hR.cell lt2).trans t2
      exact gOp_ld (v := .agg #[.int .i64 k, .string s, .slice ao mo co]) rfl (wanted_plain rfl) rfl e3 (by go_simp) ⟨_, rfl, rfl, Below.refl _ _, hR⟩
    · injection ho with ho
      subst ho
      have e19 : A.eval (.tmp 19) = .agg #[.int .i64 k, .string s, .slice ao mo co] := hdep ⟨1, .data⟩ (by simp) rfl _ _ rfl rfl
      refine gOp_enter rfl (wanted_plain rfl) 53 #[.agg #[.int .i64 k, .string s, .slice ao mo co]] (run_call _ (fun _ _ => rfl) _ _ rfl _ (by simp [e19])) ?_
      refine (HIN.out W (below_next HBN5.out hR)).mono ?_
      rintro e w' ⟨k2, s2, a2, m2, c2, rfl, hty, hb'⟩
      exact ⟨_, rfl, _, rfl, ⟨k2, s2, a2, m2, c2, rfl, hty⟩, hb', below_next hR hb'⟩
    · injection ho with ho
      subst ho
      have e18 : A.eval (.tmp 18) = .agg #[.slice d1 l1 n1, .slice d2 l2 n2, .slice d3 l3 n3] := hdep ⟨0, .data⟩ (by simp) rfl _ _ rfl rfl
      obtain ⟨k2, s2, a2, m2, c2, e20, hx20⟩ : ∃ k2 s2 a2 m2 c2, A.eval (.tmp 20) = .agg #[.int .i64 k2, .string s2, .slice a2 m2 c2] ∧ TyG W (inmost t) (.int .i64 k2) (.string s2) (.slice a2 m2 c2) := hdep ⟨2, .data⟩ (by simp) rfl _ _ rfl rfl
      refine gOp_enter rfl (wanted_plain rfl) 52 #[.agg #[.slice d1 l1 n1, .slice d2 l2 n2, .slice d3 l3 n3], .agg #[.int .i64 k2, .string s2, .slice a2 m2 c2]] (run_call _ (fun _ _ => rfl) _ _ rfl _ (by simp [e18, e20])) ?_
      refine (HMN.out W (below_next HBN5.out hR) k2 s2 a2 m2 c2 hx20).mono ?_
      rintro e w' ⟨vf, vc, rfl, hb'⟩
      exact ⟨_, rfl, _, rfl, ⟨s2, a2, m2, c2, vf, vc, rfl, trivial⟩, hb', below_next hR hb'⟩
    · injection ho with ho
      subst ho
      obtain ⟨s2, a2, m2, c2, vf, vc, e21, hx21⟩ : ∃ s2 a2 m2 c2 vf vc, A.eval (.tmp 21) = .agg #[.int .i64 (kindM (fnd st en sv) (inmost t)), .string s2, .slice a2 m2 c2, vf, vc] ∧ True := hdep ⟨3, .data⟩ (by simp) rfl _ _ rfl rfl
      exact gOp_part (v := .agg #[.int .i64 (kindM (fnd st en sv) (inmost t)), .string s2, .slice a2 m2 c2]) rfl (wanted_plain rfl) rfl e21 (mean_field _ _ _ _ _ W) ⟨_, rfl, ⟨s2, a2, m2, c2, rfl, trivial⟩, Below.refl _ _, hR⟩
    · injection ho with ho
      subst ho
      obtain ⟨s2, a2, m2, c2, e22, hx22⟩ : ∃ s2 a2 m2 c2, A.eval (.tmp 22) = .agg #[.int .i64 (kindM (fnd st en sv) (inmost t)), .string s2, .slice a2 m2 c2] ∧ True := hdep ⟨4, .data⟩ (by simp) rfl _ _ rfl rfl
      exact gOp_part (v := .int .i64 (kindM (fnd st en sv) (inmost t))) rfl (wanted_plain rfl) rfl e22 (type_field _ _ _ W) ⟨_, rfl, rfl, Below.refl _ _, hR⟩
    · injection ho with ho
      subst ho
      have e23 : A.eval (.tmp 23) = .int .i64 (kindM (fnd st en sv) (inmost t)) := hdep ⟨5, .data⟩ (by simp) rfl _ _ rfl rfl
      exact gOp_ok (v := .bool true) rfl (wanted_plain rfl) (run_bin rfl e23 rfl (by go_simp) (by go_simp)) ⟨_, rfl, rfl, Below.refl _ _, hR⟩
    · injection ho with ho
      subst ho
      have e24 : A.eval (.tmp 24) = .bool true := hdep ⟨6, .data⟩ (by simp) rfl _ _ rfl rfl
      refine gOp_enter rfl (wanted_plain rfl) 37 #[.bool true, .int .i64 41] (run_call _ (fun _ _ => rfl) _ _ rfl _ (by simp [e24]; rfl)) ?_
      refine (vneed_true 41 _).mono ?_
      rintro e w5 ⟨rfl, rfl⟩
      exact ⟨_, rfl, _, rfl, rfl, Below.refl _ _, hR⟩
    · simp at ho
  case done =>
    intro A W hsz hdf hfr hpred hR
    go_wp2_with fail
    exact ⟨hdf, .tuple #[], by simp [results, Tryz.results29], below_next HBN5.out hR, rfl⟩
end Go.Proofs.YtmiohekmpjiloaaGreatDoor

namespace Go.Proofs.YtmiohekmpjiloaaGreatDoor
open Go.RowKit
set_option maxRecDepth 20000

theorem meetF_in (k : Int) : ∀ (l : List (List Nat)) (f g : List Nat → Int), meetF k l f = some g → ∀ y, g y = k ∧ y ∈ l ∨ g y = f y := by
  intro l
  induction l with
  | nil => intro f g h y; cases h; exact .inr rfl
  | cons x r ih =>
    intro f g h y
    rw [meetF] at h
    split at h
    · rcases ih _ _ h y with ⟨h1, h2⟩ | h1
      · exact .inl ⟨h1, List.mem_cons_of_mem _ h2⟩
      · by_cases e : y = x
        · rw [if_pos e] at h1
          exact .inl ⟨h1, by rw [e]; exact List.mem_cons_self⟩
        · rw [if_neg e] at h1
          exact .inr h1
    · cases h
theorem idx_mem {α : Type} {l : List (List Nat × α)} {x : List Nat} (h : x ∈ l.map Prod.fst) : 0 ≤ idxF (nmIs x) l 0 := by
  have h1 := idxF_any (nmIs x) l 0
  have h2 : l.any (nmIs x) = true := by
    obtain ⟨a, ha, rfl⟩ := List.mem_map.1 h
    exact List.any_eq_true.2 ⟨a, ha, decide_eq_true rfl⟩
  rw [h2] at h1
  exact of_decide_eq_true h1
theorem then_zero {a b : Int} (h : thenE a b = 0) : a = 0 ∧ b = 0 := by
  unfold thenE at h
  split at h
  · rename_i h0; exact ⟨h0, h⟩
  · rename_i h0; exact absurd h h0
theorem structs_zero {f : List Nat → Int} : ∀ {st : List (List Nat × List Pl.Fld)}, structsE f st = 0 → ∀ a ∈ st, structE f a.2 = 0
  | [], _, a, ha => by cases ha
  | x :: r, h, a, ha => by
    obtain ⟨h1, h2⟩ := then_zero h
    rcases List.mem_cons.1 ha with rfl | ha
    · exact h1
    · exact structs_zero h2 a ha
theorem closed_of {st : List (List Nat × List Pl.Fld)} {en : List (List Nat × List Pl.Cas)} {sv : List (List Nat × List Pl.Mth)} (h : allE st en sv = 0) (hok : ∀ d ∈ Pl.inOrder st en sv, Pl.okDecl d) (hlen : st.length + en.length + sv.length ≤ 64) : Closed st en sv := by
  unfold allE at h
  cases h1 : meetF 1 (st.map Prod.fst) (fun _ => 0) with
  | none => rw [h1] at h; simp at h
  | some f1 =>
    rw [h1] at h
    simp only at h
    cases h2 : meetF 2 (en.map Prod.fst) f1 with
    | none => rw [h2] at h; simp at h
    | some f2 =>
      rw [h2] at h
      simp only at h
      cases h3 : meetF 3 (sv.map Prod.fst) f2 with
      | none => rw [h3] at h; simp at h
      | some f =>
        rw [h3] at h
        simp only at h
        have hkn : ∀ x, f x = 1 ∨ f x = 2 → (fnd st en sv x).1 = 1 ∨ (fnd st en sv x).1 = 2 := by
          intro x hx
          have hmem : x ∈ st.map Prod.fst ∨ x ∈ en.map Prod.fst := by
            rcases meetF_in 3 _ _ _ h3 x with ⟨q, _⟩ | q
            · omega
            · rcases meetF_in 2 _ _ _ h2 x with ⟨_, r⟩ | r
              · exact .inr r
              · rcases meetF_in 1 _ _ _ h1 x with ⟨_, t⟩ | t
                · exact .inl t
                · have t' : f1 x = 0 := t
                  omega
          unfold fnd
          rcases hmem with hm | hm
          · rw [if_pos (idx_mem hm)]; exact .inl rfl
          · split
            · exact .inl rfl
            · rw [if_pos (idx_mem hm)]; exact .inr rfl
        have hty : ∀ t, tyOk f t = true → knP (fnd st en sv) t = true := by
          intro t
          induction t with
          | plain k => intro _; rfl
          | named x =>
            intro ht
            have := hkn x (by simpa [tyOk] using ht)
            simpa [knP] using this
          | list t ih => exact ih
          | opt t ih => exact ih
        have hst := structs_zero (then_zero h).1
        refine ⟨by omega, fun a ha f' hf => ?_, fun a ha => ?_, fun a ha => ?_⟩
        · obtain ⟨_, _, q3⟩ := hok (Pl.mkSt a) (List.mem_append_left _ (List.mem_append_left _ (List.mem_map_of_mem ha)))
          obtain ⟨_, _, r3, _⟩ := q3 f' hf
          refine ⟨r3, hty _ ?_⟩
          have h5 := (then_zero (hst a ha)).2
          unfold typesE at h5
          split at h5
          · rename_i h6
            exact List.all_eq_true.1 h6 _ (List.mem_map_of_mem hf)
          · omega
        · exact (ok_en hok a ha).2.1
        · exact (ok_st hok a ha).2.1
end Go.Proofs.YtmiohekmpjiloaaGreatDoor

namespace Go.Proofs.YtmiohekmpjiloaaGreatDoor
open Go.RowKit
set_option maxRecDepth 20000

/-- What Check answers. -/
def CkE (E : Int) (D : Option Sc) (gt : Pl.GT) (g : Pl.GV) (R : Int) : Prop :=
  (E ≠ 0 ∧ R = E) ∨ (E = 0 ∧ Pl.shapeP gt ≠ 0 ∧ R = Pl.shapeP gt) ∨
  (E = 0 ∧ ∃ st en sv t, D = some (st, en, sv) ∧ gt = Pl.emb t ∧ Pl.okTy t ∧ Pl.tyD t ≤ 8 ∧ R = if kindM (fnd st en sv) (inmost t) = 8 then 41 else if 16 < deepV 17 [g] then 42 else valE st en (fnd st en sv) 16 t g)

set_option maxHeartbeats 8000000 in
theorem chkClo_type (E : Int) (hE : E ≠ 0) (s1 s2 s3 k s o : Value) (p q r : Nat) (w : World) (hp : Bx w p [s1, s2, s3] 65) (hq : Bx w q [k, s, o] 29)
    (h : Calls Tryz.prog 29 #[.agg #[s1, s2, s3], .agg #[k, s, o]] w fun e w' => Below w.heap.size w w' ∧ e = .panicked (errp E)) :
    Calls Tryz.prog 36 #[.pointer (some ⟨p, 0, none⟩), .pointer (some ⟨q, 0, none⟩), .pointer (some ⟨r, 0, none⟩)] w fun e w' => Below w.heap.size w w' ∧ e = EndE E := by
  have y0 := hp.cell 0 rfl
  have y1 := hp.cell 1 rfl
  have y2 := hp.cell 2 rfl
  have z0 := hq.cell 0 rfl
  have z1 := hq.cell 1 rfl
  have z2 := hq.cell 2 rfl
  have H := hid h
  rw [EndE_ne hE]
  clear h hp hq hE
  go_enter Tryz.func36, Tryz.ntmps36
  go_wp2_with fail
  refine H.out.mono ?_
  rintro e w1 ⟨hb1, rfl⟩
  exact ⟨rfl, hb1, rfl⟩

set_option maxHeartbeats 8000000 in
theorem chkClo_value (R : Int) (B : Nat) (g : Pl.GV) (s1 s2 s3 : Value) (k : Int) (s : ByteArray) (ao : Option Addr) (mo co : Nat) (a1 : Option Addr) (m1 c1 : Nat) (p q r : Nat) (w : World) (hs : ∃ d1 l1 n1 d2 l2 n2 d3 l3 n3, s1 = .slice d1 l1 n1 ∧ s2 = .slice d2 l2 n2 ∧ s3 = .slice d3 l3 n3) (hp : Bx w p [s1, s2, s3] 65) (hq : Bx w q [.int .i64 k, .string s, .slice ao mo co] 29) (hr : Bx w r [.int .i64 g.i, .int .u64 g.u, .string g.t, .slice a1 m1 c1] 33) (hV : VyS B 65552 g.l w (.slice a1 m1 c1)) (hB : B ≤ w.heap.size)
    (h : Calls Tryz.prog 29 #[.agg #[s1, s2, s3], .agg #[.int .i64 k, .string s, .slice ao mo co]] w fun e w' => Below w.heap.size w w' ∧ e = .returned (.tuple #[]))
    (hv : ¬ 16 < deepV 17 [g] → ∀ W, Below w.heap.size w W → Calls Tryz.prog 38 #[.agg #[s1, s2, s3], .agg #[.int .i64 k, .string s, .slice ao mo co], .agg #[.int .i64 g.i, .int .u64 g.u, .string g.t, .slice a1 m1 c1]] W fun e w' => Below W.heap.size W w' ∧ e = EndE R) :
    Calls Tryz.prog 36 #[.pointer (some ⟨p, 0, none⟩), .pointer (some ⟨q, 0, none⟩), .pointer (some ⟨r, 0, none⟩)] w fun e w' => Below w.heap.size w w' ∧ e = EndE (if 16 < deepV 17 [g] then 42 else R) := by
  obtain ⟨d1, l1, n1, d2, l2, n2, d3, l3, n3, rfl, rfl, rfl⟩ := hs
  have y0 := hp.cell 0 rfl
  have y1 := hp.cell 1 rfl
  have y2 := hp.cell 2 rfl
  have z0 := hq.cell 0 rfl
  have z1 := hq.cell 1 rfl
  have z2 := hq.cell 2 rfl
  have H := hid h
  obtain ⟨dv, hdv⟩ : ∃ d, d = deepV 17 [g] := ⟨_, rfl⟩
  rw [← hdv] at hv ⊢
  obtain ⟨RES, hRES⟩ : ∃ r, r = EndE (if 16 < dv then 42 else R) := ⟨_, rfl⟩
  rw [← hRES]
  have HRES := hid hRES
  have HDV := hid hdv
  have HV := hid hv
  have HP := hid hp
  have HQ := hid hq
  have HR := hid hr
  have HVY := hid hV
  clear h hv hp hq hr hV hRES hdv
  go_enter Tryz.func36, Tryz.ntmps36
  go_wp2_with fail
  refine H.out.mono ?_
  rintro e w1 ⟨hb1, rfl⟩
  have r0 := (HR.out.below hb1).cell 0 rfl
  have r1 := (HR.out.below hb1).cell 1 rfl
  have r2 := (HR.out.below hb1).cell 2 rfl
  have r3 := (HR.out.below hb1).cell 3 rfl
  have hba := below_alloc w1 (.cells #[.int .i64 g.i, .int .u64 g.u, .string g.t, .slice a1 m1 c1] 33)
  have hb2 := below_next hb1 hba
  have HD := hid (deepestV_any 17 ((w1.alloc (.cells #[.int .i64 g.i, .int .u64 g.u, .string g.t, .slice a1 m1 c1] 33)).heap.size) [g] _ (.slice (some ⟨w1.heap.size, 0, none⟩) 1 1) (by omega) (VyS.one (VyS.mono (Nat.le_trans hB hb2.size) _ _ _ _ (VyS.upto (n := 16) (by omega) _ _ _ (VyS.bel (hb2.mono hB) _ _ _ HVY.out))) (by simp) (Bx.new w1 _ _)) (Nat.le_refl _))
  have HB2 := hid hb2
  rw [← HDV.out] at HD
  clear y0 y1 y2 z0 z1 z2 hb1 hba hb2 H
  go_wp2_with fail
  refine HD.out.mono ?_
  rintro e w3 ⟨rfl, hb3⟩
  have HB3 := hid (below_next HB2.out hb3)
  clear hb3 r0 r1 r2 r3 HD
  by_cases hd : 16 < dv
  · obtain rfl : RES = .panicked (errp 42) := by
      rw [HRES.out, if_pos hd]
      rfl
    have hdI : ¬ (dv : Int) ≤ 16 := by omega
    have hdF : decide ((dv : Int) ≤ 16) = false := decide_eq_false hdI
    clear HRES hdI
    go_wp2_with fail
    refine (vneed_false 42 _).mono ?_
    rintro e w4 ⟨rfl, rfl⟩
    exact ⟨rfl, HB3.out, rfl⟩
  · obtain rfl : RES = EndE R := by rw [HRES.out, if_neg hd]
    have HVV := hid (HV.out hd _ HB3.out)
    have hdI : (dv : Int) ≤ 16 := by omega
    have y0 := (HP.out.below HB3.out).cell 0 rfl
    have y1 := (HP.out.below HB3.out).cell 1 rfl
    have y2 := (HP.out.below HB3.out).cell 2 rfl
    have z0 := (HQ.out.below HB3.out).cell 0 rfl
    have z1 := (HQ.out.below HB3.out).cell 1 rfl
    have z2 := (HQ.out.below HB3.out).cell 2 rfl
    have r0 := (HR.out.below HB3.out).cell 0 rfl
    have r1 := (HR.out.below HB3.out).cell 1 rfl
    have r2 := (HR.out.below HB3.out).cell 2 rfl
    have r3 := (HR.out.below HB3.out).cell 3 rfl
    clear HRES hd
    go_wp2_with fail
    refine (vneed_true 42 _).mono ?_
    rintro e w4 ⟨rfl, rfl⟩
    go_wp2_with fail
    refine HVV.out.mono ?_
    rintro e w5 ⟨hb5, rfl⟩
    have HB5 := hid (below_next HB3.out hb5)
    clear hb5
    by_cases hR : R = 0
    · subst hR
      rw [EndE_zero]
      go_wp2
      go_end0
      exact ⟨HB5.out, rfl⟩
    · rw [EndE_ne hR]
      exact ⟨rfl, HB5.out, (EndE_ne hR).symm⟩

set_option maxHeartbeats 8000000 in
theorem Check_value (E : Int) (D : Option Sc) (gt : Pl.GT) (B : Nat) (g : Pl.GV) (s1 s2 s3 : Value) (k : Int) (s : ByteArray) (ao : Option Addr) (mo co : Nat) (a1 : Option Addr) (m1 c1 : Nat) (w : World) (hS : ScOk w s1 s2 s3 E D) (ht : Tab w.heap.size w) (hL : Ly w.heap.size 99 gt w (.int .i64 k) (.string s) (.slice ao mo co)) (hV : VyS B 65552 g.l w (.slice a1 m1 c1)) (hB : B ≤ w.heap.size) :
    Calls Tryz.prog 20 #[.agg #[s1, s2, s3], .agg #[.int .i64 k, .string s, .slice ao mo co], .agg #[.int .i64 g.i, .int .u64 g.u, .string g.t, .slice a1 m1 c1]] w fun e w' => ∃ R, CkE E D gt g R ∧ e = .returned (.int .i64 R) ∧ Below w.heap.size w w' := by
  obtain ⟨d1, l1, n1, d2, l2, n2, d3, l3, n3, rfl, rfl, rfl⟩ := hS.shape
  obtain ⟨w4, hw4⟩ : ∃ w4, w4 = (((w.alloc (.cells #[.slice d1 l1 n1, .slice d2 l2 n2, .slice d3 l3 n3] 26)).alloc (.cells #[.int .i64 k, .string s, .slice ao mo co] 29)).alloc (.cells #[.int .i64 g.i, .int .u64 g.u, .string g.t, .slice a1 m1 c1] 33)).alloc (.cells #[.slice d1 l1 n1, .slice d2 l2 n2, .slice d3 l3 n3] 65) := ⟨_, rfl⟩
  have hb4 : Below w.heap.size w w4 := by rw [hw4]; exact below_next (below_next (below_next (below_alloc w _) (below_alloc _ _)) (below_alloc _ _)) (below_alloc _ _)
  have hBq : Bx w4 (w.heap.size + 1) [.int .i64 k, .string s, .slice ao mo co] 29 := by rw [hw4]; exact ((Bx.newAt (by simp) _ _).below (below_alloc _ _)).below (below_alloc _ _)
  have hBr : Bx w4 (w.heap.size + 1 + 1) [.int .i64 g.i, .int .u64 g.u, .string g.t, .slice a1 m1 c1] 33 := by rw [hw4]; exact (Bx.newAt (by simp) _ _).below (below_alloc _ _)
  have hBp : Bx w4 (w.heap.size + 1 + 1 + 1) [.slice d1 l1 n1, .slice d2 l2 n2, .slice d3 l3 n3] 65 := by rw [hw4]; exact Bx.newAt (by simp) _ _
  obtain ⟨w5, hw5⟩ : ∃ w5, w5 = w4.alloc (.cells #[.int .i64 0] 34) := ⟨_, rfl⟩
  have hb45 : Below w4.heap.size w4 w5 := by rw [hw5]; exact below_alloc w4 _
  have hBe : Bx w5 w4.heap.size [.int .i64 0] 34 := by rw [hw5]; exact Bx.new w4 _ _
  have hb5 := below_next hb4 hb45
  have hS5 := hS.below hb5
  have ht5 := (ht.below hb5).up2 hb5.size
  have hL5 := (hL.bel hb5).mono hb5.size
  have hV5 := VyS.bel (hb5.mono hB) _ _ _ hV
  have hB5 := Nat.le_trans hB hb5.size
  have hclo : ∃ R, CkE E D gt g R ∧ Calls Tryz.prog 36 #[.pointer (some ⟨w.heap.size + 1 + 1 + 1, 0, none⟩), .pointer (some ⟨w.heap.size + 1, 0, none⟩), .pointer (some ⟨w.heap.size + 1 + 1, 0, none⟩)] w5 fun e w' => Below w5.heap.size w5 w' ∧ e = EndE R := by
    by_cases hE : E = 0
    · subst hE
      by_cases hsh : Pl.shapeP gt = 0
      · obtain ⟨t, rfl, ho, hd⟩ := Pl.shape_of gt hsh
        match D, hS5, hS with
        | none, hS5, hS => obtain ⟨_, _, _, er, _, _, _, hne, he⟩ := hS; exact absurd he.symm (by omega)
        | some (st, en, sv), hS5, hS =>
          have hT5 := Ly.tyG (Nat.le_refl _) t 99 _ _ _ (by omega) hL5
          refine ⟨_, .inr (.inr ⟨rfl, st, en, sv, t, rfl, rfl, ho, hd, rfl⟩), ?_⟩
          by_cases hk : kindM (fnd st en sv) (inmost t) = 8
          · rw [if_pos hk]
            exact chkClo_type 41 (by decide) _ _ _ _ _ _ _ _ _ w5 (hBp.below hb45) (hBq.below hb45) (checkType_bad st en sv t ho hd hk _ _ _ k s ao mo co w5 hS5 ht5 hL5 hT5)
          · rw [if_neg hk]
            have hC : Closed st en sv := closed_of hS5.2.2.2.2.symm hS5.2.2.1 hS5.2.2.2.1
            have hG5 : SchG st en sv _ _ _ w5 := SchL.g (Nat.le_refl _) (by omega) hS5.1 hS5.2.2.1
            refine chkClo_value _ B g _ _ _ k s ao mo co a1 m1 c1 _ _ _ w5 ⟨_, _, _, _, _, _, _, _, _, rfl, rfl, rfl⟩ (hBp.below hb45) (hBq.below hb45) (hBr.below hb45) hV5 hB5 (checkType_good st en sv t ho hd hk _ _ _ k s ao mo co w5 hS5 ht5 hL5 hT5) (fun hdp W hW => ?_)
            have hkn : knP (fnd st en sv) t = true := by rw [knP_inmost _ t ho]; simpa using hk
            exact checkValue_any st en sv hC B 16 t g _ _ _ k s ao mo co a1 m1 c1 W ho hkn (dv_of 16 16 g (Nat.le_refl _) (Nat.le_of_not_lt hdp)) (hG5.below hW) (TyG.below hW _ _ _ _ hT5) (VyS.bel (hW.mono hB5) _ _ _ hV5) (Nat.le_trans hB5 hW.size)
      · exact ⟨_, .inr (.inl ⟨rfl, hsh, rfl⟩), chkClo_type _ (by omega) _ _ _ _ _ _ _ _ _ w5 (hBp.below hb45) (hBq.below hb45) (checkType_shape gt hsh D _ _ _ k s ao mo co w5 hS5 ht5 hL5)⟩
    · exact ⟨_, .inl ⟨hE, rfl⟩, chkClo_type E hE _ _ _ _ _ _ _ _ _ w5 (hBp.below hb45) (hBq.below hb45) (checkType_sch E hE D _ _ _ k s ao mo co w5 hS5 ht5)⟩
  obtain ⟨R, hR, hclo⟩ := hclo
  have hcau : Calls Tryz.prog 27 #[.func (.func 36) #[] #[.pointer (some ⟨w.heap.size + 1 + 1 + 1, 0, none⟩), .pointer (some ⟨w.heap.size + 1, 0, none⟩), .pointer (some ⟨w.heap.size + 1 + 1, 0, none⟩)]] w4 fun e w' => e = .returned (.int .i64 R) ∧ Below w4.heap.size w4 w' := by
    by_cases hR0 : R = 0
    · subst hR0
      refine (vcaught_ok _ _ (fun _ _ => rfl) w4 (fun W => Below w5.heap.size w5 W) (fun W hW => hBe.below hW) ?_).mono ?_
      · rw [← hw5]
        exact hclo.mono fun e w' ⟨h1, h2⟩ => ⟨h2, h1⟩
      · rintro e w' ⟨rfl, W, hW, rfl⟩
        exact ⟨rfl, (below_next hb45 hW).setCell (by simp only; omega) _⟩
    · refine (vcaught_bad _ _ (fun _ _ => rfl) w4 (fun er => er = R) (fun W => Below w5.heap.size w5 W) (fun W hW => hBe.below hW) ?_).mono ?_
      · rw [← hw5]
        exact hclo.mono fun e w' ⟨h1, h2⟩ => ⟨R, rfl, by rw [h2, EndE_ne hR0], h1⟩
      · rintro e w' ⟨er, rfl, rfl, W, hW, rfl⟩
        exact ⟨rfl, (below_next hb45 hW).setCell (by simp only; omega) _⟩
  have HCAU := hid hcau
  have HR := hid hR
  have HB4 := hid hb4
  have HW4 := hid hw4
  have hmf : ∀ (fn : Fn) (first cap : Array Value) (w : World), (Instr.makeFunc fn first cap).run Tryz.prog w = .ok (.func fn first cap) w := fun _ _ _ _ => rfl
  clear hcau hR hb4 hw4 hclo hB5 hV5 hL5 ht5 hS5 hb5 hBe hb45 hw5 hBp hBr hBq hS ht hL hV
  go_enter Tryz.func20, Tryz.ntmps20
  go_wp2_with fail
  rw [← HW4.out]
  refine HCAU.out.mono ?_
  rintro e w6 ⟨rfl, hb6⟩
  have HL := hid (below_next HB4.out hb6)
  clear hb6
  go_wp2
  go_ret
  exact ⟨R, HR.out, rfl, HL.out⟩
end Go.Proofs.YtmiohekmpjiloaaGreatDoor

