/- parse: all declarations are read. -/
import Derived.Test.YthdooemgnpiomaaQS
import Derived.Test.YthdooemgnpiomaaQT
import Derived.Test.YthdooemgnpiomaaQU
namespace Go.Proofs.Ythdooemgnpiomaa
open Go.RowKit

def stOf (ds : List Pl.Decl) : List (List Nat × List Pl.Fld) := ds.filterMap fun d => match d with | .st n l => some (n, l) | _ => none
def enOf (ds : List Pl.Decl) : List (List Nat × List Pl.Cas) := ds.filterMap fun d => match d with | .en n l => some (n, l) | _ => none
def svOf (ds : List Pl.Decl) : List (List Nat × List Pl.Mth) := ds.filterMap fun d => match d with | .sv n l => some (n, l) | _ => none

/-- What parse turns from B on. -/
def Xa (B : Nat) (g : Nat) (T : TypeId) : Prop := B ≤ g ∧ Xs g T
theorem Xt.a {n B : Nat} {Tr : TypeId} (hBn : B ≤ n) (hT : isTr Tr) (g : Nat) (T : TypeId) (h : Xt n B Tr g T) : Xa B g T := by
  rcases h with h | h
  · exact ⟨by rw [h.1]; exact hBn, .inl h.2⟩
  · refine ⟨h.1, ?_⟩
    rw [h.2]
    rcases hT with rfl | rfl | rfl
    · exact .inr (.inl rfl)
    · exact .inr (.inr (.inl rfl))
    · exact .inr (.inr (.inr (.inl rfl)))

/-- The schema on its way: the place, and the three rows. -/
def SchI (B n : Nat) (sv : Value) (ds : List Pl.Decl) (W : World) (i : Nat) : Prop := ∃ s1 s2 s3, Pos n sv [s1, s2, s3] W i ∧ Rows 43 2 (SctR B) B W s1 (stOf ds) ∧ Rows 68 2 (EnmR B) B W s2 (enOf ds) ∧ Rows 73 2 (SvcR B) B W s3 (svOf ds)

def ReadA (B n : Nat) (sv : Value) (l : List T3) (W : World) (res : Pl.Res (List Pl.Decl)) (e : Ending) (w' : World) : Prop :=
  match res with
  | .ok ds r => ∃ i', e = .returned (.tuple #[]) ∧ i' ≤ l.length ∧ r = (l.drop i').map kt3 ∧ SchI B n sv ds w' i' ∧ Ch (Xa B) W w'
  | .bad r er => ∃ i', e = .panicked (fault (lineAt l i') er) ∧ i' ≤ l.length ∧ r = (l.drop i').map kt3 ∧ Ch (Xa B) W w'

theorem decls_step (m : Nat) (hm : m ≤ 64) (x : List Pl.Kt) (h : x ≠ []) :
    Pl.declsP (64 - m) x = (moreP Pl.decT m 64 x).bind fun t r => (Pl.declP t r).bind fun a r1 => preR [a] (Pl.declsP (64 - (m + 1)) r1) := by
  cases x with
  | nil => exact absurd rfl h
  | cons t r =>
    by_cases hb : Pl.decT t = true
    · by_cases h32 : m = 64
      · subst h32
        simp [Pl.declsP, moreP, Pl.takeP, hb, Pl.Res.bind]
      · obtain ⟨k, hk⟩ : ∃ k, 64 - m = k + 1 := ⟨63 - m, by omega⟩
        have hk2 : 64 - (m + 1) = k := by omega
        rw [hk, hk2]
        simp only [Pl.declsP, moreP, Pl.takeP, if_pos hb, ok_bind, if_neg h32]
        rfl
    · have hq : moreP Pl.decT m 64 (t :: r) = .bad (t :: r) 33 := by simp [moreP, Pl.takeP, hb, Pl.Res.bind]
      rw [hq]
      cases (64 - m) <;> simp [Pl.declsP, hb, Pl.Res.bind]

theorem dec_fits {w : World} {fv : Value} (h : FitsT w fv (fun t => memB [sStruct, sEnum, sService] t.2)) : FitsT w fv Pl.decT := by
  have e : (fun t : Pl.Kt => memB [sStruct, sEnum, sService] t.2) = Pl.decT := by
    funext t
    simp only [memB, List.any_cons, List.any_nil, Bool.or_false, Pl.decT, Bool.or_assoc]
    rfl
  rw [← e]
  exact h

theorem step_callGp {P : Program} {w : World} {ops : Array Oper} {o : Oper} {a : Act} {K : Act → World → Prop} {Q : Exit → Act → World → Prop} {E : Prop} (f : Nat) (eg : ∀ args w, (callFunc f args).run P w = .ok (.enter f args) w) (hg : o.guard = none) (args : Array Operand) (ts : Array TypeId) (hop : o.op = .call { callee := .value (.func f), args := args, argTypes := ts }) (vs : Array Value) (hvs : args.map a.eval = vs)
    (h : Calls P f vs w fun e w' => ∃ x, e = .returned x ∧ K (a.put o.dst x) w') : if Region.wanted o (yielded ops a.tmps) = true then Oper.wp P o a w K Q else E := by
  have hw : Region.wanted o (yielded ops a.tmps) = true := by simp [Region.wanted, hg]
  rw [if_pos hw]
  unfold Oper.wp
  rw [run_call f eg args ts hop vs hvs]
  refine h.mono ?_
  rintro e w' ⟨x, rfl, hk⟩
  exact hk

theorem st_app (ds : List Pl.Decl) (d : Pl.Decl) : stOf (ds ++ [d]) = stOf ds ++ stOf [d] := List.filterMap_append
theorem en_app (ds : List Pl.Decl) (d : Pl.Decl) : enOf (ds ++ [d]) = enOf ds ++ enOf [d] := List.filterMap_append
theorem sv_app (ds : List Pl.Decl) (d : Pl.Decl) : svOf (ds ++ [d]) = svOf ds ++ svOf [d] := List.filterMap_append
theorem st_len (ds : List Pl.Decl) : (stOf ds).length ≤ ds.length := List.length_filterMap_le _ _
theorem en_len (ds : List Pl.Decl) : (enOf ds).length ≤ ds.length := List.length_filterMap_le _ _
theorem sv_len (ds : List Pl.Decl) : (svOf ds).length ≤ ds.length := List.length_filterMap_le _ _

theorem sct_keep {n B : Nat} {w w' : World} {v : Value} {xs : List (List Nat × List Pl.Fld)} (hc : Ch (Xp n) w w') (h : Rows 43 2 (SctR B) B w v xs) : Rows 43 2 (SctR B) B w' v xs :=
  h.ch hc (fun a c h => SctR.ch (n := n) (Tr := 43) (.inl rfl) (hc.mono (fun _ _ h => .inl h)) a c h) (fun k _ hx => by have := hx.2; revert this; decide)
theorem enm_keep {n B : Nat} {w w' : World} {v : Value} {xs : List (List Nat × List Pl.Cas)} (hc : Ch (Xp n) w w') (h : Rows 68 2 (EnmR B) B w v xs) : Rows 68 2 (EnmR B) B w' v xs :=
  h.ch hc (fun a c h => EnmR.ch (n := n) (Tr := 43) (.inl rfl) (hc.mono (fun _ _ h => .inl h)) a c h) (fun k _ hx => by have := hx.2; revert this; decide)
theorem svc_keep {n B : Nat} {w w' : World} {v : Value} {xs : List (List Nat × List Pl.Mth)} (hc : Ch (Xp n) w w') (h : Rows 73 2 (SvcR B) B w v xs) : Rows 73 2 (SvcR B) B w' v xs :=
  h.ch hc (fun a c h => SvcR.ch (n := n) (Tr := 43) (.inl rfl) (hc.mono (fun _ _ h => .inl h)) a c h) (fun k _ hx => by have := hx.2; revert this; decide)
theorem sct_keepT {n B : Nat} {Tr : TypeId} {w w' : World} {v : Value} {xs : List (List Nat × List Pl.Fld)} (hT : 43 ≠ Tr) (hi : isTr Tr) (hc : Ch (Xt n B Tr) w w') (h : Rows 43 2 (SctR B) B w v xs) : Rows 43 2 (SctR B) B w' v xs :=
  h.ch hc (fun a c h => SctR.ch hi hc a c h) (fun k _ => Xt.not (by decide) hT)
theorem enm_keepT {n B : Nat} {Tr : TypeId} {w w' : World} {v : Value} {xs : List (List Nat × List Pl.Cas)} (hT : 68 ≠ Tr) (hi : isTr Tr) (hc : Ch (Xt n B Tr) w w') (h : Rows 68 2 (EnmR B) B w v xs) : Rows 68 2 (EnmR B) B w' v xs :=
  h.ch hc (fun a c h => EnmR.ch hi hc a c h) (fun k _ => Xt.not (by decide) hT)
theorem svc_keepT {n B : Nat} {Tr : TypeId} {w w' : World} {v : Value} {xs : List (List Nat × List Pl.Mth)} (hT : 73 ≠ Tr) (hi : isTr Tr) (hc : Ch (Xt n B Tr) w w') (h : Rows 73 2 (SvcR B) B w v xs) : Rows 73 2 (SvcR B) B w' v xs :=
  h.ch hc (fun a c h => SvcR.ch hi hc a c h) (fun k _ => Xt.not (by decide) hT)

set_option maxHeartbeats 16000000 in
set_option maxRecDepth 4000 in
theorem readAll_any (B n : Nat) (sv : Value) (l : List T3) (hbig : l.length ≤ 1000000) (hG : GoodT l) (W : World) (h : SchI B n sv [] W 0) (hS : TSeg W sv (l.map toZ)) (hBn : B ≤ n) (hsB : 0 < l.length → ∀ g, sv.ownBlock = some g → g < B) :
    Calls Try.prog 18 #[.pointer (some ⟨n, 0, none⟩)] W (ReadA B n sv l W (Pl.declsP 64 (l.map kt3))) := by
  generalize hRES : Pl.declsP 64 (l.map kt3) = RES
  have HR := hid hRES
  have HS := hid hS
  have HG := hid hG
  have HXp : Hid (∀ g T, Xp n g T → Xa B g T) := fun g T h => ⟨by rw [h.1]; exact hBn, .inl h.2⟩
  have HSB := hid hsB
  have HI := hid h
  clear hRES hG hS hsB h
  go_enter Try.func18, Try.ntmps18
  go_wp2_with fail
  go_loopw [2] (fun v wr => ∃ (ds : List Pl.Decl) (j : Nat), v = .int .i64 (ds.length : Int) ∧ ds.length ≤ 64 ∧ j ≤ l.length ∧ preR ds (Pl.declsP (64 - ds.length) ((l.drop j).map kt3)) = RES ∧ SchI B n sv ds wr j ∧ Ch (Xa B) W wr) (fun v _ => 65 - (intOf v).toNat)
  case atStart =>
    refine ⟨[], 0, rfl, by simp, Nat.zero_le _, ?_, HI.out, Ch.refl _ _⟩
    rw [← HR.out]
    simp only [List.length_nil, Nat.sub_zero, List.drop_zero]
    generalize Pl.declsP 64 (l.map kt3) = R
    cases R <;> rfl
  case round =>
    obtain ⟨ds, j, rfl, hds, hj, hT, hI, hC⟩ := hrel
    have HT := hid hT
    obtain ⟨s1, s2, s3, hP, hR1, hR2, hR3⟩ := hI
    obtain ⟨a0, cp0, hsv, -⟩ := id HS.out
    rw [List.length_map] at hsv
    have hov : ∀ Wx, Below wr.heap.size wr Wx → Calls Try.prog 27 #[.pointer (some ⟨n, 0, none⟩)] Wx fun e w' => e = .returned (.bool (decide (j = l.length))) ∧ ∃ m, w' = Wx.drewN m := by
      intro Wx hb
      have hPx := hP.below hb
      rw [hsv] at hPx
      exact pover_any n _ l.length cp0 _ Wx j hPx
    have hov1 := hov wr (Below.refl _ _)
    clear hT hov HR HI
    have HSV := hid hsv
    clear hsv
    by_cases hend : j = l.length
    · rw [decide_eq_true hend] at hov1
      have hRe : preR ds (Pl.Res.ok [] []) = RES := by
        have := HT.out
        rw [List.drop_of_length_le (by omega)] at this
        simp only [List.map_nil] at this
        rw [← this]
        cases (64 - ds.length) <;> rfl
      have HRe : Hid (Pl.Res.ok ds ((l.drop j).map kt3) = RES) := by
        rw [← hRe, List.drop_of_length_le (by omega)]
        simp [preR, Pl.Res.bind, Hid]
      clear hRe HT hend
      go_wp2_with fail
      refine hov1.mono ?_
      rintro e w2 ⟨rfl, q, rfl⟩
      have hb := below_drewN (Below.refl wr.heap.size wr) q
      go_wp2
      go_end0
      rw [← HRe.out]
      have hcx : Ch (fun _ _ => False) wr (wr.drewN q) := Ch.below hb
      exact ⟨j, rfl, hj, rfl, ⟨s1, s2, s3, hP.below hb, hR1.ch hcx (fun a c h => SctR.ch (n := n) (Tr := 43) (.inl rfl) (hcx.mono (fun _ _ h => h.elim)) a c h) (fun k _ h => h), hR2.ch hcx (fun a c h => EnmR.ch (n := n) (Tr := 43) (.inl rfl) (hcx.mono (fun _ _ h => h.elim)) a c h) (fun k _ h => h), hR3.ch hcx (fun a c h => SvcR.ch (n := n) (Tr := 43) (.inl rfl) (hcx.mono (fun _ _ h => h.elim)) a c h) (fun k _ h => h)⟩, hC.bel hb⟩
    · rw [decide_eq_false hend] at hov1
      have hl : 0 < l.length := by omega
      have HsB := hid (HSB.out hl)
      have HNa : Hid (∀ g, sv.ownBlock = some g → ∀ T, ¬ Xa B g T) := fun g hg T hq => by
        have := HsB.out g hg
        have := hq.1
        omega
      have hne : (l.drop j).map kt3 ≠ [] := by
        intro he
        have := congrArg List.length he
        simp at this
        omega
      have hT2 := HT.out
      rw [decls_step ds.length hds _ hne] at hT2
      have HT2 := hid hT2
      clear hT2 HT hne hend
      go_wp2_with fail
      refine hov1.mono ?_
      rintro e w1 ⟨rfl, q, rfl⟩
      have hb1 := below_drewN (Below.refl wr.heap.size wr) q
      have hcx : Ch (fun _ _ => False) wr (wr.drewN q) := Ch.below hb1
      have hP1 := hP.below hb1
      have hC1 := hC.bel hb1
      have hR1' : Rows 43 2 (SctR B) B (wr.drewN q) s1 (stOf ds) := hR1.ch hcx (fun a c h => SctR.ch (n := n) (Tr := 43) (.inl rfl) (hcx.mono (fun _ _ h => h.elim)) a c h) (fun k _ h => h)
      have hR2' : Rows 68 2 (EnmR B) B (wr.drewN q) s2 (enOf ds) := hR2.ch hcx (fun a c h => EnmR.ch (n := n) (Tr := 43) (.inl rfl) (hcx.mono (fun _ _ h => h.elim)) a c h) (fun k _ h => h)
      have hR3' : Rows 73 2 (SvcR B) B (wr.drewN q) s3 (svOf ds) := hR3.ch hcx (fun a c h => SvcR.ch (n := n) (Tr := 43) (.inl rfl) (hcx.mono (fun _ _ h => h.elim)) a c h) (fun k _ h => h)
      clear hP hC hR1 hR2 hR3 hcx hb1 hov1
      generalize wr.drewN q = w1 at *
      have hmo : ∀ Wx, Below w1.heap.size w1 Wx → ∀ bv, FitsT Wx bv Pl.decT → Calls Try.prog 28 #[.pointer (some ⟨n, 0, none⟩), .int .i64 (ds.length : Int), .int .i64 ((64 : Nat) : Int), bv] Wx (Runs l n sv [s1, s2, s3] Wx (moreP Pl.decT ds.length 64 ((l.drop j).map kt3)) (fun k v _ => ∃ t, t ∈ l ∧ k = kt3 t ∧ v = tokV t)) := fun Wx hb bv hF => pmore_any n sv l [s1, s2, s3] Wx j (hP1.below hb) (HS.out.ch (hC1.bel hb) HNa.out) hl hbig hj bv _ hF ds.length 64
      have HX4 := HT2.out
      clear HT2
      go_wp2_with fail
      generalize hR4 : moreP Pl.decT ds.length 64 ((l.drop j).map kt3) = R4 at *
      cases R4 with
      | bad r er =>
        subst HX4
        refine wp_region_drawn2 (pred := fun jx v w => match jx with | 0 => v = .pointer (some ⟨n, 0, none⟩) | 1 => v = .pointer (some ⟨n, 0, none⟩) | 2 => v = .pointer (some ⟨n, 0, none⟩) | 3 => v = .int .i64 (ds.length : Int) | 4 => Strs w v [sStruct, sEnum, sService] | 5 => FitsT w v Pl.decT | 6 => False | 7 => False | _ => True) (R := fun Wx => Below w1.heap.size w1 Wx) (by kernel_rfl) (by kernel_rfl) (by kernel_rfl) ?mono (Below.refl _ _).drew ?step ?done
        case mono =>
          intro jx v Wx Wy hp hb
          rcases jx with _ | _ | _ | _ | _ | _ | _ | _ | jx
          · exact hp
          · exact hp
          · exact hp
          · exact hp
          · exact Strs.below hp hb
          · exact FitsT.ch hp (Ch.below hb)
          · exact hp
          · exact hp
          · exact hp
        case step =>
          intro ix o ho A Wx hsz hdf hfr hdep hR
          rcases ix with _ | _ | _ | _ | _ | _ | _ | _ | ix
          · injection ho with ho
            subst ho
            have e0 : A.eval (.tmp 0) = .pointer (some ⟨n, 0, none⟩) := (hfr 0 (noDst_spec (by kernel_rfl))).trans rfl
            exact gOp_mv rfl (wanted_plain rfl) (.inl rfl) e0 ⟨_, rfl, rfl, Below.refl _ _, hR⟩
          · injection ho with ho
            subst ho
            have e10 : A.eval (.tmp 10) = .pointer (some ⟨n, 0, none⟩) := hdep ⟨0, .data⟩ (by simp) rfl _ _ rfl rfl
            exact gOp_nil rfl (wanted_plain rfl) rfl e10 ⟨_, rfl, rfl, Below.refl _ _, hR⟩
          · injection ho with ho
            subst ho
            have e11 : A.eval (.tmp 11) = .pointer (some ⟨n, 0, none⟩) := hdep ⟨1, .data⟩ (by simp) rfl _ _ rfl rfl
            exact gOp_fld (v := .pointer (some ⟨n, 0, none⟩)) rfl (wanted_plain rfl) rfl e11 (by go_simp) ⟨_, rfl, rfl, Below.refl _ _, hR⟩
          · injection ho with ho
            subst ho
            have e2 : A.eval (.tmp 2) = .int .i64 (ds.length : Int) := (hfr 2 (noDst_spec (by kernel_rfl))).trans rfl
            exact gOp_mv rfl (wanted_plain rfl) (.inl rfl) e2 ⟨_, rfl, rfl, Below.refl _ _, hR⟩
          · injection ho with ho
            subst ho
            exact gOp_ok (v := .slice (some ⟨Wx.heap.size, 0, none⟩) 3 3) rfl (wanted_plain rfl) (w' := Wx.alloc (.cells #[.string ⟨#[115, 116, 114, 117, 99, 116]⟩, .string ⟨#[101, 110, 117, 109]⟩, .string ⟨#[115, 101, 114, 118, 105, 99, 101]⟩] 9)) (run_bslice rfl (by go_simp)) ⟨_, rfl, ⟨_, rfl, heap_alloc_new Wx _⟩, below_alloc Wx _, hR.trans ((below_alloc Wx _).mono hR.size)⟩
          · injection ho with ho
            subst ho
            have hst3 : Strs Wx _ [sStruct, sEnum, sService] := hdep ⟨4, .data⟩ (by simp) rfl _ _ rfl rfl
            refine gOp_enter rfl (wanted_plain rfl) 29 #[A.tmps.getD 14 undef] (run_call _ (fun _ _ => rfl) _ _ rfl _ (by simp [Act.eval])) ?_
            refine (poneOf_any _ [sStruct, sEnum, sService] (by decide) Wx hst3).mono ?_
            rintro e w' ⟨fv, rfl, hF, hb⟩
            exact ⟨_, rfl, _, rfl, dec_fits hF, hb, hR.trans (hb.mono hR.size)⟩
          · injection ho with ho
            subst ho
            have e12 : A.eval (.tmp 12) = .pointer (some ⟨n, 0, none⟩) := hdep ⟨2, .data⟩ (by simp) rfl _ _ rfl rfl
            have e13 : A.eval (.tmp 13) = .int .i64 (ds.length : Int) := hdep ⟨3, .data⟩ (by simp) rfl _ _ rfl rfl
            have hf4 : FitsT Wx _ Pl.decT := hdep ⟨5, .data⟩ (by simp) rfl _ _ rfl rfl
            refine gOp_dies rfl (wanted_plain rfl) 28 #[.pointer (some ⟨n, 0, none⟩), .int .i64 (ds.length : Int), .int .i64 ((64 : Nat) : Int), _] (run_call _ (fun _ _ => rfl) _ _ rfl _ (by simp [e12, e13]; exact ⟨rfl, rfl⟩)) ?_
            refine (hmo Wx hR _ hf4).mono ?_
            rintro e wz ⟨iz, rfl, hiz, hrz, hCz⟩
            exact ⟨_, rfl, hdf, iz, rfl, hiz, hrz, hC1.trans ((Ch.below hR).trans (hCz.mono HXp.out))⟩
          · injection ho with ho
            subst ho
            exact (hdep ⟨6, .data⟩ (by simp) rfl _ _ rfl rfl).elim
          · simp at ho
        case done =>
          intro A Wx _ _ _ hcome _
          exact (hcome 6 _ _ rfl rfl).elim
      | ok kk r =>
        obtain ⟨hdt, hmk⟩ := more_ok hR4
        simp only [ok_bind] at HX4
        have HX5 := hid HX4
        have hln1 := hP1.facts.2.2.2
        have hbo : Below w1.heap.size w1 (w1.alloc (.cells #[.string ⟨#[115, 116, 114, 117, 99, 116]⟩, .string ⟨#[101, 110, 117, 109]⟩, .string ⟨#[115, 101, 114, 118, 105, 99, 101]⟩] 9)).drew := (below_alloc w1 _).drew
        have hst3 : Strs (w1.alloc (.cells #[.string ⟨#[115, 116, 114, 117, 99, 116]⟩, .string ⟨#[101, 110, 117, 109]⟩, .string ⟨#[115, 101, 114, 118, 105, 99, 101]⟩] 9)).drew (.slice (some ⟨w1.heap.size, 0, none⟩) 3 3) [sStruct, sEnum, sService] := ⟨_, rfl, (Bx.new w1 [.string sStruct, .string sEnum, .string sService] 9).below (Below.refl _ _).drew⟩
        have hpo := poneOf_any _ [sStruct, sEnum, sService] (by decide) _ hst3
        have hft := run_text
        clear HX4 hR4
        go_upto_region 3 with fail
        go_cut [17] (fun v wx => ∃ (t : T3) (i5 : Nat), t ∈ l ∧ kk = kt3 t ∧ v = .string t.2.1 ∧ i5 ≤ l.length ∧ r = (l.drop i5).map kt3 ∧ Pos n sv [s1, s2, s3] wx i5 ∧ Ch (Xp n) w1 wx)
        case first =>
          go_region_law (first
            | (refine step_call1p (v := .slice (some ⟨w1.heap.size, 0, none⟩) 3 3) (o := { dst := some 15, op := .call { callee := .value (.func 29), args := #[.tmp 14], argTypes := #[101] }, type := _, pos := _, after := _, guard := none }) 29 (fun _ _ => rfl) rfl 14 _ rfl (by simp) ?_; refine hpo.mono ?_; rintro e w5 ⟨fv5, rfl, hF5, hb5⟩; obtain ⟨fk5, cap5, hfv5, -⟩ := id hF5; subst hfv5; refine .inl ⟨_, rfl, ?_⟩; have hbo5 := below_next hbo hb5; have hmo5 := hmo _ hbo5 _ (dec_fits hF5))
            | (refine step_callGp (o := { dst := some 16, op := .call { callee := .value (.func 28), args := #[.tmp 12, .tmp 13, .const (.int .i64 64), .tmp 15], argTypes := #[57, 3, 3, 81] }, type := _, pos := _, after := _, guard := none }) 28 (fun _ _ => rfl) rfl #[.tmp 12, .tmp 13, .const (.int .i64 64), .tmp 15] _ rfl #[.pointer (some ⟨n, 0, none⟩), .int .i64 (ds.length : Int), .int .i64 ((64 : Nat) : Int), .func (.func fk5) #[] cap5] (by simp [Act.eval]) ?_; refine hmo5.mono ?_; rintro e w6 ⟨v6, i5, rfl, hi5, hr5, hP5, ⟨t6, ht6, hk6, rfl⟩, hC6⟩; refine ⟨_, rfl, ?_⟩; unfold tokV))
          all_goals
            go_wp2
            go_meet
            exact ⟨t6, i5, ht6, hk6, rfl, hi5, hr5, hP5, (Ch.below hbo5).trans hC6⟩
        case rest =>
          obtain ⟨t, i5, htl, rfl, rfl, hi5, rfl, hP5, hc5⟩ := hcut
          generalize wc = w5 at *
          have hC5 : Ch (Xa B) W w5 := hC1.trans (hc5.mono HXp.out)
          have hQ1 := sct_keep hc5 hR1'
          have hQ2 := enm_keep hc5 hR2'
          have hQ3 := svc_keep hc5 hR3'
          clear hR1' hR2' hR3' hc5 hP1 hC1 hmo hbo hst3 hpo hft
          obtain ⟨k, x, ln⟩ := t
          have hkx : (kt3 (k, x, ln)).2 = bl x := rfl
          have HX9 := HX5.out
          unfold Pl.declP at HX9
          rw [hkx] at HX9
          simp only at ⊢
          by_cases h1 : bl x = Pl.wStruct
          · have hx : x = sStruct := bl_inj h1
            rw [if_pos h1, bind_assoc] at HX9
            simp only [ok_bind] at HX9
            clear HX5
            have HX5 := hid HX9
            clear HX9 hkx h1 hdt htl
            subst hx
            unfold sStruct
            have hrd := readF B n sv l s1 s2 s3 hl hbig HG.out w5 i5 hP5 (HS.out.ch hC5 HNa.out) hi5 hBn HsB.out (stOf ds) (by have := st_len ds; omega) hQ1
            clear hP5
            go_wp2_with fail
            refine hrd.mono ?_
            clear hrd
            have HX6 := HX5.out
            clear HX5
            generalize Pl.bodyP Pl.numT Pl.fieldP ((l.drop i5).map kt3) = R5 at *
            cases R5 with
            | bad r er =>
              rintro e wz ⟨iz, rfl, hiz, hrz, hCz⟩
              subst HX6
              exact ⟨rfl, iz, rfl, hiz, hrz, hC5.trans (hCz.mono (Xt.a hBn (.inl rfl)))⟩
            | ok a r =>
              rintro e w6 ⟨i6, u', rfl, hi6, rfl, hP6, hRn, hc6⟩
              simp only [ok_bind] at HX6
              rw [preR_preR] at HX6
              have HX7 := hid HX6
              have hC6 := hC5.trans (hc6.mono (Xt.a hBn (.inl rfl)))
              clear HX6
              go_wp2
              refine ⟨⟨ds ++ [Pl.Decl.st a.1 a.2], i6, ?_, ?_, hi6, ?_, ⟨u', s2, s3, hP6, ?_, ?_, ?_⟩, hC6⟩, ?_⟩
              · rw [List.length_append]
                go_num
              · rw [List.length_append]
                simp
                omega
              · rw [List.length_append]
                exact HX7.out
              · rw [st_app]
                exact hRn
              · rw [en_app, show enOf [Pl.Decl.st a.1 a.2] = [] from rfl, List.append_nil]
                exact (enm_keepT (Tr := 43) (by decide) (.inl rfl) hc6 hQ2)
              · rw [sv_app, show svOf [Pl.Decl.st a.1 a.2] = [] from rfl, List.append_nil]
                exact (svc_keepT (Tr := 43) (by decide) (.inl rfl) hc6 hQ3)
              · simp [intOf]
                omega
          · rw [if_neg h1] at HX9
            by_cases h2 : bl x = Pl.wEnum
            · have hx : x = sEnum := bl_inj h2
              rw [if_pos h2, bind_assoc] at HX9
              simp only [ok_bind] at HX9
              clear HX5
              have HX5 := hid HX9
              clear HX9 hkx h1 h2 hdt htl
              subst hx
              unfold sEnum
              have hrd := readC B n sv l s1 s2 s3 hl hbig HG.out w5 i5 hP5 (HS.out.ch hC5 HNa.out) hi5 hBn HsB.out (enOf ds) (by have := en_len ds; omega) hQ2
              clear hP5
              go_wp2_with fail
              refine hrd.mono ?_
              clear hrd
              have HX6 := HX5.out
              clear HX5
              generalize Pl.bodyP Pl.numT Pl.caseP ((l.drop i5).map kt3) = R5 at *
              cases R5 with
              | bad r er =>
                rintro e wz ⟨iz, rfl, hiz, hrz, hCz⟩
                subst HX6
                exact ⟨rfl, iz, rfl, hiz, hrz, hC5.trans (hCz.mono (Xt.a hBn (.inr (.inl rfl))))⟩
              | ok a r =>
                rintro e w6 ⟨i6, u', rfl, hi6, rfl, hP6, hRn, hc6⟩
                simp only [ok_bind] at HX6
                rw [preR_preR] at HX6
                have HX7 := hid HX6
                have hC6 := hC5.trans (hc6.mono (Xt.a hBn (.inr (.inl rfl))))
                clear HX6
                go_wp2
                refine ⟨⟨ds ++ [Pl.Decl.en a.1 a.2], i6, ?_, ?_, hi6, ?_, ⟨s1, u', s3, hP6, ?_, ?_, ?_⟩, hC6⟩, ?_⟩
                · rw [List.length_append]
                  go_num
                · rw [List.length_append]
                  simp
                  omega
                · rw [List.length_append]
                  exact HX7.out
                · rw [st_app, show stOf [Pl.Decl.en a.1 a.2] = [] from rfl, List.append_nil]
                  exact (sct_keepT (Tr := 68) (by decide) (.inr (.inl rfl)) hc6 hQ1)
                · rw [en_app]
                  exact hRn
                · rw [sv_app, show svOf [Pl.Decl.en a.1 a.2] = [] from rfl, List.append_nil]
                  exact (svc_keepT (Tr := 68) (by decide) (.inr (.inl rfl)) hc6 hQ3)
                · simp [intOf]
                  omega
            · have h3 : bl x = Pl.wService := by
                simp only [Pl.decT, hkx, Bool.or_eq_true, decide_eq_true_eq] at hdt
                rcases hdt with (h | h) | h
                · exact absurd h h1
                · exact absurd h h2
                · exact h
              have hx : x = sService := bl_inj h3
              rw [if_neg h2, bind_assoc] at HX9
              simp only [ok_bind] at HX9
              clear HX5
              have HX5 := hid HX9
              clear HX9 hkx h1 h2 h3 hdt htl
              subst hx
              unfold sService
              have hrd := readM B n sv l s1 s2 s3 hl hbig HG.out w5 i5 hP5 (HS.out.ch hC5 HNa.out) hi5 hBn HsB.out (svOf ds) (by have := sv_len ds; omega) hQ3
              clear hP5
              go_wp2_with fail
              refine hrd.mono ?_
              clear hrd
              have HX6 := HX5.out
              clear HX5
              generalize Pl.bodyP Pl.onrT Pl.methodP ((l.drop i5).map kt3) = R5 at *
              cases R5 with
              | bad r er =>
                rintro e wz ⟨iz, rfl, hiz, hrz, hCz⟩
                subst HX6
                exact ⟨rfl, iz, rfl, hiz, hrz, hC5.trans (hCz.mono (Xt.a hBn (.inr (.inr rfl))))⟩
              | ok a r =>
                rintro e w6 ⟨i6, u', rfl, hi6, rfl, hP6, hRn, hc6⟩
                simp only [ok_bind] at HX6
                rw [preR_preR] at HX6
                have HX7 := hid HX6
                have hC6 := hC5.trans (hc6.mono (Xt.a hBn (.inr (.inr rfl))))
                clear HX6
                go_wp2
                refine ⟨⟨ds ++ [Pl.Decl.sv a.1 a.2], i6, ?_, ?_, hi6, ?_, ⟨s1, s2, u', hP6, ?_, ?_, ?_⟩, hC6⟩, ?_⟩
                · rw [List.length_append]
                  go_num
                · rw [List.length_append]
                  simp
                  omega
                · rw [List.length_append]
                  exact HX7.out
                · rw [st_app, show stOf [Pl.Decl.sv a.1 a.2] = [] from rfl, List.append_nil]
                  exact (sct_keepT (Tr := 73) (by decide) (.inr (.inr rfl)) hc6 hQ1)
                · rw [en_app, show enOf [Pl.Decl.sv a.1 a.2] = [] from rfl, List.append_nil]
                  exact (enm_keepT (Tr := 73) (by decide) (.inr (.inr rfl)) hc6 hQ2)
                · rw [sv_app]
                  exact hRn
                · simp [intOf]
                  omega
end Go.Proofs.Ythdooemgnpiomaa
