/- parse: a service is read. -/
import Derived.Test.YthdooemgnpiomaaQR
namespace Go.Proofs.Ythdooemgnpiomaa
open Go.RowKit

theorem onr_fits {w : World} {fv : Value} (h : FitsT w fv (fun t => memB [sOnce, sRead] t.2)) : FitsT w fv Pl.onrT := by
  have e : (fun t : Pl.Kt => memB [sOnce, sRead] t.2) = Pl.onrT := by
    funext t
    simp only [memB, List.any_cons, List.any_nil, Bool.or_false, Pl.onrT]
    rfl
  rw [← e]
  exact h
theorem run_bslice {P : Program} {w w' : World} {o : Oper} {a : Act} {T : TypeId} {len : Nat} {parts : Array (Nat × Operand)} {v : Value} (hop : o.op = .buildSlice T len parts) (hr : (Instr.buildSlice T len (parts.map fun (i, x) => (i, a.eval x))).run P w = .ok v w') : (execOp a.eval o).run P w = .ok (.value v) w' := by
  simp [execOp, hop, hr]
theorem run_mkf {P : Program} {w : World} {o : Oper} {a : Act} {fn : Fn} {first cap : Array Operand} {vs : Array Value} (hop : o.op = .makeFunc fn first cap) (hs : (first.map a.eval, cap.map a.eval) = (#[], vs)) : (execOp a.eval o).run P w = .ok (.value (.func fn #[] vs)) w := by
  simp only [Prod.mk.injEq] at hs
  simp only [execOp, hop, hs.1, hs.2]
  rfl
theorem step_call3p {P : Program} {w : World} {ops : Array Oper} {o : Oper} {a : Act} {K : Act → World → Prop} {Q : Exit → Act → World → Prop} {E : Prop} {v u z : Value} (f : Nat) (eg : ∀ args w, (callFunc f args).run P w = .ok (.enter f args) w) (hg : o.guard = none) (s t q : Nat) (ts : Array TypeId) (hop : o.op = .call { callee := .value (.func f), args := #[.tmp s, .tmp t, .tmp q], argTypes := ts }) (hs : a.tmps.getD s undef = v) (ht : a.tmps.getD t undef = u) (hq : a.tmps.getD q undef = z)
    (h : Calls P f #[v, u, z] w fun e w' => ∃ x, e = .returned x ∧ K (a.put o.dst x) w') : if Region.wanted o (yielded ops a.tmps) = true then Oper.wp P o a w K Q else E := by
  have hw : Region.wanted o (yielded ops a.tmps) = true := by simp [Region.wanted, hg]
  rw [if_pos hw]
  unfold Oper.wp
  have hs' : a.eval (.tmp s) = v := hs
  have ht' : a.eval (.tmp t) = u := ht
  have hq' : a.eval (.tmp q) = z := hq
  have hrun : (execOp a.eval o).run P w = .ok (.enter f #[v, u, z]) w := by
    simp [execOp, hop, hs', ht', hq', resolve, invoke, show a.eval (.func f) = .func (.func f) #[] #[] from rfl, Deferred.ofValue, eg]
  rw [hrun]
  refine h.mono ?_
  rintro e w' ⟨x, rfl, hk⟩
  exact hk

theorem Try.info73 : (Try.prog.info? 73).map (fun i => (i.zero, i.size, i.bytes)) = some (some (.agg #[.string ⟨#[]⟩, .slice none 0 0]), 2, 40) := by kernel_rfl

set_option maxHeartbeats 16000000 in
set_option maxRecDepth 4000 in
theorem readM (B n : Nat) (sv : Value) (l : List T3) (s1 s2 s3 : Value) (hl : 0 < l.length) (hbig : l.length ≤ 1000000) (hG : GoodT l) (W : World) (i : Nat) (h : Pos n sv [s1, s2, s3] W i) (hS : TSeg W sv (l.map toZ)) (hi : i ≤ l.length) (hBn : B ≤ n) (hsB : ∀ g, sv.ownBlock = some g → g < B) (xs : List (List Nat × List Pl.Mth)) (hx : xs.length < 100) (hRo : Rows 73 2 (SvcR B) B W s3 xs) :
    Calls Try.prog 32 #[.pointer (some ⟨n, 0, none⟩)] W (ReadD n B 73 l sv (fun u' => [s1, s2, u']) (SvcR B) xs W (Pl.bodyP Pl.onrT Pl.methodP ((l.drop i).map kt3))) := by
  have hpure : Pl.bodyP Pl.onrT Pl.methodP ((l.drop i).map kt3) = (Pl.takeP Pl.nameT ((l.drop i).map kt3)).bind fun nn r => ((Pl.takeP (Pl.isT [123]) r).bind fun _ r => Pl.partsP Pl.onrT Pl.methodP 32 r).bind fun xs r => .ok (nn.2, xs) r := by
    unfold Pl.bodyP
    congr 1
    funext nn r
    rw [bind_assoc]
  rw [hpure]
  generalize hRES : ((Pl.takeP Pl.nameT ((l.drop i).map kt3)).bind fun nn r => ((Pl.takeP (Pl.isT [123]) r).bind fun _ r => Pl.partsP Pl.onrT Pl.methodP 32 r).bind fun xs r => Pl.Res.ok (nn.2, xs) r) = RES
  have HR := hid hRES
  have HS := hid hS
  have HG := hid hG
  obtain ⟨n1, hn1⟩ : ∃ n1, n1 = W.heap.size := ⟨_, rfl⟩
  have hlt : n < W.heap.size := h.facts.2.2.2
  have HNN : Hid (n < n1) := by rw [hn1]; exact hlt
  have HN : Hid (∀ g, sv.ownBlock = some g → g ≠ n) := fun g hg => by have := hsB g hg; omega
  have HNq : Hid (∀ g, sv.ownBlock = some g → ∀ T, ¬ Xq n n1 g T) := fun g hg T hq => by
    have := hsB g hg
    rcases hq with hq | hq
    · have := hq.1
      omega
    · have := HNN.out
      omega
  have hmf : ∀ (fn : Fn) (first cap : Array Value) (w : World), (Instr.makeFunc fn first cap).run Try.prog w = .ok (.func fn first cap) w := fun _ _ _ _ => rfl
  clear hRES hpure hG
  go_enter Try.func32, Try.ntmps32
  go_wp2_with fail
  have hb1 := below_alloc W (.cells #[.pointer (some ⟨n, 0, none⟩)] 79)
  have hBr1 := Bx.new W [.pointer (some ⟨n, 0, none⟩)] 79
  obtain ⟨rb, hrb⟩ : ∃ rb, rb = W.heap.size := ⟨_, rfl⟩
  rw [← hrb] at hBr1 ⊢
  have HRB : Hid (n1 ≤ rb) := by rw [hn1, hrb]; exact Nat.le_refl _
  have hnr : rb ≠ n := by omega
  have hP1 := h.below hb1
  have hC1 : Ch (Xp n) W _ := Ch.below hb1
  change Bx (W.alloc (.cells #[.pointer (some ⟨n, 0, none⟩)] 79)) _ _ _ at hBr1
  generalize (W.alloc (.cells #[.pointer (some ⟨n, 0, none⟩)] 79)) = w1 at *
  have htn := ptakeName_any n sv l [s1, s2, s3] w1 i hP1 (HS.out.pos hC1 HN.out) hl hbig hi HG.out
  have Hn1 := hid hn1
  clear hrb hb1 hP1 hS h hn1
  have HX1 := HR.out
  clear HR
  refine htn.mono ?_
  clear htn
  generalize Pl.takeP Pl.nameT ((l.drop i).map kt3) = R1 at *
  cases R1 with
  | bad r er =>
    rintro e wz ⟨iz, rfl, hiz, hrz, hCz⟩
    subst HX1
    exact ⟨rfl, iz, rfl, hiz, hrz, (hC1.trans hCz).mono (fun _ _ h => .inl h)⟩
  | ok kk1 r1 =>
    simp only [ok_bind] at HX1
    rintro e w2 ⟨v2, i3, rfl, hi3, rfl, hP2, ⟨nm, rfl, hnm⟩, hc2⟩
    have HR := hid HX1
    have Hnm := hid hnm
    clear HX1 hnm
    have hC2 := hC1.trans hc2
    have hBr2 := hBr1.ch hc2 (fun hx => hnr hx.1)
    clear hC1 hc2 hBr1
    have y0 := (hBr2.alloc (.cells #[.string nm, .slice none 0 0] 73)).cell 0 rfl
    have hb4 := below_alloc w2 (.cells #[.string nm, .slice none 0 0] 73)
    have hBs4 := Bx.new w2 [.string nm, .slice none 0 0] 73
    obtain ⟨sb, hsb⟩ : ∃ sb, sb = w2.heap.size := ⟨_, rfl⟩
    have hlr2 := hBr2.lt
    have hw2 := hC2.size
    have hPl2 := hP2.facts.2.2.2
    have hsbn : sb ≠ n := by omega
    have HSB : Hid (n1 ≤ sb) := by rw [Hn1.out, hsb]; exact hw2
    rw [← hsb] at hBs4
    have hP4 := hP2.below hb4
    have hBr4 := hBr2.below hb4
    have hCq4 : Ch (Xq n n1) W _ := (hC2.bel hb4).mono (fun _ _ h => .inl h)
    have hI4 : InvM n n1 sb rb nm [] _ := ⟨_, hBs4, Rows.nil _ _ _ _ _, hBr4⟩
    have hBr4' := hBr4
    go_wp2_with fail
    rw [← hsb]
    clear hsb y0
    generalize w2.alloc (.cells #[.string nm, .slice none 0 0] 73) = w4 at *
    have hpp : ∀ W4, Below w4.heap.size w4 W4 → ∀ bv, FitsT W4 bv Pl.onrT → Calls Try.prog 51 #[.pointer (some ⟨n, 0, none⟩), bv, .func (.func 57) #[] #[.pointer (some ⟨sb, 0, none⟩), .pointer (some ⟨rb, 0, none⟩)]] W4 (RunsX (Xq n n1) l n sv [s1, s2, s3] W4 ((Pl.takeP (Pl.isT [123]) ((l.drop i3).map kt3)).bind fun _ r => Pl.partsP Pl.onrT Pl.methodP 32 r) (InvM n n1 sb rb nm)) := fun W4 hb bv hF => pparts_any (Xq n n1) n sv l [s1, s2, s3] hl hbig W4 i3 (hP4.below hb) (HS.out.ch (hCq4.bel hb) HNq.out) hi3 (fun _ _ h => .inl h) (fun g T h => h.elim (fun h => Xp.s g T h) (fun h => h.2)) HNq.out Pl.onrT bv hF Pl.methodP (InvM n n1 sb rb nm) (InvM.keep hsbn _ _ _ hI4 (Ch.below hb)) (fun xs W W' h hc => InvM.keep hsbn xs W W' h hc) 57 #[.pointer (some ⟨sb, 0, none⟩), .pointer (some ⟨rb, 0, none⟩)] (fun _ _ => rfl)
      (fun xs W j t hC hI hP hj ht hbt hx => restM n n1 sb rb nm HNN.out HSB.out HRB.out sv l [s1, s2, s3] hl hbig HG.out W j hP (HS.out.ch ((hCq4.bel hb).trans hC) HNq.out) hj HN.out t ht xs hx hI)
    have HX4 := HR.out
    clear HR
    generalize ((Pl.takeP (Pl.isT [123]) ((l.drop i3).map kt3)).bind fun _ r => Pl.partsP Pl.onrT Pl.methodP 32 r) = R4 at *
    cases R4 with
    | bad r er =>
      subst HX4
      refine wp_region_drawn2 (pred := fun jx v w => match jx with | 0 => v = .pointer (some ⟨n, 0, none⟩) | 1 => v = .pointer (some ⟨n, 0, none⟩) | 2 => v = .pointer (some ⟨n, 0, none⟩) | 3 => Strs w v [sOnce, sRead] | 4 => FitsT w v Pl.onrT | 5 => v = .func (.func 57) #[] #[.pointer (some ⟨sb, 0, none⟩), .pointer (some ⟨rb, 0, none⟩)] | 6 => False | _ => True) (R := fun Wx => Below w4.heap.size w4 Wx) (by kernel_rfl) (by kernel_rfl) (by kernel_rfl) ?mono (Below.refl _ _).drew ?step ?done
      case mono =>
        intro jx v Wx Wy hp hb
        rcases jx with _ | _ | _ | _ | _ | _ | _ | jx
        · exact hp
        · exact hp
        · exact hp
        · exact Strs.below hp hb
        · exact FitsT.ch hp (Ch.below hb)
        · exact hp
        · exact hp
        · exact hp
      case step =>
        intro ix o ho A Wx hsz hdf hfr hdep hR
        rcases ix with _ | _ | _ | _ | _ | _ | _ | ix
        · injection ho with ho
          subst ho
          have e1 : A.eval (.tmp 1) = .pointer (some ⟨rb, 0, none⟩) := (hfr 1 (noDst_spec (by kernel_rfl))).trans rfl
          have z0 := (hBr4.below hR).cell 0 rfl
          exact gOp_ld (v := .pointer (some ⟨n, 0, none⟩)) rfl (wanted_plain rfl) rfl e1 (by go_simp) ⟨_, rfl, rfl, Below.refl _ _, hR⟩
        · injection ho with ho
          subst ho
          have e8 : A.eval (.tmp 8) = .pointer (some ⟨n, 0, none⟩) := hdep ⟨0, .data⟩ (by simp) rfl _ _ rfl rfl
          exact gOp_nil rfl (wanted_plain rfl) rfl e8 ⟨_, rfl, rfl, Below.refl _ _, hR⟩
        · injection ho with ho
          subst ho
          have e9 : A.eval (.tmp 9) = .pointer (some ⟨n, 0, none⟩) := hdep ⟨1, .data⟩ (by simp) rfl _ _ rfl rfl
          exact gOp_fld (v := .pointer (some ⟨n, 0, none⟩)) rfl (wanted_plain rfl) rfl e9 (by go_simp) ⟨_, rfl, rfl, Below.refl _ _, hR⟩
        · injection ho with ho
          subst ho
          exact gOp_ok (v := .slice (some ⟨Wx.heap.size, 0, none⟩) 2 2) rfl (wanted_plain rfl) (w' := Wx.alloc (.cells #[.string ⟨#[111, 110, 99, 101]⟩, .string ⟨#[114, 101, 97, 100]⟩] 9)) (run_bslice rfl (by go_simp)) ⟨_, rfl, ⟨_, rfl, heap_alloc_new Wx _⟩, below_alloc Wx _, hR.trans ((below_alloc Wx _).mono hR.size)⟩
        · injection ho with ho
          subst ho
          have hst3 : Strs Wx _ [sOnce, sRead] := hdep ⟨3, .data⟩ (by simp) rfl _ _ rfl rfl
          refine gOp_enter rfl (wanted_plain rfl) 29 #[A.tmps.getD 11 undef] (run_call _ (fun _ _ => rfl) _ _ rfl _ (by simp [Act.eval])) ?_
          refine (poneOf_any _ [sOnce, sRead] (by decide) Wx hst3).mono ?_
          rintro e w' ⟨fv, rfl, hF, hb⟩
          exact ⟨_, rfl, _, rfl, onr_fits hF, hb, hR.trans (hb.mono hR.size)⟩
        · injection ho with ho
          subst ho
          have e2 : A.eval (.tmp 2) = .pointer (some ⟨sb, 0, none⟩) := (hfr 2 (noDst_spec (by kernel_rfl))).trans rfl
          have e1 : A.eval (.tmp 1) = .pointer (some ⟨rb, 0, none⟩) := (hfr 1 (noDst_spec (by kernel_rfl))).trans rfl
          exact gOp_ok (v := .func (.func 57) #[] #[.pointer (some ⟨sb, 0, none⟩), .pointer (some ⟨rb, 0, none⟩)]) rfl (wanted_plain rfl) (run_mkf rfl (by simp [e2, e1])) ⟨_, rfl, rfl, Below.refl _ _, hR⟩
        · injection ho with ho
          subst ho
          have e10 : A.eval (.tmp 10) = .pointer (some ⟨n, 0, none⟩) := hdep ⟨2, .data⟩ (by simp) rfl _ _ rfl rfl
          have e13 : A.eval (.tmp 13) = .func (.func 57) #[] #[.pointer (some ⟨sb, 0, none⟩), .pointer (some ⟨rb, 0, none⟩)] := hdep ⟨5, .data⟩ (by simp) rfl _ _ rfl rfl
          have hf4 : FitsT Wx _ Pl.onrT := hdep ⟨4, .data⟩ (by simp) rfl _ _ rfl rfl
          refine gOp_dies rfl (wanted_plain rfl) 51 #[.pointer (some ⟨n, 0, none⟩), _, .func (.func 57) #[] #[.pointer (some ⟨sb, 0, none⟩), .pointer (some ⟨rb, 0, none⟩)]] (run_call _ (fun _ _ => rfl) _ _ rfl _ (by simp [e10, e13]; rfl)) ?_
          refine (hpp Wx hR _ hf4).mono ?_
          rintro e wz ⟨iz, rfl, hiz, hrz, hCz⟩
          have hCC : Ch (Xp n) W wz := by have := hCq4.trans ((Ch.below hR).trans hCz); rw [Hn1.out] at this; exact this.old
          exact ⟨_, rfl, hdf, iz, rfl, hiz, hrz, hCC.mono (fun _ _ h => .inl h)⟩
        · simp at ho
      case done =>
        intro A Wx _ _ _ hcome _
        exact (hcome 6 _ _ rfl rfl).elim
    | ok fl r =>
      have y0 := hBr4.cell 0 rfl
      have hlr4 := hBr4.lt
      have hcq4 := hCq4
      have hbo : Below w4.heap.size w4 (w4.alloc (.cells #[.string ⟨#[111, 110, 99, 101]⟩, .string ⟨#[114, 101, 97, 100]⟩] 9)).drew := (below_alloc w4 _).drew
      have hst3 : Strs (w4.alloc (.cells #[.string ⟨#[111, 110, 99, 101]⟩, .string ⟨#[114, 101, 97, 100]⟩] 9)).drew (.slice (some ⟨w4.heap.size, 0, none⟩) 2 2) [sOnce, sRead] := ⟨_, rfl, (Bx.new w4 [.string sOnce, .string sRead] 9).below (Below.refl _ _).drew⟩
      have hpo := poneOf_any _ [sOnce, sRead] (by decide) _ hst3
      go_upto_region 2 with fail
      go_cut [14] (fun v wx => v = .tuple #[] ∧ ∃ i5, i5 ≤ l.length ∧ r = (l.drop i5).map kt3 ∧ Pos n sv [s1, s2, s3] wx i5 ∧ InvM n n1 sb rb nm fl wx ∧ Ch (Xq n n1) W wx)
      case first =>
        go_region_law (first
          | (refine step_call1p (v := .slice (some ⟨w4.heap.size, 0, none⟩) 2 2) (o := { dst := some 12, op := .call { callee := .value (.func 29), args := #[.tmp 11], argTypes := #[101] }, type := _, pos := _, after := _, guard := none }) 29 (fun _ _ => rfl) rfl 11 _ rfl (by simp [Act.put]) ?_; refine hpo.mono ?_; rintro e w5 ⟨fv5, rfl, hF5, hb5⟩; obtain ⟨fk5, cap5, hfv5, -⟩ := id hF5; subst hfv5; refine .inl ⟨_, rfl, ?_⟩; have hbo5 := below_next hbo hb5; have hpp5 := hpp _ hbo5 _ (onr_fits hF5); have y5 := (hBr4.below hbo5).cell 0 rfl)
          | (refine step_call3p (v := .pointer (some ⟨n, 0, none⟩)) (u := .func (.func fk5) #[] cap5) (z := .func (.func 57) #[] #[.pointer (some ⟨sb, 0, none⟩), .pointer (some ⟨rb, 0, none⟩)]) (o := { dst := some 14, op := .call { callee := .value (.func 51), args := #[.tmp 10, .tmp 12, .tmp 13], argTypes := #[57, 81, 106] }, type := _, pos := _, after := _, guard := none }) 51 (fun _ _ => rfl) rfl 10 12 13 _ rfl (by simp [Act.put]) (by simp [Act.put]) (by simp [Act.put]) ?_; refine hpp5.mono ?_; rintro e w6 ⟨i5, rfl, hi5, hr5, hP5, hI5, hC45⟩; refine ⟨_, rfl, ?_⟩))
        all_goals
          go_wp2
          go_meet
          exact ⟨rfl, i5, hi5, hr5, hP5, hI5, hcq4.trans ((Ch.below hbo5).trans hC45)⟩
      case rest =>
        obtain ⟨rfl, i5, hi5, rfl, hP5, ⟨fv, hBs5, hRf5, hBr5⟩, hCq5⟩ := hcut
        generalize wc = w5 at *
        simp only [ok_bind] at HX4
        have HR5 := hid HX4
        have hC5 : Ch (Xp n) W w5 := by have := hCq5; rw [Hn1.out] at this; exact this.old
        obtain ⟨ps, hps, hRp, hown⟩ := hRo
        have hown5 := own_ch hown hC5 (fun k _ hx => by have := hx.2; revert this; decide)
        obtain ⟨adf, cpf, rfl⟩ := hRf5.shape
        have hpl : xs.length = ps.length := by rw [← hps, List.length_map]
        have hp100 : ps.length < 100 := by omega
        obtain ⟨ad1, cp1, hs1⟩ : ∃ ad cp, s3 = .slice ad ps.length cp := by
          rcases hown.2 with ⟨rfl, h0⟩ | ⟨g, cap, cur, rfl, _⟩
          · exact ⟨none, 0, by rw [h0]⟩
          · exact ⟨_, _, rfl⟩
        have HPS := hid hps
        have HRP := hid hRp
        have HRF := hid hRf5
        have hBw : B ≤ w5.heap.size := by have := hP5.facts.2.2.2; omega
        have y1 := hBr5.cell 0 rfl
        have y2 := hBs5.cell 0 rfl
        have y3 := hBs5.cell 1 rfl
        have c2 := Bx.cell hP5 2 rfl
        have c3 := Bx.cell hP5 3 rfl
        have c4 := Bx.cell hP5 4 rfl
        have cf := Bx.frozen hP5
        have hln5 := hP5.facts.2.2.2
        have hltr5 := hBr5.lt
        have hlts5 := hBs5.lt
        obtain ⟨i0, hi0, hz0, hz1, hz2⟩ := info_parts Try.info73
        subst hs1
        clear HX4 hpp hpo hst3 y0 hbo hcq4 hps hRp hpl hown hRf5 hx
        generalize fl.length = fln at *
        go_wp2_with fail
        go_region_law (first
          | (refine step_append_lies (o := { dst := some 23, op := .call { callee := .builtin .append, args := #[.tmp 20, .tmp 22], argTypes := #[28, 28] }, type := _, pos := _, after := _, guard := none }) _ rfl (.tmp 20) (.tmp 22) 28 rfl B 73 i0 _ 2 40 Try.underlying28 hi0 hz0 hz1 hz2 rfl (by decide) (.slice ad1 ps.length cp1) ps.length (ps.flatMap Prod.snd) rfl (own_ch (X := Xp n) hown5 (Ch.bel (Ch.alloc _ _) (Below.refl _ _).drew) (fun k _ hx => by have := hx.2; revert this; decide)) ⟨w5.heap.size, 0, none⟩ 1 1 [.string nm, .slice adf fln cpf] rfl rfl (World.news_of_block (heap_alloc_new w5 _)) (fun u hu => by simp at hu; rcases hu with rfl | rfl <;> rfl) (by decide) (by unfold maxLen; omega) (by omega) (by simp; omega) _ rfl ?_; intro g cap w6 hown6 hgr6 hat6 hlt6; have hP6 : Pos n sv [s1, s2, .slice ad1 ps.length cp1] w6 i5 := (hgr6.block n (by simp; omega) (fun e => by obtain ⟨_, cur, hq⟩ := own_block hown5 e.symm; rw [show w5.heap[n]? = _ from hP5] at hq; simp at hq)).trans (Bx.alloc hP5 _); have hBr6 : Bx w6 rb [.pointer (some ⟨n, 0, none⟩)] 79 := (hgr6.block rb (by simp; omega) (fun e => by obtain ⟨_, cur, hq⟩ := own_block hown5 e.symm; rw [show w5.heap[rb]? = _ from hBr5] at hq; simp at hq)).trans (Bx.alloc hBr5 _); have x5 := hBr6.cell 0 rfl; have x2 := Bx.cell hP6 2 rfl; have x3 := Bx.cell hP6 3 rfl; have x4 := Bx.cell hP6 4 rfl; have xf := Bx.frozen hP6))
        all_goals
          go_wp2
          go_end0
          rw [← HR5.out]
          obtain ⟨d1, d2, d3⟩ := decl_end (R := SvcR B) (rest' := [s1, s2, .slice (some ⟨g, 0, none⟩) (ps.length + 1) cap]) (c := [.string nm, .slice adf fln cpf]) (k := 4) (kk1.2, fl) (.inr (.inr rfl)) (fun w w' hc a c h => SvcR.ch (.inr (.inr rfl)) hc a c h) hC5 HRP.out hown5 (below_alloc w5 _).drew hgr6 hown6 hP6 rfl ⟨nm, adf, fln, cpf, rfl, Hnm.out, HRF.out.mono (by have := Hn1.out; have := HNN.out; omega) (fun a c h => MthR.mono (by have := Hn1.out; have := HNN.out; omega) a c h)⟩ rfl
          rw [HPS.out] at d2
          exact ⟨i5, _, rfl, hi5, rfl, d1, d2, d3⟩

end Go.Proofs.Ythdooemgnpiomaa
