/- parse: takeMethod. -/
import Derived.Test.YthdooemgnpiomaaQI
import Derived.Test.YthdooemgnpiomaaQP
import Derived.Deep.DeepCutAuto
namespace Go.Proofs.Ythdooemgnpiomaa
open Go.RowKit

theorem step_call1p {P : Program} {w : World} {ops : Array Oper} {o : Oper} {a : Act} {K : Act → World → Prop} {Q : Exit → Act → World → Prop} {E : Prop} {v : Value} (f : Nat) (eg : ∀ args w, (callFunc f args).run P w = .ok (.enter f args) w) (hg : o.guard = none) (s : Nat) (ts : Array TypeId) (hop : o.op = .call { callee := .value (.func f), args := #[.tmp s], argTypes := ts }) (hs : a.tmps.getD s undef = v)
    (h : Calls P f #[v] w fun e w' => (∃ u, e = .returned u ∧ K (a.put o.dst u) w') ∨ (∃ ch, e = .panicked ch ∧ Q (.panic ch) a w')) : if Region.wanted o (yielded ops a.tmps) = true then Oper.wp P o a w K Q else E := by
  have hw : Region.wanted o (yielded ops a.tmps) = true := by simp [Region.wanted, hg]
  rw [if_pos hw]
  unfold Oper.wp
  have hs' : a.eval (.tmp s) = v := hs
  have hrun : (execOp a.eval o).run P w = .ok (.enter f #[v]) w := by
    simp [execOp, hop, hs', resolve, invoke, show a.eval (.func f) = .func (.func f) #[] #[] from rfl, Deferred.ofValue, eg]
  rw [hrun]
  refine h.mono ?_
  rintro e w' (⟨u, rfl, hk⟩ | ⟨ch, rfl, hk⟩)
  · exact hk
  · exact hk

theorem run_bin {P : Program} {w : World} {o : Oper} {a : Act} {op : BinOp} {T T' : TypeId} {x y : Operand} {u z v : Value} (hop : o.op = .binOp op T x y T') (hx : a.eval x = u) (hy : a.eval y = z) (hg : (eqGuard op T x y u z).run P w = .ok () w) (hr : (binOp op T u z).run P w = .ok v w) : (execOp a.eval o).run P w = .ok (.value v) w := by
  simp only [execOp, hop, hx, hy]
  simp [hg, hr]
theorem run_alloc {P : Program} {w w' : World} {o : Oper} {a : Act} {T : TypeId} {v : Value} (hop : o.op = .alloc T) (hr : (Instr.alloc T true (.tuple #[])).run P w = .ok v w') : (execOp a.eval o).run P w = .ok (.value v) w' := by
  simp [execOp, hop, hr]
theorem ret_method58 {W : World} {tmps : Array Value} {b : Nat} {x0 x1 x2 x3 x4 x5 x6 x7 : Value} (ht : tmps.getD 4 undef = .pointer (some ⟨b, 0, none⟩)) (h0 : W.cell? ⟨b, 0, none⟩ = some x0) (h1 : W.cell? ⟨b, 1, none⟩ = some x1) (h2 : W.cell? ⟨b, 2, none⟩ = some x2) (h3 : W.cell? ⟨b, 3, none⟩ = some x3) (h4 : W.cell? ⟨b, 4, none⟩ = some x4) (h5 : W.cell? ⟨b, 5, none⟩ = some x5) (h6 : W.cell? ⟨b, 6, none⟩ = some x6) (h7 : W.cell? ⟨b, 7, none⟩ = some x7) :
    (results Try.f58 tmps).run Try.prog W = .ok (.agg #[x0, x1, x2, x3, x4, x5, x6, x7]) W := by
  have ht' : tmps[4]?.getD undef = .pointer (some ⟨b, 0, none⟩) := by rw [← Array.getD_eq_getD_getElem?]; exact ht
  simp [results, Try.results58]
  go_simp

def MthV (B : Nat) (f : Pl.Mth) (v : Value) (w : World) : Prop := ∃ s a b c a' b' c', v = .agg #[.string s, .bool f.once, a, b, c, a', b', c'] ∧ bl s = f.name ∧ TyC B f.arg w a b c ∧ TyC B f.res w a' b' c'

set_option maxHeartbeats 16000000 in
set_option maxRecDepth 4000 in
theorem pmethod_any (n : Nat) (sv : Value) (l : List T3) (rest : List Value) (hl : 0 < l.length) (hbig : l.length ≤ 1000000) (hG : GoodT l) (w : World) (i : Nat) (h : Pos n sv rest w i) (hS : TSeg w sv (l.map toZ)) (hi : i ≤ l.length) (hsn : ∀ g, sv.ownBlock = some g → g ≠ n) (t : T3) (ht : t ∈ l) :
    Calls Try.prog 58 #[.pointer (some ⟨n, 0, none⟩), tokV t] w (Runs l n sv rest w (Pl.methodP (kt3 t) ((l.drop i).map kt3)) (MthV w.heap.size)) := by
  obtain ⟨k, x, ln⟩ := t
  have hkx : (kt3 (k, x, ln)).2 = bl x := rfl
  unfold Pl.methodP
  rw [hkx]
  unfold tokV
  simp only
  obtain ⟨O, hO⟩ : ∃ O, O = decide (bl x = Pl.wOnce) := ⟨_, rfl⟩
  have hst : (x.toList == [111, 110, 99, 101]) = O := by
    rw [hO]
    by_cases hx : x = ⟨#[111, 110, 99, 101]⟩
    · have hb : bl x = Pl.wOnce := by rw [hx]; rfl
      rw [decide_eq_true hb, hx, ByteArray.toList_eq]
      decide
    · have hb : ¬ bl x = Pl.wOnce := fun e => hx (bl_inj e)
      rw [decide_eq_false hb]
      simpa [ByteArray.toList_eq] using str_no hx
  rw [← hO]
  clear hO
  generalize hRES : ((Pl.takeP Pl.nameT ((l.drop i).map kt3)).bind fun n r => (Pl.takeP (Pl.isT [40]) r).bind fun _ r => (Pl.typeP 8 r).bind fun a r => (Pl.takeP (Pl.isT [41]) r).bind fun _ r => (Pl.typeP 8 r).bind fun b r => (Pl.takeP (Pl.isT [59]) r).bind fun _ r => Pl.Res.ok (⟨O, n.2, a, b⟩ : Pl.Mth) r) = RES
  have HR := hid hRES
  have HN := hid hsn
  have HG := hid hG
  have HS := hid hS
  have hlt : n < w.heap.size := h.facts.2.2.2
  clear hRES hkx hsn ht
  go_enter Try.func58, Try.ntmps58
  go_wp2_with fail
  have hba := below_next (below_alloc w (.cells #[.int .i64 (k : Int), .string x, .int .i64 (ln : Int)] 36)) (below_alloc (w.alloc (.cells #[.int .i64 (k : Int), .string x, .int .i64 (ln : Int)] 36)) (.cells #[.string ⟨#[]⟩, .bool false, .int .i64 0, .string ⟨#[]⟩, .slice none 0 0, .int .i64 0, .string ⟨#[]⟩, .slice none 0 0] 76))
  have hBR1 := (Bx.newAt (w := w.alloc (.cells #[.int .i64 (k : Int), .string x, .int .i64 (ln : Int)] 36)) (g := w.heap.size + 1) (by simp) [.string ⟨#[]⟩, .bool false, .int .i64 0, .string ⟨#[]⟩, .slice none 0 0, .int .i64 0, .string ⟨#[]⟩, .slice none 0 0] 76)
  have hBX1 := (Bx.new w [.int .i64 (k : Int), .string x, .int .i64 (ln : Int)] 36).alloc (.cells #[.string ⟨#[]⟩, .bool false, .int .i64 0, .string ⟨#[]⟩, .slice none 0 0, .int .i64 0, .string ⟨#[]⟩, .slice none 0 0] 76)
  have hneR : w.heap.size + 1 ≠ n := by omega
  have hgeR : w.heap.size ≤ w.heap.size + 1 := by omega
  obtain ⟨bR, hbeR⟩ : ∃ g, g = w.heap.size + 1 := ⟨_, rfl⟩
  have hneX : w.heap.size ≠ n := by omega
  rw [← hbeR] at hBR1 hneR hgeR ⊢
  clear hbeR
  obtain ⟨bX, hbeX⟩ : ∃ g, g = w.heap.size := ⟨_, rfl⟩
  rw [← hbeX] at hBX1 hneX ⊢
  change Bx ((w.alloc (.cells #[.int .i64 (k : Int), .string x, .int .i64 (ln : Int)] 36)).alloc (.cells #[.string ⟨#[]⟩, .bool false, .int .i64 0, .string ⟨#[]⟩, .slice none 0 0, .int .i64 0, .string ⟨#[]⟩, .slice none 0 0] 76)) _ _ _ at hBR1
  have hC1 : Ch (Xp n) w _ := Ch.below hba
  have hP1 := h.below hba
  have HBX := hid hbeX
  clear hbeX hba hS h hG
  generalize (w.alloc (.cells #[.int .i64 (k : Int), .string x, .int .i64 (ln : Int)] 36)).alloc (.cells #[.string ⟨#[]⟩, .bool false, .int .i64 0, .string ⟨#[]⟩, .slice none 0 0, .int .i64 0, .string ⟨#[]⟩, .slice none 0 0] 76) = w1 at *
  have hn : ∀ W, Below w1.heap.size w1 W → Calls Try.prog 50 #[.pointer (some ⟨n, 0, none⟩)] W (Runs l n sv rest W (Pl.takeP Pl.nameT ((l.drop i).map kt3)) NameV) := fun W hb => ptakeName_any n sv l rest W i (hP1.below hb) (HS.out.pos (hC1.bel hb) HN.out) hl hbig hi HG.out
  have HX1 := HR.out
  clear HR
  have x1 := hBX1.cell 1 rfl
  have hlX := hBX1.lt
  generalize Pl.takeP Pl.nameT ((l.drop i).map kt3) = R1 at *
  cases R1 with
  | bad r er =>
    have hbA : Below w1.heap.size w1 w1.drew := (Below.refl _ _).drew
    subst HX1
    refine wp_region_drawn2 (pred := fun jx v _ => match jx with | 0 => v = .pointer (some ⟨bX, 1, none⟩) | 1 => v = .string x | 2 => v = .bool O | 3 => v = .pointer (some ⟨n, 0, none⟩) | 4 => False | 5 => False | 6 => True | 7 => True | _ => True) (R := fun W => Below w1.heap.size w1 W) (by kernel_rfl) (by kernel_rfl) (by kernel_rfl) (fun _ _ _ _ h _ => h) hbA ?step ?done
    case step =>
      intro ix o ho A W hsz hdf hfr hdep hR
      rcases ix with _ | _ | _ | _ | _ | _ | _ | _ | ix
      · injection ho with ho
        subst ho
        have e3 : A.eval (.tmp 3) = .pointer (some ⟨bX, 0, none⟩) := (hfr 3 (noDst_spec (by kernel_rfl))).trans rfl
        exact gOp_fld (v := .pointer (some ⟨bX, 1, none⟩)) rfl (wanted_plain rfl) rfl e3 (by go_simp) ⟨_, rfl, rfl, Below.refl _ _, hR⟩
      · injection ho with ho
        subst ho
        have e6 : A.eval (.tmp 6) = .pointer (some ⟨bX, 1, none⟩) := hdep ⟨0, .data⟩ (by simp) rfl _ _ rfl rfl
        have x1 := ((hBX1.below hR).cell 1 rfl)
        exact gOp_ld (v := .string x) rfl (wanted_plain rfl) rfl e6 (by go_simp) ⟨_, rfl, rfl, Below.refl _ _, hR⟩
      · injection ho with ho
        subst ho
        have e7 : A.eval (.tmp 7) = .string x := hdep ⟨1, .data⟩ (by simp) rfl _ _ rfl rfl
        exact gOp_ok (v := .bool O) rfl (wanted_plain rfl) (run_bin rfl e7 rfl (by go_simp) (by go_simp)) ⟨_, rfl, rfl, Below.refl _ _, hR⟩
      · injection ho with ho
        subst ho
        have e0 : A.eval (.tmp 0) = .pointer (some ⟨n, 0, none⟩) := (hfr 0 (noDst_spec (by kernel_rfl))).trans rfl
        exact gOp_mv rfl (wanted_plain rfl) (.inl rfl) e0 ⟨_, rfl, rfl, Below.refl _ _, hR⟩
      · injection ho with ho
        subst ho
        have e9 : A.eval (.tmp 9) = .pointer (some ⟨n, 0, none⟩) := hdep ⟨3, .data⟩ (by simp) rfl _ _ rfl rfl
        refine gOp_dies rfl (wanted_plain rfl) 50 #[.pointer (some ⟨n, 0, none⟩)] (run_call _ (fun _ _ => rfl) _ _ rfl _ (by simp [e9])) ?_
        refine (hn W hR).mono ?_
        rintro e w5 ⟨i5, rfl, hi5, hr5, hC5⟩
        exact ⟨_, rfl, hdf, i5, rfl, hi5, hr5, hC1.trans (Ch.trans (Ch.below hR) hC5)⟩
      · injection ho with ho
        subst ho
        exact (hdep ⟨4, .data⟩ (by simp) rfl _ _ rfl rfl).elim
      · injection ho with ho
        subst ho
        exact gOp_ok (v := .pointer (some ⟨W.heap.size, 0, none⟩)) rfl (wanted_plain rfl) (run_alloc (w' := W.alloc (.cells #[.string ⟨#[]⟩, .bool false, .int .i64 0, .string ⟨#[]⟩, .slice none 0 0, .int .i64 0, .string ⟨#[]⟩, .slice none 0 0] 76)) rfl (by go_simp)) ⟨_, rfl, trivial, below_alloc W _, hR.trans ((below_alloc W _).mono hR.size)⟩
      · injection ho with ho
        subst ho
        exact (hdep ⟨5, .data⟩ (by simp) rfl _ _ rfl rfl).elim
      · simp at ho
    case done =>
      intro A W _ _ _ hcome _
      exact (hcome 4 _ _ rfl rfl).elim
  | ok kk1 r1 =>
    simp only [ok_bind] at HX1
    have HR := hid HX1
    clear HX1
    have hnZ : w1.heap.size ≠ n := by have := hP1.facts.2.2.2; omega
    have hbA : Below w1.heap.size w1 w1.drew := (Below.refl _ _).drew
    have hbB : Below w1.heap.size w1 (w1.alloc (.cells #[.string ⟨#[]⟩, .bool false, .int .i64 0, .string ⟨#[]⟩, .slice none 0 0, .int .i64 0, .string ⟨#[]⟩, .slice none 0 0] 76)).drew := (below_alloc w1 _).drew
    have hBZ : Bx (w1.alloc (.cells #[.string ⟨#[]⟩, .bool false, .int .i64 0, .string ⟨#[]⟩, .slice none 0 0, .int .i64 0, .string ⟨#[]⟩, .slice none 0 0] 76)).drew w1.heap.size [.string ⟨#[]⟩, .bool false, .int .i64 0, .string ⟨#[]⟩, .slice none 0 0, .int .i64 0, .string ⟨#[]⟩, .slice none 0 0] 76 := (Bx.new w1 _ _).below (Below.refl _ _).drew
    go_upto_region 1 with fail
    go_cut [5] (fun p wx => ∃ (bF i2 : Nat) (s : ByteArray), p = .pointer (some ⟨bF, 0, none⟩) ∧ bl s = kk1.2 ∧ Bx wx bF [.string s, .bool O, .int .i64 0, .string ⟨#[]⟩, .slice none 0 0, .int .i64 0, .string ⟨#[]⟩, .slice none 0 0] 76 ∧ w1.heap.size ≤ bF ∧ i2 ≤ l.length ∧ r1 = (l.drop i2).map kt3 ∧ Pos n sv rest wx i2 ∧ Ch (Xp n) w1 wx)
    case first =>
      go_region_law (first
        | (refine step_call1p (v := .pointer (some ⟨n, 0, none⟩)) (o := { dst := some 10, op := .call { callee := .value (.func 50), args := #[.tmp 9], argTypes := #[98] }, type := _, pos := _, after := _, guard := none }) 50 (fun _ _ => rfl) rfl 9 _ rfl (by simp [Act.put]) ?_; first
            | (refine (hn _ hbA).mono ?_; rintro e w5 ⟨v5, i5, rfl, hi5, hr5, hP5, ⟨s5, rfl, hs5⟩, hC5⟩; refine .inl ⟨_, rfl, ?_⟩; have hCA := Ch.trans (Ch.below hbA) hC5; have hX5 := (hBX1.below hbA).ch hC5 (fun hx => hneX hx.1); have y1 := hX5.cell 1 rfl; have hlx5 := hX5.lt; have HR5 := hid hr5; have HS5 := hid hs5; clear hr5 hs5)
            | (refine (hn _ hbB).mono ?_; rintro e w5 ⟨v5, i5, rfl, hi5, hr5, hP5, ⟨s5, rfl, hs5⟩, hC5⟩; refine .inl ⟨_, rfl, ?_⟩; have hCB := Ch.trans (Ch.below hbB) hC5; have hX5 := (hBX1.below hbB).ch hC5 (fun hx => hneX hx.1); have y1 := hX5.cell 1 rfl; have hlx5 := hX5.lt; have hB5 := hBZ.ch hC5 (fun hx => hnZ hx.1); have z0 := hB5.cell 0 rfl; have z1 := hB5.cell 1 rfl; have z2 := hB5.cell 2 rfl; have z3 := hB5.cell 3 rfl; have z4 := hB5.cell 4 rfl; have z5 := hB5.cell 5 rfl; have z6 := hB5.cell 6 rfl; have z7 := hB5.cell 7 rfl; have hzf := hB5.frozen; have HR5 := hid hr5; have HS5 := hid hs5; clear hr5 hs5)))
      all_goals
        go_wp2
        go_meet
        first
          | (have hq := hCA; exact ⟨w5.heap.size, i5, s5, rfl, HS5.out, Bx.new w5 _ _, hCA.size, hi5, HR5.out, hP5.below (below_alloc _ _), hq.al _⟩)
          | (have hq := hCB; exact ⟨w1.heap.size, i5, s5, rfl, HS5.out, ((((((((hB5.set 0 (.string s5)).set 1 (.bool O)).set 2 (.int .i64 0)).set 3 (.string ⟨#[]⟩)).set 4 (.slice none 0 0)).set 5 (.int .i64 0)).set 6 (.string ⟨#[]⟩)).set 7 (.slice none 0 0)), Nat.le_refl _, hi5, HR5.out, ((((((((hP5.other (Ne.symm hnZ) _).other (Ne.symm hnZ) _).other (Ne.symm hnZ) _).other (Ne.symm hnZ) _).other (Ne.symm hnZ) _).other (Ne.symm hnZ) _).other (Ne.symm hnZ) _).other (Ne.symm hnZ) _), ((((((((hq.new (Nat.le_refl _) _).new (Nat.le_refl _) _).new (Nat.le_refl _) _).new (Nat.le_refl _) _).new (Nat.le_refl _) _).new (Nat.le_refl _) _).new (Nat.le_refl _) _).new (Nat.le_refl _) _)⟩)
    case rest =>
      obtain ⟨bF, i2, s2, rfl, hs2, hBF2, hgF, hi2, rfl, hP2, hc2⟩ := hcut
      have hln := hP1.facts.2.2.2
      have hlR1 := hBR1.lt
      have hC2 := hC1.trans hc2
      have hBR2 := hBR1.ch hc2 (fun hx => hneR hx.1)
      have hneF : bF ≠ n := by omega
      have hnqRF : bR ≠ bF := by omega
      have hgeF : w.heap.size ≤ bF := Nat.le_trans hC1.size hgF
      have hgeX : bX = w.heap.size := HBX.out
      generalize wc = w2 at *
      clear hn hnZ hbA hbB hBZ hBX1 hC1 hP1 hBR1 hc2 x1 hlX hst hln hlR1 hgF
      go_wp2_with fail
      refine (psign_any _ [40] rfl _ _ (by simp)).mono ?_
      rintro e w3 ⟨fk3, cap3, rfl, hF3, hb3⟩
      have hC3 := hC2.bel hb3
      have hP3 := hP2.below hb3
      have hBR3 := hBR2.below hb3
      have hBF3 := hBF2.below hb3
      clear hC2 hP2 hBR2 hBF2
      clear hb3
      have htk3 := ptake_any n sv l rest w3 i2 hP3 (HS.out.pos hC3 HN.out) hl hbig hi2 _ _ hF3
      go_wp2_with fail
      have HX3 := HR.out
      clear HR
      refine htk3.mono ?_
      clear htk3
      generalize Pl.takeP (Pl.isT [40]) ((l.drop i2).map kt3) = R3 at *
      cases R3 with
      | bad r er =>
        rintro e wz ⟨iz, rfl, hiz, hrz, hCz⟩
        subst HX3
        exact ⟨rfl, iz, rfl, hiz, hrz, hC3.trans hCz⟩
      | ok kk3 r3 =>
        simp only [ok_bind] at HX3
        rintro e w4 ⟨v3, i4, rfl, hi4, rfl, hP4, ⟨t3, -, -, rfl⟩, hc4⟩
        have HR := hid HX3
        clear HX3
        have hC4 := hC3.trans hc4
        have hBR4 := hBR3.ch hc4 (fun hx => hneR hx.1)
        have hBF4 := hBF3.ch hc4 (fun hx => hneF hx.1)
        clear hC3 hP3 hBR3 hBF3
        clear hc4
        unfold tokV
        have hlFA := hBF4.lt
        have hlRA := hBR4.lt
        have hwCA := hC4.size
        have htk4 := ptype_one n sv l rest hl hbig HG.out w4 i4 hP4 (HS.out.pos hC4 HN.out) hi4 HN.out
        go_wp2_with fail
        have HX4 := HR.out
        clear HR
        refine htk4.mono ?_
        clear htk4
        generalize Pl.typeP 8 ((l.drop i4).map kt3) = R4 at *
        cases R4 with
        | bad r er =>
          rintro e wz ⟨iz, rfl, hiz, hrz, hCz⟩
          subst HX4
          exact ⟨rfl, iz, rfl, hiz, hrz, hC4.trans hCz⟩
        | ok kk4 r4 =>
          simp only [ok_bind] at HX4
          rintro e w5 ⟨v4, i5, rfl, hi5, rfl, hP5, ⟨aA, bA, cA, rfl, hTa5⟩, hc5⟩
          have HR := hid HX4
          clear HX4
          have hC5 := hC4.trans hc5
          have hBR5 := hBR4.ch hc5 (fun hx => hneR hx.1)
          have hBF5 := hBF4.ch hc5 (fun hx => hneF hx.1)
          clear hC4 hP4 hBR4 hBF4
          clear hc5
          obtain ⟨kA, sA, adA, mA, cpA, rfl, rfl, rfl⟩ := hTa5.shape
          have f0 := hBF5.cell 2 rfl
          have f1 := hBF5.cell 3 rfl
          have f2 := hBF5.cell 4 rfl
          have hff := hBF5.frozen
          go_wp2_with fail
          have hC6 := (((hC5.new (k := 2) hgeF (.int .i64 kA)).new (k := 3) hgeF (.string sA)).new (k := 4) hgeF (.slice adA mA cpA))
          have hP6 := (((hP5.other (k := 2) (Ne.symm hneF) (.int .i64 kA)).other (k := 3) (Ne.symm hneF) (.string sA)).other (k := 4) (Ne.symm hneF) (.slice adA mA cpA))
          have hBF6 := (((hBF5.set 2 (.int .i64 kA)).set 3 (.string sA)).set 4 (.slice adA mA cpA))
          have hBR6 := (((hBR5.other (k := 2) hnqRF (.int .i64 kA)).other (k := 3) hnqRF (.string sA)).other (k := 4) hnqRF (.slice adA mA cpA))
          have hTa6 := (((hTa5.set (k := 2) hlFA (.int .i64 kA)).set (k := 3) hlFA (.string sA)).set (k := 4) hlFA (.slice adA mA cpA))
          have hsz : ((((w5.setCell ⟨bF, 2, none⟩ (.int .i64 kA)).setCell ⟨bF, 3, none⟩ (.string sA)).setCell ⟨bF, 4, none⟩ (.slice adA mA cpA))).heap.size = w5.heap.size := by simp
          rw [← hsz]
          clear f0 f1 f2 hff hsz
          clear hC5 hP5 hBR5 hBF5 hTa5
          generalize (((w5.setCell ⟨bF, 2, none⟩ (.int .i64 kA)).setCell ⟨bF, 3, none⟩ (.string sA)).setCell ⟨bF, 4, none⟩ (.slice adA mA cpA)) = w6 at *
          simp only [List.set_cons_zero, List.set_cons_succ] at hBF6
          refine (psign_any _ [41] rfl _ _ (by simp)).mono ?_
          rintro e w7 ⟨fk7, cap7, rfl, hF7, hb7⟩
          have hC7 := hC6.bel hb7
          have hP7 := hP6.below hb7
          have hBR7 := hBR6.below hb7
          have hBF7 := hBF6.below hb7
          have hTa7 := TyC.ch (X := Xp n) (Ch.below hb7) Xp.ty _ _ _ _ hTa6
          clear hC6 hP6 hBR6 hBF6 hTa6
          clear hb7
          have htk7 := ptake_any n sv l rest w7 i5 hP7 (HS.out.pos hC7 HN.out) hl hbig hi5 _ _ hF7
          go_wp2_with fail
          have HX7 := HR.out
          clear HR
          refine htk7.mono ?_
          clear htk7
          generalize Pl.takeP (Pl.isT [41]) ((l.drop i5).map kt3) = R7 at *
          cases R7 with
          | bad r er =>
            rintro e wz ⟨iz, rfl, hiz, hrz, hCz⟩
            subst HX7
            exact ⟨rfl, iz, rfl, hiz, hrz, hC7.trans hCz⟩
          | ok kk7 r7 =>
            simp only [ok_bind] at HX7
            rintro e w8 ⟨v7, i8, rfl, hi8, rfl, hP8, ⟨t7, -, -, rfl⟩, hc8⟩
            have HR := hid HX7
            clear HX7
            have hC8 := hC7.trans hc8
            have hBR8 := hBR7.ch hc8 (fun hx => hneR hx.1)
            have hBF8 := hBF7.ch hc8 (fun hx => hneF hx.1)
            have hTa8 := TyC.ch hc8 Xp.ty _ _ _ _ hTa7
            clear hC7 hP7 hBR7 hBF7 hTa7
            clear hc8
            unfold tokV
            have hlFB := hBF8.lt
            have hlRB := hBR8.lt
            have hwCB := hC8.size
            have htk8 := ptype_one n sv l rest hl hbig HG.out w8 i8 hP8 (HS.out.pos hC8 HN.out) hi8 HN.out
            go_wp2_with fail
            have HX8 := HR.out
            clear HR
            refine htk8.mono ?_
            clear htk8
            generalize Pl.typeP 8 ((l.drop i8).map kt3) = R8 at *
            cases R8 with
            | bad r er =>
              rintro e wz ⟨iz, rfl, hiz, hrz, hCz⟩
              subst HX8
              exact ⟨rfl, iz, rfl, hiz, hrz, hC8.trans hCz⟩
            | ok kk8 r8 =>
              simp only [ok_bind] at HX8
              rintro e w9 ⟨v8, i9, rfl, hi9, rfl, hP9, ⟨aB, bB, cB, rfl, hTr9⟩, hc9⟩
              have HR := hid HX8
              clear HX8
              have hC9 := hC8.trans hc9
              have hBR9 := hBR8.ch hc9 (fun hx => hneR hx.1)
              have hBF9 := hBF8.ch hc9 (fun hx => hneF hx.1)
              have hTa9 := TyC.ch hc9 Xp.ty _ _ _ _ hTa8
              clear hC8 hP8 hBR8 hBF8 hTa8
              clear hc9
              obtain ⟨kB, sB, adB, mB, cpB, rfl, rfl, rfl⟩ := hTr9.shape
              have f0 := hBF9.cell 5 rfl
              have f1 := hBF9.cell 6 rfl
              have f2 := hBF9.cell 7 rfl
              have hff := hBF9.frozen
              go_wp2_with fail
              have hC10 := (((hC9.new (k := 5) hgeF (.int .i64 kB)).new (k := 6) hgeF (.string sB)).new (k := 7) hgeF (.slice adB mB cpB))
              have hP10 := (((hP9.other (k := 5) (Ne.symm hneF) (.int .i64 kB)).other (k := 6) (Ne.symm hneF) (.string sB)).other (k := 7) (Ne.symm hneF) (.slice adB mB cpB))
              have hBF10 := (((hBF9.set 5 (.int .i64 kB)).set 6 (.string sB)).set 7 (.slice adB mB cpB))
              have hBR10 := (((hBR9.other (k := 5) hnqRF (.int .i64 kB)).other (k := 6) hnqRF (.string sB)).other (k := 7) hnqRF (.slice adB mB cpB))
              have hTa10 := (((hTa9.set (k := 5) hlFA (.int .i64 kB)).set (k := 6) hlFA (.string sB)).set (k := 7) hlFA (.slice adB mB cpB))
              have hTr10 := (((hTr9.set (k := 5) hlFB (.int .i64 kB)).set (k := 6) hlFB (.string sB)).set (k := 7) hlFB (.slice adB mB cpB))
              have hsz : ((((w9.setCell ⟨bF, 5, none⟩ (.int .i64 kB)).setCell ⟨bF, 6, none⟩ (.string sB)).setCell ⟨bF, 7, none⟩ (.slice adB mB cpB))).heap.size = w9.heap.size := by simp
              rw [← hsz]
              clear f0 f1 f2 hff hsz
              clear hC9 hP9 hBR9 hBF9 hTa9 hTr9
              generalize (((w9.setCell ⟨bF, 5, none⟩ (.int .i64 kB)).setCell ⟨bF, 6, none⟩ (.string sB)).setCell ⟨bF, 7, none⟩ (.slice adB mB cpB)) = w10 at *
              simp only [List.set_cons_zero, List.set_cons_succ] at hBF10
              refine (psign_any _ [59] rfl _ _ (by simp)).mono ?_
              rintro e w11 ⟨fk11, cap11, rfl, hF11, hb11⟩
              have hC11 := hC10.bel hb11
              have hP11 := hP10.below hb11
              have hBR11 := hBR10.below hb11
              have hBF11 := hBF10.below hb11
              have hTa11 := TyC.ch (X := Xp n) (Ch.below hb11) Xp.ty _ _ _ _ hTa10
              have hTr11 := TyC.ch (X := Xp n) (Ch.below hb11) Xp.ty _ _ _ _ hTr10
              clear hC10 hP10 hBR10 hBF10 hTa10 hTr10
              clear hb11
              have htk11 := ptake_any n sv l rest w11 i9 hP11 (HS.out.pos hC11 HN.out) hl hbig hi9 _ _ hF11
              go_wp2_with fail
              have HX11 := HR.out
              clear HR
              refine htk11.mono ?_
              clear htk11
              generalize Pl.takeP (Pl.isT [59]) ((l.drop i9).map kt3) = R11 at *
              cases R11 with
              | bad r er =>
                rintro e wz ⟨iz, rfl, hiz, hrz, hCz⟩
                subst HX11
                exact ⟨rfl, iz, rfl, hiz, hrz, hC11.trans hCz⟩
              | ok kk11 r11 =>
                simp only [ok_bind] at HX11
                rintro e w12 ⟨v11, i12, rfl, hi12, rfl, hP12, ⟨t11, -, -, rfl⟩, hc12⟩
                have HR := hid HX11
                clear HX11
                have hC12 := hC11.trans hc12
                have hBR12 := hBR11.ch hc12 (fun hx => hneR hx.1)
                have hBF12 := hBF11.ch hc12 (fun hx => hneF hx.1)
                have hTa12 := TyC.ch hc12 Xp.ty _ _ _ _ hTa11
                have hTr12 := TyC.ch hc12 Xp.ty _ _ _ _ hTr11
                clear hC11 hP11 hBR11 hBF11 hTa11 hTr11
                clear hc12
                unfold tokV
                have x0 := hBF12.cell 0 rfl
                have x1 := hBF12.cell 1 rfl
                have x2 := hBF12.cell 2 rfl
                have x3 := hBF12.cell 3 rfl
                have x4 := hBF12.cell 4 rfl
                have x5 := hBF12.cell 5 rfl
                have x6 := hBF12.cell 6 rfl
                have x7 := hBF12.cell 7 rfl
                have d0 := hBR12.cell 0 rfl
                have d1 := hBR12.cell 1 rfl
                have d2 := hBR12.cell 2 rfl
                have d3 := hBR12.cell 3 rfl
                have d4 := hBR12.cell 4 rfl
                have d5 := hBR12.cell 5 rfl
                have d6 := hBR12.cell 6 rfl
                have d7 := hBR12.cell 7 rfl
                have hfb := hBR12.frozen
                go_wp2
                have hB7 := ((((((((hBR12.set 0 (.string s2)).set 1 (.bool O)).set 2 (.int .i64 kA)).set 3 (.string sA)).set 4 (.slice adA mA cpA)).set 5 (.int .i64 kB)).set 6 (.string sB)).set 7 (.slice adB mB cpB))
                refine bodyPost_ret (ret_method58 rfl (hB7.cell 0 rfl) (hB7.cell 1 rfl) (hB7.cell 2 rfl) (hB7.cell 3 rfl) (hB7.cell 4 rfl) (hB7.cell 5 rfl) (hB7.cell 6 rfl) (hB7.cell 7 rfl)) rfl ?_
                rw [← HR.out]
                exact ⟨_, i12, rfl, hi12, rfl, ((((((((hP12.other (Ne.symm hneR) _).other (Ne.symm hneR) _).other (Ne.symm hneR) _).other (Ne.symm hneR) _).other (Ne.symm hneR) _).other (Ne.symm hneR) _).other (Ne.symm hneR) _).other (Ne.symm hneR) _), ⟨s2, _, _, _, _, _, _, rfl, hs2, TyC.mono (by omega) _ _ _ _ ((((((((hTa12.set (k := 0) hlRA (.string s2)).set (k := 1) hlRA (.bool O)).set (k := 2) hlRA (.int .i64 kA)).set (k := 3) hlRA (.string sA)).set (k := 4) hlRA (.slice adA mA cpA)).set (k := 5) hlRA (.int .i64 kB)).set (k := 6) hlRA (.string sB)).set (k := 7) hlRA (.slice adB mB cpB)), TyC.mono (by omega) _ _ _ _ ((((((((hTr12.set (k := 0) hlRB (.string s2)).set (k := 1) hlRB (.bool O)).set (k := 2) hlRB (.int .i64 kA)).set (k := 3) hlRB (.string sA)).set (k := 4) hlRB (.slice adA mA cpA)).set (k := 5) hlRB (.int .i64 kB)).set (k := 6) hlRB (.string sB)).set (k := 7) hlRB (.slice adB mB cpB))⟩, ((((((((hC12.new hgeR _).new hgeR _).new hgeR _).new hgeR _).new hgeR _).new hgeR _).new hgeR _).new hgeR _)⟩
end Go.Proofs.Ythdooemgnpiomaa
