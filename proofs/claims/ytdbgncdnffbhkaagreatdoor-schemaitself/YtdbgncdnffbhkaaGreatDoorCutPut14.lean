/- parse: takeMethod. parse: takeParts, whatever the parts are. parse: rows of parts that are gathered. -/
import Derived.Test.YtdbgncdnffbhkaaGreatDoorCutPut13
import Derived.Deep.DeepCutAuto
namespace Go.Proofs.YtdbgncdnffbhkaaGreatDoor
open Go.RowKit
set_option maxRecDepth 20000

theorem step_call1p {P : Program} {w : World} {ops : Array Oper} {o : Oper} {a : Act} {K : Act → World → Prop} {Q : Exit → Act → World → Prop} {E : Prop} {v : Value} (f : Nat) (eg : ∀ args w, (callFunc f args).run P w = .ok (.enter f args) w) (hg : o.guard = none) (s : Nat) (ts : Array TypeId) (hop : o.op = .call { callee := .value (.func f), args := #[.tmp s], argTypes := ts }) (hs : a.tmps.getD s undef = v)
    (h : Calls P f #[v] w fun e w' => (∃ u, e = .returned u ∧ K (a.put o.dst u) w') ∨ (∃ ch, e = .panicked ch ∧ Q (.panic ch) a w')) : if Region.wanted o (yielded ops a.tmps) = true then Oper.wp P o a w K Q else E := by
  have hw : Region.wanted o (yielded ops a.tmps) = true := by simp [Region.wanted, hg]
  rw [if_pos hw]
  unfold Oper.wp
  have hs' : a.eval (.tmp s) = v := hs
  have hrun : (execOp a.eval o).run P w = .ok (.enter f #[v]) w := by
    simp [execOp, hop, hs', resolve, invoke, show a.eval (.func f) = .func (.func f) #[] #[] from rfl, Deferred.ofValue, eg]
  rw [hrun]
  refine h.mono ?_
  rintro e w' (⟨u, rfl, hk⟩ | ⟨ch, rfl, hk⟩)
  · exact hk
  · exact hk

theorem run_bin {P : Program} {w : World} {o : Oper} {a : Act} {op : BinOp} {T T' : TypeId} {x y : Operand} {u z v : Value} (hop : o.op = .binOp op T x y T') (hx : a.eval x = u) (hy : a.eval y = z) (hg : (eqGuard op T x y u z).run P w = .ok () w) (hr : (binOp op T u z).run P w = .ok v w) : (execOp a.eval o).run P w = .ok (.value v) w := by
  simp only [execOp, hop, hx, hy]
  simp [hg, hr]
theorem run_alloc {P : Program} {w w' : World} {o : Oper} {a : Act} {T : TypeId} {v : Value} (hop : o.op = .alloc T) (hr : (Instr.alloc T true (.tuple #[])).run P w = .ok v w') : (execOp a.eval o).run P w = .ok (.value v) w' := by
  simp [execOp, hop, hr]
theorem ret_method58 {W : World} {tmps : Array Value} {b : Nat} {x0 x1 x2 x3 x4 x5 x6 x7 : Value} (ht : tmps.getD 4 undef = .pointer (some ⟨b, 0, none⟩)) (h0 : W.cell? ⟨b, 0, none⟩ = some x0) (h1 : W.cell? ⟨b, 1, none⟩ = some x1) (h2 : W.cell? ⟨b, 2, none⟩ = some x2) (h3 : W.cell? ⟨b, 3, none⟩ = some x3) (h4 : W.cell? ⟨b, 4, none⟩ = some x4) (h5 : W.cell? ⟨b, 5, none⟩ = some x5) (h6 : W.cell? ⟨b, 6, none⟩ = some x6) (h7 : W.cell? ⟨b, 7, none⟩ = some x7) :
    (results Tryz.f183 tmps).run Tryz.prog W = .ok (.agg #[x0, x1, x2, x3, x4, x5, x6, x7]) W := by
  have ht' : tmps[4]?.getD undef = .pointer (some ⟨b, 0, none⟩) := by rw [← Array.getD_eq_getD_getElem?]; exact ht
  simp [results, Tryz.results183]
  go_simp

def MthV (B : Nat) (f : Pl.Mth) (v : Value) (w : World) : Prop := ∃ s a b c a' b' c', v = .agg #[.string s, .bool f.once, a, b, c, a', b', c'] ∧ bl s = f.name ∧ TyC B f.arg w a b c ∧ TyC B f.res w a' b' c'

set_option maxHeartbeats 16000000 in
set_option maxRecDepth 4000 in
theorem pmethod_any (n : Nat) (sv : Value) (l : List T3) (rest : List Value) (hl : 0 < l.length) (hbig : l.length ≤ 1000000) (hG : GoodT l) (w : World) (i : Nat) (h : Pos n sv rest w i) (hS : TSeg w sv (l.map toZ)) (hi : i ≤ l.length) (hsn : ∀ g, sv.ownBlock = some g → g ≠ n) (t : T3) (ht : t ∈ l) :
    Calls Tryz.prog 183 #[.pointer (some ⟨n, 0, none⟩), tokV t] w (Runs l n sv rest w (Pl.methodP (kt3 t) ((l.drop i).map kt3)) (MthV w.heap.size)) := by
  obtain ⟨k, x, ln⟩ := t
  have hkx : (kt3 (k, x, ln)).2 = bl x := rfl
  unfold Pl.methodP
  rw [hkx]
  unfold tokV
  simp only
  obtain ⟨O, hO⟩ : ∃ O, O = decide (bl x = Pl.wOnce) := ⟨_, rfl⟩
  have hst : (x.toList == [111, 110, 99, 101]) = O := by
    rw [hO]
    by_cases hx : x = ⟨#[111, 110, 99, 101]⟩
    · have hb : bl x = Pl.wOnce := by rw [hx]; rfl
      rw [decide_eq_true hb, hx, ByteArray.toList_eq]
      decide
    · have hb : ¬ bl x = Pl.wOnce := fun e => hx (bl_inj e)
      rw [decide_eq_false hb]
      simpa [ByteArray.toList_eq] using str_no hx
  rw [← hO]
  clear hO
  generalize hRES : ((Pl.takeP Pl.nameT ((l.drop i).map kt3)).bind fun n r => (Pl.takeP (Pl.isT [40]) r).bind fun _ r => (Pl.typeP 8 r).bind fun a r => (Pl.takeP (Pl.isT [41]) r).bind fun _ r => (Pl.typeP 8 r).bind fun b r => (Pl.takeP (Pl.isT [59]) r).bind fun _ r => Pl.Res.ok (⟨O, n.2, a, b⟩ : Pl.Mth) r) = RES
  have HR := hid hRES
  have HN := hid hsn
  have HG := hid hG
  have HS := hid hS
  have hlt : n < w.heap.size := h.facts.2.2.2
  clear hRES hkx hsn ht
  go_enter Tryz.func183, Tryz.ntmps183
  go_wp2_with fail
  have hba := below_next (below_alloc w (.cells #[.int .i64 (k : Int), .string x, .int .i64 (ln : Int)] 165)) (below_alloc (w.alloc (.cells #[.int .i64 (k : Int), .string x, .int .i64 (ln : Int)] 165)) (.cells #[.string ⟨#[]⟩, .bool false, .int .i64 0, .string ⟨#[]⟩, .slice none 0 0, .int .i64 0, .string ⟨#[]⟩, .slice none 0 0] 36))
  have hBR1 := (Bx.newAt (w := w.alloc (.cells #[.int .i64 (k : Int), .string x, .int .i64 (ln : Int)] 165)) (g := w.heap.size + 1) (by simp) [.string ⟨#[]⟩, .bool false, .int .i64 0, .string ⟨#[]⟩, .slice none 0 0, .int .i64 0, .string ⟨#[]⟩, .slice none 0 0] 36)
  have hBX1 := (Bx.new w [.int .i64 (k : Int), .string x, .int .i64 (ln : Int)] 165).alloc (.cells #[.string ⟨#[]⟩, .bool false, .int .i64 0, .string ⟨#[]⟩, .slice none 0 0, .int .i64 0, .string ⟨#[]⟩, .slice none 0 0] 36)
  have hneR : w.heap.size + 1 ≠ n := by omega
  have hgeR : w.heap.size ≤ w.heap.size + 1 := by omega
  obtain ⟨bR, hbeR⟩ : ∃ g, g = w.heap.size + 1 := ⟨_, rfl⟩
  have hneX : w.heap.size ≠ n := by omega
  rw [← hbeR] at hBR1 hneR hgeR ⊢
  clear hbeR
  obtain ⟨bX, hbeX⟩ : ∃ g, g = w.heap.size := ⟨_, rfl⟩
  rw [← hbeX] at hBX1 hneX ⊢
  change Bx ((w.alloc (.cells #[.int .i64 (k : Int), .string x, .int .i64 (ln : Int)] 165)).alloc (.cells #[.string ⟨#[]⟩, .bool false, .int .i64 0, .string ⟨#[]⟩, .slice none 0 0, .int .i64 0, .string ⟨#[]⟩, .slice none 0 0] 36)) _ _ _ at hBR1
  have hC1 : Ch (Xp n) w _ := Ch.below hba
  have hP1 := h.below hba
  have HBX := hid hbeX
  clear hbeX hba hS h hG
  generalize (w.alloc (.cells #[.int .i64 (k : Int), .string x, .int .i64 (ln : Int)] 165)).alloc (.cells #[.string ⟨#[]⟩, .bool false, .int .i64 0, .string ⟨#[]⟩, .slice none 0 0, .int .i64 0, .string ⟨#[]⟩, .slice none 0 0] 36) = w1 at *
  have hn : ∀ W, Below w1.heap.size w1 W → Calls Tryz.prog 175 #[.pointer (some ⟨n, 0, none⟩)] W (Runs l n sv rest W (Pl.takeP Pl.nameT ((l.drop i).map kt3)) NameV) := fun W hb => ptakeName_any n sv l rest W i (hP1.below hb) (HS.out.pos (hC1.bel hb) HN.out) hl hbig hi HG.out
  have HX1 := HR.out
  clear HR
  have x1 := hBX1.cell 1 rfl
  have hlX := hBX1.lt
  generalize Pl.takeP Pl.nameT ((l.drop i).map kt3) = R1 at *
  cases R1 with
  | bad r er =>
    have hbA : Below w1.heap.size w1 w1.drew := (Below.refl _ _).drew
    subst HX1
    refine wp_region_drawn2 (pred := fun jx v _ => match jx with | 0 => v = .pointer (some ⟨bX, 1, none⟩) | 1 => v = .string x | 2 => v = .bool O | 3 => v = .pointer (some ⟨n, 0, none⟩) | 4 => False | 5 => False | 6 => True | 7 => True | _ => True) (R := fun W => Below w1.heap.size w1 W) (by kernel_rfl) (by kernel_rfl) (by kernel_rfl) (fun _ _ _ _ h _ => h) hbA ?step ?done
    case step =>
      intro ix o ho A W hsz hdf hfr hdep hR
      rcases ix with _ | _ | _ | _ | _ | _ | _ | _ | ix
      · injection ho with ho
        subst ho
        have e3 : A.eval (.tmp 3) = .pointer (some ⟨bX, 0, none⟩) := (hfr 3 (noDst_spec (by kernel_rfl))).trans rfl
        exact gOp_fld (v := .pointer (some ⟨bX, 1, none⟩)) rfl (wanted_plain rfl) rfl e3 (by go_simp) ⟨_, rfl, rfl, Below.refl _ _, hR⟩
      · injection ho with ho
        subst ho
        have e6 : A.eval (.tmp 6) = .pointer (some ⟨bX, 1, none⟩) := hdep ⟨0, .data⟩ (by simp) rfl _ _ rfl rfl
        have x1 := ((hBX1.below hR).cell 1 rfl)
        exact gOp_ld (v := .string x) rfl (wanted_plain rfl) rfl e6 (by go_simp) ⟨_, rfl, rfl, Below.refl _ _, hR⟩
      · injection ho with ho
        subst ho
        have e7 : A.eval (.tmp 7) = .string x := hdep ⟨1, .data⟩ (by simp) rfl _ _ rfl rfl
        exact gOp_ok (v := .bool O) rfl (wanted_plain rfl) (run_bin rfl e7 rfl (by go_simp) (by go_simp)) ⟨_, rfl, rfl, Below.refl _ _, hR⟩
      · injection ho with ho
        subst ho
        have e0 : A.eval (.tmp 0) = .pointer (some ⟨n, 0, none⟩) := (hfr 0 (noDst_spec (by kernel_rfl))).trans rfl
        exact gOp_mv rfl (wanted_plain rfl) (.inl rfl) e0 ⟨_, rfl, rfl, Below.refl _ _, hR⟩
      · injection ho with ho
        subst ho
        have e9 : A.eval (.tmp 9) = .pointer (some ⟨n, 0, none⟩) := hdep ⟨3, .data⟩ (by simp) rfl _ _ rfl rfl
        refine gOp_dies rfl (wanted_plain rfl) 175 #[.pointer (some ⟨n, 0, none⟩)] (run_call _ (fun _ _ => rfl) _ _ rfl _ (by simp [e9])) ?_
        refine (hn W hR).mono ?_
        rintro e w5 ⟨i5, rfl, hi5, hr5, hC5⟩
        exact ⟨_, rfl, hdf, i5, rfl, hi5, hr5, hC1.trans (Ch.trans (Ch.below hR) hC5)⟩
      · injection ho with ho
        subst ho
        exact (hdep ⟨4, .data⟩ (by simp) rfl _ _ rfl rfl).elim
      · injection ho with ho
        subst ho
        exact gOp_ok (v := .pointer (some ⟨W.heap.size, 0, none⟩)) rfl (wanted_plain rfl) (run_alloc (w' := W.alloc (.cells #[.string ⟨#[]⟩, .bool false, .int .i64 0, .string ⟨#[]⟩, .slice none 0 0, .int .i64 0, .string ⟨#[]⟩, .slice none 0 0] 36)) rfl (by go_simp)) ⟨_, rfl, trivial, below_alloc W _, hR.trans ((below_alloc W _).mono hR.size)⟩
      · injection ho with ho
        subst ho
        exact (hdep ⟨5, .data⟩ (by simp) rfl _ _ rfl rfl).elim
      · simp at ho
    case done =>
      intro A W _ _ _ hcome _
      exact (hcome 4 _ _ rfl rfl).elim
  | ok kk1 r1 =>
    simp only [ok_bind] at HX1
    have HR := hid HX1
    clear HX1
    have hnZ : w1.heap.size ≠ n := by have := hP1.facts.2.2.2; omega
    have hbA : Below w1.heap.size w1 w1.drew := (Below.refl _ _).drew
    have hbB : Below w1.heap.size w1 (w1.alloc (.cells #[.string ⟨#[]⟩, .bool false, .int .i64 0, .string ⟨#[]⟩, .slice none 0 0, .int .i64 0, .string ⟨#[]⟩, .slice none 0 0] 36)).drew := (below_alloc w1 _).drew
    have hBZ : Bx (w1.alloc (.cells #[.string ⟨#[]⟩, .bool false, .int .i64 0, .string ⟨#[]⟩, .slice none 0 0, .int .i64 0, .string ⟨#[]⟩, .slice none 0 0] 36)).drew w1.heap.size [.string ⟨#[]⟩, .bool false, .int .i64 0, .string ⟨#[]⟩, .slice none 0 0, .int .i64 0, .string ⟨#[]⟩, .slice none 0 0] 36 := (Bx.new w1 _ _).below (Below.refl _ _).drew
    go_upto_region 1 with fail
    go_cut [5] (fun p wx => ∃ (bF i2 : Nat) (s : ByteArray), p = .pointer (some ⟨bF, 0, none⟩) ∧ bl s = kk1.2 ∧ Bx wx bF [.string s, .bool O, .int .i64 0, .string ⟨#[]⟩, .slice none 0 0, .int .i64 0, .string ⟨#[]⟩, .slice none 0 0] 36 ∧ w1.heap.size ≤ bF ∧ i2 ≤ l.length ∧ r1 = (l.drop i2).map kt3 ∧ Pos n sv rest wx i2 ∧ Ch (Xp n) w1 wx)
    case first =>
      go_region_law (first
        | (refine step_call1p (v := .pointer (some ⟨n, 0, none⟩)) (o := { dst := some 10, op := .call { callee := .value (.func 175), args := #[.tmp 9], argTypes := #[220] }, type := _, pos := _, after := _, guard := none }) 175 (fun _ _ => rfl) rfl 9 _ rfl (by simp [Act.put]) ?_; first
            | (refine (hn _ hbA).mono ?_; rintro e w5 ⟨v5, i5, rfl, hi5, hr5, hP5, ⟨s5, rfl, hs5⟩, hC5⟩; refine .inl ⟨_, rfl, ?_⟩; have hCA := Ch.trans (Ch.below hbA) hC5; have hX5 := (hBX1.below hbA).ch hC5 (fun hx => hneX hx.1); have y1 := hX5.cell 1 rfl; have hlx5 := hX5.lt; have HR5 := hid hr5; have HS5 := hid hs5; clear hr5 hs5)
            | (refine (hn _ hbB).mono ?_; rintro e w5 ⟨v5, i5, rfl, hi5, hr5, hP5, ⟨s5, rfl, hs5⟩, hC5⟩; refine .inl ⟨_, rfl, ?_⟩; have hCB := Ch.trans (Ch.below hbB) hC5; have hX5 := (hBX1.below hbB).ch hC5 (fun hx => hneX hx.1); have y1 := hX5.cell 1 rfl; have hlx5 := hX5.lt; have hB5 := hBZ.ch hC5 (fun hx => hnZ hx.1); have z0 := hB5.cell 0 rfl; have z1 := hB5.cell 1 rfl; have z2 := hB5.cell 2 rfl; have z3 := hB5.cell 3 rfl; have z4 := hB5.cell 4 rfl; have z5 := hB5.cell 5 rfl; have z6 := hB5.cell 6 rfl; have z7 := hB5.cell 7 rfl; have hzf := hB5.frozen; have HR5 := hid hr5; have HS5 := hid hs5; clear hr5 hs5)))
      all_goals
        go_wp2
        go_meet
        first
          | (have hq := hCA; exact ⟨w5.heap.size, i5, s5, rfl, HS5.out, Bx.new w5 _ _, hCA.size, hi5, HR5.out, hP5.below (below_alloc _ _), hq.al _⟩)
          | (have hq := hCB; exact ⟨w1.heap.size, i5, s5, rfl, HS5.out, ((((((((hB5.set 0 (.string s5)).set 1 (.bool O)).set 2 (.int .i64 0)).set 3 (.string ⟨#[]⟩)).set 4 (.slice none 0 0)).set 5 (.int .i64 0)).set 6 (.string ⟨#[]⟩)).set 7 (.slice none 0 0)), Nat.le_refl _, hi5, HR5.out, ((((((((hP5.other (Ne.symm hnZ) _).other (Ne.symm hnZ) _).other (Ne.symm hnZ) _).other (Ne.symm hnZ) _).other (Ne.symm hnZ) _).other (Ne.symm hnZ) _).other (Ne.symm hnZ) _).other (Ne.symm hnZ) _), ((((((((hq.new (Nat.le_refl _) _).new (Nat.le_refl _) _).new (Nat.le_refl _) _).new (Nat.le_refl _) _).new (Nat.le_refl _) _).new (Nat.le_refl _) _).new (Nat.le_refl _) _).new (Nat.le_refl _) _)⟩)
    case rest =>
      obtain ⟨bF, i2, s2, rfl, hs2, hBF2, hgF, hi2, rfl, hP2, hc2⟩ := hcut
      have hln := hP1.facts.2.2.2
      have hlR1 := hBR1.lt
      have hC2 := hC1.trans hc2
      have hBR2 := hBR1.ch hc2 (fun hx => hneR hx.1)
      have hneF : bF ≠ n := by omega
      have hnqRF : bR ≠ bF := by omega
      have hgeF : w.heap.size ≤ bF := Nat.le_trans hC1.size hgF
      have hgeX : bX = w.heap.size := HBX.out
      generalize wc = w2 at *
      clear hn hnZ hbA hbB hBZ hBX1 hC1 hP1 hBR1 hc2 x1 hlX hst hln hlR1 hgF
      go_wp2_with fail
      refine (psign_any _ [40] rfl _ _ (by simp)).mono ?_
      rintro e w3 ⟨fk3, cap3, rfl, hF3, hb3⟩
      have hC3 := hC2.bel hb3
      have hP3 := hP2.below hb3
      have hBR3 := hBR2.below hb3
      have hBF3 := hBF2.below hb3
      clear hC2 hP2 hBR2 hBF2
      clear hb3
      have htk3 := ptake_any n sv l rest w3 i2 hP3 (HS.out.pos hC3 HN.out) hl hbig hi2 _ _ hF3
      go_wp2_with fail
      have HX3 := HR.out
      clear HR
      refine htk3.mono ?_
      clear htk3
      generalize Pl.takeP (Pl.isT [40]) ((l.drop i2).map kt3) = R3 at *
      cases R3 with
      | bad r er =>
        rintro e wz ⟨iz, rfl, hiz, hrz, hCz⟩
        subst HX3
        exact ⟨rfl, iz, rfl, hiz, hrz, hC3.trans hCz⟩
      | ok kk3 r3 =>
        simp only [ok_bind] at HX3
        rintro e w4 ⟨v3, i4, rfl, hi4, rfl, hP4, ⟨t3, -, -, rfl⟩, hc4⟩
        have HR := hid HX3
        clear HX3
        have hC4 := hC3.trans hc4
        have hBR4 := hBR3.ch hc4 (fun hx => hneR hx.1)
        have hBF4 := hBF3.ch hc4 (fun hx => hneF hx.1)
        clear hC3 hP3 hBR3 hBF3
        clear hc4
        unfold tokV
        have hlFA := hBF4.lt
        have hlRA := hBR4.lt
        have hwCA := hC4.size
        have htk4 := ptype_one n sv l rest hl hbig HG.out w4 i4 hP4 (HS.out.pos hC4 HN.out) hi4 HN.out
        go_wp2_with fail
        have HX4 := HR.out
        clear HR
        refine htk4.mono ?_
        clear htk4
        generalize Pl.typeP 8 ((l.drop i4).map kt3) = R4 at *
        cases R4 with
        | bad r er =>
          rintro e wz ⟨iz, rfl, hiz, hrz, hCz⟩
          subst HX4
          exact ⟨rfl, iz, rfl, hiz, hrz, hC4.trans hCz⟩
        | ok kk4 r4 =>
          simp only [ok_bind] at HX4
          rintro e w5 ⟨v4, i5, rfl, hi5, rfl, hP5, ⟨aA, bA, cA, rfl, hTa5⟩, hc5⟩
          have HR := hid HX4
          clear HX4
          have hC5 := hC4.trans hc5
          have hBR5 := hBR4.ch hc5 (fun hx => hneR hx.1)
          have hBF5 := hBF4.ch hc5 (fun hx => hneF hx.1)
          clear hC4 hP4 hBR4 hBF4
          clear hc5
          obtain ⟨kA, sA, adA, mA, cpA, rfl, rfl, rfl⟩ := hTa5.shape
          have f0 := hBF5.cell 2 rfl
          have f1 := hBF5.cell 3 rfl
          have f2 := hBF5.cell 4 rfl
          have hff := hBF5.frozen
          go_wp2_with fail
          have hC6 := (((hC5.new (k := 2) hgeF (.int .i64 kA)).new (k := 3) hgeF (.string sA)).new (k := 4) hgeF (.slice adA mA cpA))
          have hP6 := (((hP5.other (k := 2) (Ne.symm hneF) (.int .i64 kA)).other (k := 3) (Ne.symm hneF) (.string sA)).other (k := 4) (Ne.symm hneF) (.slice adA mA cpA))
          have hBF6 := (((hBF5.set 2 (.int .i64 kA)).set 3 (.string sA)).set 4 (.slice adA mA cpA))
          have hBR6 := (((hBR5.other (k := 2) hnqRF (.int .i64 kA)).other (k := 3) hnqRF (.string sA)).other (k := 4) hnqRF (.slice adA mA cpA))
          have hTa6 := (((hTa5.set (k := 2) hlFA (.int .i64 kA)).set (k := 3) hlFA (.string sA)).set (k := 4) hlFA (.slice adA mA cpA))
          have hsz : ((((w5.setCell ⟨bF, 2, none⟩ (.int .i64 kA)).setCell ⟨bF, 3, none⟩ (.string sA)).setCell ⟨bF, 4, none⟩ (.slice adA mA cpA))).heap.size = w5.heap.size := by simp
          rw [← hsz]
          clear f0 f1 f2 hff hsz
          clear hC5 hP5 hBR5 hBF5 hTa5
          generalize (((w5.setCell ⟨bF, 2, none⟩ (.int .i64 kA)).setCell ⟨bF, 3, none⟩ (.string sA)).setCell ⟨bF, 4, none⟩ (.slice adA mA cpA)) = w6 at *
          simp only [List.set_cons_zero, List.set_cons_succ] at hBF6
          refine (psign_any _ [41] rfl _ _ (by simp)).mono ?_
          rintro e w7 ⟨fk7, cap7, rfl, hF7, hb7⟩
          have hC7 := hC6.bel hb7
          have hP7 := hP6.below hb7
          have hBR7 := hBR6.below hb7
          have hBF7 := hBF6.below hb7
          have hTa7 := TyC.ch (X := Xp n) (Ch.below hb7) Xp.ty _ _ _ _ hTa6
          clear hC6 hP6 hBR6 hBF6 hTa6
          clear hb7
          have htk7 := ptake_any n sv l rest w7 i5 hP7 (HS.out.pos hC7 HN.out) hl hbig hi5 _ _ hF7
          go_wp2_with fail
          have HX7 := HR.out
          clear HR
          refine htk7.mono ?_
          clear htk7
          generalize Pl.takeP (Pl.isT [41]) ((l.drop i5).map kt3) = R7 at *
          cases R7 with
          | bad r er =>
            rintro e wz ⟨iz, rfl, hiz, hrz, hCz⟩
            subst HX7
            exact ⟨rfl, iz, rfl, hiz, hrz, hC7.trans hCz⟩
          | ok kk7 r7 =>
            simp only [ok_bind] at HX7
            rintro e w8 ⟨v7, i8, rfl, hi8, rfl, hP8, ⟨t7, -, -, rfl⟩, hc8⟩
            have HR := hid HX7
            clear HX7
            have hC8 := hC7.trans hc8
            have hBR8 := hBR7.ch hc8 (fun hx => hneR hx.1)
            have hBF8 := hBF7.ch hc8 (fun hx => hneF hx.1)
            have hTa8 := TyC.ch hc8 Xp.ty _ _ _ _ hTa7
            clear hC7 hP7 hBR7 hBF7 hTa7
            clear hc8
            unfold tokV
            have hlFB := hBF8.lt
            have hlRB := hBR8.lt
            have hwCB := hC8.size
            have htk8 := ptype_one n sv l rest hl hbig HG.out w8 i8 hP8 (HS.out.pos hC8 HN.out) hi8 HN.out
            go_wp2_with fail
            have HX8 := HR.out
            clear HR
            refine htk8.mono ?_
            clear htk8
            generalize Pl.typeP 8 ((l.drop i8).map kt3) = R8 at *
            cases R8 with
            | bad r er =>
              rintro e wz ⟨iz, rfl, hiz, hrz, hCz⟩
              subst HX8
              exact ⟨rfl, iz, rfl, hiz, hrz, hC8.trans hCz⟩
            | ok kk8 r8 =>
              simp only [ok_bind] at HX8
              rintro e w9 ⟨v8, i9, rfl, hi9, rfl, hP9, ⟨aB, bB, cB, rfl, hTr9⟩, hc9⟩
              have HR := hid HX8
              clear HX8
              have hC9 := hC8.trans hc9
              have hBR9 := hBR8.ch hc9 (fun hx => hneR hx.1)
              have hBF9 := hBF8.ch hc9 (fun hx => hneF hx.1)
              have hTa9 := TyC.ch hc9 Xp.ty _ _ _ _ hTa8
              clear hC8 hP8 hBR8 hBF8 hTa8
              clear hc9
              obtain ⟨kB, sB, adB, mB, cpB, rfl, rfl, rfl⟩ := hTr9.shape
              have f0 := hBF9.cell 5 rfl
              have f1 := hBF9.cell 6 rfl
              have f2 := hBF9.cell 7 rfl
              have hff := hBF9.frozen
              go_wp2_with fail
              have hC10 := (((hC9.new (k := 5) hgeF (.int .i64 kB)).new (k := 6) hgeF (.string sB)).new (k := 7) hgeF (.slice adB mB cpB))
              have hP10 := (((hP9.other (k := 5) (Ne.symm hneF) (.int .i64 kB)).other (k := 6) (Ne.symm hneF) (.string sB)).other (k := 7) (Ne.symm hneF) (.slice adB mB cpB))
              have hBF10 := (((hBF9.set 5 (.int .i64 kB)).set 6 (.string sB)).set 7 (.slice adB mB cpB))
              have hBR10 := (((hBR9.other (k := 5) hnqRF (.int .i64 kB)).other (k := 6) hnqRF (.string sB)).other (k := 7) hnqRF (.slice adB mB cpB))
              have hTa10 := (((hTa9.set (k := 5) hlFA (.int .i64 kB)).set (k := 6) hlFA (.string sB)).set (k := 7) hlFA (.slice adB mB cpB))
              have hTr10 := (((hTr9.set (k := 5) hlFB (.int .i64 kB)).set (k := 6) hlFB (.string sB)).set (k := 7) hlFB (.slice adB mB cpB))
              have hsz : ((((w9.setCell ⟨bF, 5, none⟩ (.int .i64 kB)).setCell ⟨bF, 6, none⟩ (.string sB)).setCell ⟨bF, 7, none⟩ (.slice adB mB cpB))).heap.size = w9.heap.size := by simp
              rw [← hsz]
              clear f0 f1 f2 hff hsz
              clear hC9 hP9 hBR9 hBF9 hTa9 hTr9
              generalize (((w9.setCell ⟨bF, 5, none⟩ (.int .i64 kB)).setCell ⟨bF, 6, none⟩ (.string sB)).setCell ⟨bF, 7, none⟩ (.slice adB mB cpB)) = w10 at *
              simp only [List.set_cons_zero, List.set_cons_succ] at hBF10
              refine (psign_any _ [59] rfl _ _ (by simp)).mono ?_
              rintro e w11 ⟨fk11, cap11, rfl, hF11, hb11⟩
              have hC11 := hC10.bel hb11
              have hP11 := hP10.below hb11
              have hBR11 := hBR10.below hb11
              have hBF11 := hBF10.below hb11
              have hTa11 := TyC.ch (X := Xp n) (Ch.below hb11) Xp.ty _ _ _ _ hTa10
              have hTr11 := TyC.ch (X := Xp n) (Ch.below hb11) Xp.ty _ _ _ _ hTr10
              clear hC10 hP10 hBR10 hBF10 hTa10 hTr10
              clear hb11
              have htk11 := ptake_any n sv l rest w11 i9 hP11 (HS.out.pos hC11 HN.out) hl hbig hi9 _ _ hF11
              go_wp2_with fail
              have HX11 := HR.out
              clear HR
              refine htk11.mono ?_
              clear htk11
              generalize Pl.takeP (Pl.isT [59]) ((l.drop i9).map kt3) = R11 at *
              cases R11 with
              | bad r er =>
                rintro e wz ⟨iz, rfl, hiz, hrz, hCz⟩
                subst HX11
                exact ⟨rfl, iz, rfl, hiz, hrz, hC11.trans hCz⟩
              | ok kk11 r11 =>
                simp only [ok_bind] at HX11
                rintro e w12 ⟨v11, i12, rfl, hi12, rfl, hP12, ⟨t11, -, -, rfl⟩, hc12⟩
                have HR := hid HX11
                clear HX11
                have hC12 := hC11.trans hc12
                have hBR12 := hBR11.ch hc12 (fun hx => hneR hx.1)
                have hBF12 := hBF11.ch hc12 (fun hx => hneF hx.1)
                have hTa12 := TyC.ch hc12 Xp.ty _ _ _ _ hTa11
                have hTr12 := TyC.ch hc12 Xp.ty _ _ _ _ hTr11
                clear hC11 hP11 hBR11 hBF11 hTa11 hTr11
                clear hc12
                unfold tokV
                have x0 := hBF12.cell 0 rfl
                have x1 := hBF12.cell 1 rfl
                have x2 := hBF12.cell 2 rfl
                have x3 := hBF12.cell 3 rfl
                have x4 := hBF12.cell 4 rfl
                have x5 := hBF12.cell 5 rfl
                have x6 := hBF12.cell 6 rfl
                have x7 := hBF12.cell 7 rfl
                have d0 := hBR12.cell 0 rfl
                have d1 := hBR12.cell 1 rfl
                have d2 := hBR12.cell 2 rfl
                have d3 := hBR12.cell 3 rfl
                have d4 := hBR12.cell 4 rfl
                have d5 := hBR12.cell 5 rfl
                have d6 := hBR12.cell 6 rfl
                have d7 := hBR12.cell 7 rfl
                have hfb := hBR12.frozen
                go_wp2
                have hB7 := ((((((((hBR12.set 0 (.string s2)).set 1 (.bool O)).set 2 (.int .i64 kA)).set 3 (.string sA)).set 4 (.slice adA mA cpA)).set 5 (.int .i64 kB)).set 6 (.string sB)).set 7 (.slice adB mB cpB))
                refine bodyPost_ret (ret_method58 rfl (hB7.cell 0 rfl) (hB7.cell 1 rfl) (hB7.cell 2 rfl) (hB7.cell 3 rfl) (hB7.cell 4 rfl) (hB7.cell 5 rfl) (hB7.cell 6 rfl) (hB7.cell 7 rfl)) rfl ?_
                rw [← HR.out]
                exact ⟨_, i12, rfl, hi12, rfl, ((((((((hP12.other (Ne.symm hneR) _).other (Ne.symm hneR) _).other (Ne.symm hneR) _).other (Ne.symm hneR) _).other (Ne.symm hneR) _).other (Ne.symm hneR) _).other (Ne.symm hneR) _).other (Ne.symm hneR) _), ⟨s2, _, _, _, _, _, _, rfl, hs2, TyC.mono (by omega) _ _ _ _ ((((((((hTa12.set (k := 0) hlRA (.string s2)).set (k := 1) hlRA (.bool O)).set (k := 2) hlRA (.int .i64 kA)).set (k := 3) hlRA (.string sA)).set (k := 4) hlRA (.slice adA mA cpA)).set (k := 5) hlRA (.int .i64 kB)).set (k := 6) hlRA (.string sB)).set (k := 7) hlRA (.slice adB mB cpB)), TyC.mono (by omega) _ _ _ _ ((((((((hTr12.set (k := 0) hlRB (.string s2)).set (k := 1) hlRB (.bool O)).set (k := 2) hlRB (.int .i64 kA)).set (k := 3) hlRB (.string sA)).set (k := 4) hlRB (.slice adA mA cpA)).set (k := 5) hlRB (.int .i64 kB)).set (k := 6) hlRB (.string sB)).set (k := 7) hlRB (.slice adB mB cpB))⟩, ((((((((hC12.new hgeR _).new hgeR _).new hgeR _).new hgeR _).new hgeR _).new hgeR _).new hgeR _).new hgeR _)⟩
end Go.Proofs.YtdbgncdnffbhkaaGreatDoor

namespace Go.Proofs.YtdbgncdnffbhkaaGreatDoor
open Go.RowKit
set_option maxRecDepth 20000

/-- As Runs, of a call that turns what X says. -/
def RunsX {α : Type} (X : Nat → TypeId → Prop) (l : List T3) (n : Nat) (sv : Value) (rest : List Value) (w : World) (res : Pl.Res α) (V : α → World → Prop) (e : Ending) (w' : World) : Prop :=
  match res with
  | .ok a r => ∃ i', e = .returned (.tuple #[]) ∧ i' ≤ l.length ∧ r = (l.drop i').map kt3 ∧ Pos n sv rest w' i' ∧ V a w' ∧ Ch X w w'
  | .bad r er => ∃ i', e = .panicked (fault (lineAt l i') er) ∧ i' ≤ l.length ∧ r = (l.drop i').map kt3 ∧ Ch X w w'

def preR {α : Type} (xs : List α) (x : Pl.Res (List α)) : Pl.Res (List α) := x.bind fun bs r => .ok (xs ++ bs) r

theorem parts_end {α : Type} (beg : Pl.Kt → Bool) (part : Pl.Kt → List Pl.Kt → Pl.Res α) (k : Nat) (t : Pl.Kt) (r : List Pl.Kt) (h : t.2 = [125]) : Pl.partsP beg part k (t :: r) = .ok [] r := by
  cases k <;> simp [Pl.partsP, h]
theorem parts_step {α : Type} (beg : Pl.Kt → Bool) (part : Pl.Kt → List Pl.Kt → Pl.Res α) (m : Nat) (hm : m ≤ 32) (x : List Pl.Kt) (h : ∀ t r, x = t :: r → t.2 ≠ [125]) :
    Pl.partsP beg part (32 - m) x = (moreP beg m 32 x).bind fun t r => (part t r).bind fun a r1 => preR [a] (Pl.partsP beg part (32 - (m + 1)) r1) := by
  cases x with
  | nil => cases (32 - m) <;> rfl
  | cons t r =>
    have ht := h t r rfl
    by_cases hb : beg t = true
    · by_cases h32 : m = 32
      · subst h32
        simp [Pl.partsP, moreP, Pl.takeP, ht, hb, Pl.Res.bind]
      · obtain ⟨k, hk⟩ : ∃ k, 32 - m = k + 1 := ⟨31 - m, by omega⟩
        have hk2 : 32 - (m + 1) = k := by omega
        rw [hk, hk2]
        simp only [Pl.partsP, moreP, Pl.takeP, if_neg ht, if_pos hb, ok_bind, if_neg h32]
        rfl
    · have hq : moreP beg m 32 (t :: r) = .bad (t :: r) 33 := by simp [moreP, Pl.takeP, hb, Pl.Res.bind]
      rw [hq]
      cases (32 - m) <;> simp [Pl.partsP, ht, hb, Pl.Res.bind]

theorem preR_preR {α : Type} (xs bs : List α) (x : Pl.Res (List α)) : preR xs (preR bs x) = preR (xs ++ bs) x := by
  cases x with
  | ok a r => simp [preR, Pl.Res.bind]
  | bad r e => rfl

theorem more_ok {p : Pl.Kt → Bool} {m k : Nat} {x r : List Pl.Kt} {t : Pl.Kt} (h : moreP p m k x = .ok t r) : p t = true ∧ m ≠ k := by
  unfold moreP at h
  obtain ⟨a, r1, h1, h2⟩ := Pl.bind_ok h
  split at h2
  · cases h2
  · rename_i hm
    cases x with
    | nil => simp [Pl.takeP] at h1
    | cons y x =>
      simp only [Pl.takeP] at h1
      split at h1
      · rename_i hp
        simp only [Pl.Res.ok.injEq] at h1 h2
        rw [← h2.1, ← h1.1]
        exact ⟨hp, hm⟩
      · cases h1

set_option maxHeartbeats 16000000 in
set_option maxRecDepth 4000 in
theorem pparts_any {α : Type} (X : Nat → TypeId → Prop) (n : Nat) (sv : Value) (l : List T3) (rest : List Value) (hl : 0 < l.length) (hbig : l.length ≤ 1000000) (w : World) (i : Nat) (h : Pos n sv rest w i) (hS : TSeg w sv (l.map toZ)) (hi : i ≤ l.length)
    (hXp : ∀ g T, Xp n g T → X g T) (hXs : ∀ g T, X g T → Xs g T) (hsn : ∀ g, sv.ownBlock = some g → ∀ T, ¬ X g T)
    (beg : Pl.Kt → Bool) (bv : Value) (hF : FitsT w bv beg) (part : Pl.Kt → List Pl.Kt → Pl.Res α) (Inv : List α → World → Prop) (hI0 : Inv [] w) (hIk : ∀ xs W W', Inv xs W → Ch (Xp n) W W' → Inv xs W')
    (fr : Nat) (capr : Array Value) (hen : ∀ (args : Array Value) (w' : World), (callFunc fr args).run Tryz.prog w' = .ok (.enter fr args) w')
    (hrest : ∀ (xs : List α) (W : World) (j : Nat) (t : T3), Ch X w W → Inv xs W → Pos n sv rest W j → j ≤ l.length → t ∈ l → beg (kt3 t) = true → xs.length < 32 →
      Calls Tryz.prog fr (#[tokV t] ++ capr) W (RunsX X l n sv rest W (part (kt3 t) ((l.drop j).map kt3)) (fun a w' => Inv (xs ++ [a]) w'))) :
    Calls Tryz.prog 176 #[.pointer (some ⟨n, 0, none⟩), bv, .func (.func fr) #[] capr] w
      (RunsX X l n sv rest w ((Pl.takeP (Pl.isT [123]) ((l.drop i).map kt3)).bind fun _ r => Pl.partsP beg part 32 r) Inv) := by
  generalize hRES : ((Pl.takeP (Pl.isT [123]) ((l.drop i).map kt3)).bind fun _ r => Pl.partsP beg part 32 r) = RES
  have HR := hid hRES
  have HS := hid hS
  have HN := hid hsn
  have HIk := hid hIk
  have Hrest := hid hrest
  have HF := hid hF
  have HXp := hid hXp
  have HXs := hid hXs
  obtain ⟨fk, cap, rfl, _, _⟩ := id hF
  have hlt : n < w.heap.size := h.facts.2.2.2
  clear hRES hsn hIk hrest hXp hXs hF
  go_enter Tryz.func176, Tryz.ntmps176
  go_wp2_with fail
  refine (psign_any _ [123] rfl _ _ (by simp)).mono ?_
  rintro e w1 ⟨fk1, cap1, rfl, hF1, hb1⟩
  have htk1 := ptake_any n sv l rest w1 i (h.below hb1) (hS.below hb1) hl hbig hi _ _ hF1
  have hC1 : Ch (Xp n) w w1 := Ch.below hb1
  clear hF1 hb1 h hS
  go_wp2_with fail
  have HX1 := HR.out
  clear HR
  refine htk1.mono ?_
  clear htk1
  generalize Pl.takeP (Pl.isT [123]) ((l.drop i).map kt3) = R1 at *
  cases R1 with
  | bad r er =>
    rintro e wz ⟨iz, rfl, hiz, hrz, hCz⟩
    subst HX1
    exact ⟨rfl, iz, rfl, hiz, hrz, (hC1.trans hCz).mono HXp.out⟩
  | ok kk1 r1 =>
    simp only [ok_bind] at HX1
    rintro e w2 ⟨v1, i2, rfl, hi2, rfl, hP2, ⟨t1, -, -, rfl⟩, hc2⟩
    have hC2 := hC1.trans hc2
    have hI2 := HIk.out _ _ _ hI0 hC2
    have HR := hid HX1
    unfold tokV
    clear HX1 hc2 hC1 hI0
    go_wp2_with fail
    go_loopw [6] (fun v wr => ∃ (xs : List α) (j : Nat), v = .int .i64 (xs.length : Int) ∧ xs.length ≤ 32 ∧ j ≤ l.length ∧ preR xs (Pl.partsP beg part (32 - xs.length) ((l.drop j).map kt3)) = RES ∧ Pos n sv rest wr j ∧ Inv xs wr ∧ Ch X w wr) (fun v _ => 33 - (intOf v).toNat)
    case atStart =>
      refine ⟨[], i2, rfl, by simp, hi2, ?_, hP2, hI2, hC2.mono HXp.out⟩
      rw [← HR.out]
      simp only [List.length_nil, Nat.sub_zero]
      generalize Pl.partsP beg part 32 ((l.drop i2).map kt3) = R
      cases R <;> rfl
    case round =>
      obtain ⟨xs, j, rfl, has, hj, hT, hP, hI, hC⟩ := hrel
      have HT := hid hT
      clear hT hP2 hI2 hC2 HR
      go_wp2_with fail
      refine (psign_any _ [125] rfl _ _ (by simp)).mono ?_
      rintro e w3 ⟨fk3, cap3, rfl, hF3, hb3⟩
      have hP3 := hP.below hb3
      have hC3 := hC.bel hb3
      have hS3 := HS.out.ch hC3 HN.out
      have hI3 := HIk.out _ _ _ hI (Ch.below hb3)
      have hse := psees_any n sv l rest w3 j hP3 hS3 hj _ _ hF3
      clear hP hC hI hb3 hF3
      go_wp2_with fail
      refine hse.mono ?_
      clear hse
      cases hq : seesT (Pl.isT [125]) (l.drop j) with
      | true =>
        rintro e w4 ⟨rfl, hb4⟩
        obtain ⟨t, ht, htx⟩ : ∃ t, l[j]? = some t ∧ Pl.isT [125] (kt3 t) = true := by
          cases hd : l.drop j with
          | nil => rw [hd] at hq; simp [seesT] at hq
          | cons t r' =>
            rw [hd] at hq
            have := congrArg (fun x => x[0]?) hd
            exact ⟨t, by simpa using this, hq⟩
        have hT2 := HT.out
        rw [drop_token l j t ht, List.map_cons, parts_end _ _ _ _ _ (by simpa [Pl.isT] using htx)] at hT2
        have HT2 : Hid (Pl.Res.ok xs ((l.drop (j + 1)).map kt3) = RES) := by
          rw [← hT2]
          simp [preR, Pl.Res.bind, Hid]
        have hjl := (List.getElem?_eq_some_iff.1 ht).1
        clear hT2 HT hq
        go_wp2_with fail
        refine (psign_any _ [125] rfl _ _ (by simp)).mono ?_
        rintro e w5 ⟨fk5, cap5, rfl, hF5, hb5⟩
        have hb45 := below_next hb4 hb5
        have htk5 := ptake_ok n sv l rest w5 j (hP3.below hb45) (hS3.below hb45) hbig t ht _ _ hF5 htx
        have hC5 := hC3.bel hb45
        have hI5 := HIk.out _ _ _ hI3 (Ch.below hb45)
        clear hF5 hb5 hb4 hb45 ht htx hP3 hS3 hC3 hI3
        go_wp2_with fail
        refine htk5.mono ?_
        rintro e w6 ⟨rfl, hP6, hC6⟩
        unfold tokV
        go_wp2
        go_end0
        rw [← HT2.out]
        exact ⟨j + 1, rfl, hjl, rfl, hP6, HIk.out _ _ _ hI5 hC6, hC5.trans (hC6.mono HXp.out)⟩
      | false =>
        rintro e w4 ⟨rfl, hb4⟩
        have hnc : ∀ t r, (l.drop j).map kt3 = t :: r → t.2 ≠ [125] := by
          intro t r htr hc
          cases hd : l.drop j with
          | nil => rw [hd] at htr; simp at htr
          | cons t' r' =>
            rw [hd] at htr hq
            simp only [List.map_cons, List.cons.injEq] at htr
            simp [seesT, Pl.isT, htr.1, hc] at hq
        have hT2 := HT.out
        rw [parts_step beg part xs.length has _ hnc] at hT2
        have HT2 := hid hT2
        have hP4 := hP3.below hb4
        have hC4 := hC3.bel hb4
        have hmo := pmore_any n sv l rest w4 j hP4 (hS3.below hb4) hl hbig hj _ _ (HF.out.ch (hC4.mono HXs.out)) xs.length 32
        have hI4 := HIk.out _ _ _ hI3 (Ch.below hb4)
        clear hT2 HT hnc hq hb4 hP3 hS3 hC3 hI3
        go_wp2_with fail
        refine hmo.mono ?_
        clear hmo
        have HX4 := HT2.out
        clear HT2
        generalize hR4 : moreP beg xs.length 32 ((l.drop j).map kt3) = R4 at *
        cases R4 with
        | bad r er =>
          rintro e wz ⟨iz, rfl, hiz, hrz, hCz⟩
          subst HX4
          exact ⟨rfl, iz, rfl, hiz, hrz, hC4.trans (hCz.mono HXp.out)⟩
        | ok kk r =>
          rintro e w5 ⟨v5, i5, rfl, hi5, rfl, hP5, ⟨t5, ht5, rfl, rfl⟩, hc5⟩
          simp only [ok_bind] at HX4
          obtain ⟨hbt, hmk⟩ := more_ok hR4
          have hI5 := HIk.out _ _ _ hI4 hc5
          have hC5 := hC4.trans (hc5.mono HXp.out)
          have hrs := Hrest.out xs w5 i5 t5 hC5 hI5 hP5 hi5 ht5 hbt (by omega)
          have HX5 := hid HX4
          clear HX4 hR4 hI5 hI4 hC4 hc5 hP4 hP5 hbt
          unfold tokV at hrs ⊢
          go_wp2_with fail
          refine hrs.mono ?_
          clear hrs
          have HX6 := HX5.out
          clear HX5
          generalize part (kt3 t5) ((l.drop i5).map kt3) = R5 at *
          cases R5 with
          | bad r er =>
            rintro e wz ⟨iz, rfl, hiz, hrz, hCz⟩
            subst HX6
            exact ⟨rfl, iz, rfl, hiz, hrz, hC5.trans hCz⟩
          | ok a r =>
            rintro e w6 ⟨i6, rfl, hi6, rfl, hP6, hI6, hc6⟩
            simp only [ok_bind] at HX6
            rw [preR_preR] at HX6
            have HX7 := hid HX6
            have hC6 := hC5.trans hc6
            clear HX6 hC5 hc6
            go_wp2
            refine ⟨⟨xs ++ [a], i6, ?_, ?_, hi6, ?_, hP6, hI6, hC6⟩, ?_⟩
            · rw [List.length_append]
              go_num
            · rw [List.length_append]
              simp
              omega
            · rw [List.length_append]
              exact HX7.out
            · simp [intOf]
              omega
end Go.Proofs.YtdbgncdnffbhkaaGreatDoor

namespace Go.Proofs.YtdbgncdnffbhkaaGreatDoor
open Go.RowKit
set_option maxRecDepth 20000

/-- A row of the call's own, of parts of m cells each, of which R speaks. -/
def Rows {α : Type} (T : TypeId) (m : Nat) (R : α → List Value → World → Prop) (B : Nat) (w : World) (v : Value) (xs : List α) : Prop :=
  ∃ ps : List (α × List Value), ps.map Prod.fst = xs ∧ (∀ p ∈ ps, R p.1 p.2 w ∧ p.2.length = m) ∧ w.ownsRow B T m v ps.length (ps.flatMap Prod.snd)

theorem Rows.nil {α : Type} (T : TypeId) (m : Nat) (R : α → List Value → World → Prop) (B : Nat) (w : World) : Rows T m R B w (.slice none 0 0) [] :=
  ⟨[], rfl, (fun p hp => by cases hp), World.ownsRow_nil w B T m⟩
theorem Rows.shape {α : Type} {T : TypeId} {m : Nat} {R : α → List Value → World → Prop} {B : Nat} {w : World} {v : Value} {xs : List α} (h : Rows T m R B w v xs) : ∃ ad cp, v = .slice ad xs.length cp := by
  obtain ⟨ps, rfl, _, h⟩ := h
  rw [List.length_map]
  rcases h.2 with ⟨rfl, h0⟩ | ⟨g, cap, cur, rfl, _⟩
  · exact ⟨none, 0, by rw [h0]⟩
  · exact ⟨_, _, rfl⟩
theorem own_block {T : TypeId} {m B : Nat} {w : World} {v : Value} {n : Nat} {cs : List Value} (h : w.ownsRow B T m v n cs) {k : Nat} (hk : v.ownBlock = some k) : B ≤ k ∧ ∃ cur, w.heap[k]? = some (.cells cur T (0, 0)) := by
  rcases h.2 with ⟨rfl, _⟩ | ⟨g, cap, cur, rfl, hb, hg, _⟩
  · simp [Value.ownBlock] at hk
  · simp [Value.ownBlock] at hk
    subst hk
    exact ⟨hb, cur, hg⟩
theorem own_ch {X : Nat → TypeId → Prop} {T : TypeId} {m B : Nat} {w w' : World} {v : Value} {n : Nat} {cs : List Value} (h : w.ownsRow B T m v n cs) (hc : Ch X w w') (hX : ∀ k, v.ownBlock = some k → ¬ X k T) : w'.ownsRow B T m v n cs := by
  refine ⟨h.1, ?_⟩
  rcases h.2 with h0 | ⟨g, cap, cur, rfl, hb, hg, hr⟩
  · exact .inl h0
  · exact .inr ⟨g, cap, cur, rfl, hb, hc.block g _ hg (fun _ _ _ e => by cases e; exact hX g rfl), hr⟩
theorem Rows.ch {α : Type} {X : Nat → TypeId → Prop} {T : TypeId} {m : Nat} {R : α → List Value → World → Prop} {B : Nat} {w w' : World} {v : Value} {xs : List α} (h : Rows T m R B w v xs) (hc : Ch X w w') (hR : ∀ a c, R a c w → R a c w') (hX : ∀ k, B ≤ k → ¬ X k T) : Rows T m R B w' v xs := by
  obtain ⟨ps, h1, h2, h3⟩ := h
  exact ⟨ps, h1, fun p hp => ⟨hR _ _ (h2 p hp).1, (h2 p hp).2⟩, own_ch h3 hc (fun k hk => hX k (own_block h3 hk).1)⟩
theorem Rows.more {α : Type} {T : TypeId} {m : Nat} {R : α → List Value → World → Prop} {B : Nat} {w w' : World} {v' : Value} {ps : List (α × List Value)} (h2 : ∀ p ∈ ps, R p.1 p.2 w ∧ p.2.length = m) (hR : ∀ a c, R a c w → R a c w') (a : α) (c : List Value) (hc : R a c w') (hl : c.length = m)
    (ho : w'.ownsRow B T m v' (ps.length + 1) (ps.flatMap Prod.snd ++ c)) : Rows T m R B w' v' (ps.map Prod.fst ++ [a]) := by
  refine ⟨ps ++ [(a, c)], by simp, fun p hp => ?_, by simpa using ho⟩
  rcases List.mem_append.1 hp with hp | hp
  · exact ⟨hR _ _ (h2 p hp).1, (h2 p hp).2⟩
  · simp at hp
    subst hp
    exact ⟨hc, hl⟩
theorem grown_ch {X : Nat → TypeId → Prop} {T : TypeId} {m B : Nat} {w w' : World} {v : Value} {n : Nat} {cs : List Value} (h : w.ownsRow B T m v n cs) {w0 : World} (ha : Ch X w0 w) (hg : w.grownBy w' v.ownBlock) (hX : ∀ k, B ≤ k → X k T) : Ch X w0 w' := by
  refine ha.trans (Ch.grown hg (fun g cs' T' r hr ho => ?_) (fun g o hr ho => ?_))
  · obtain ⟨hb, cur, hq⟩ := own_block h hr
    rw [hq] at ho
    cases ho
    exact hX g hb
  · obtain ⟨hb, cur, hq⟩ := own_block h hr
    rw [hq] at ho
    exact ⟨_, _, _, (Option.some.inj ho).symm⟩

theorem step_call2p {P : Program} {w : World} {ops : Array Oper} {o : Oper} {a : Act} {K : Act → World → Prop} {Q : Exit → Act → World → Prop} {E : Prop} {v u : Value} (f : Nat) (eg : ∀ args w, (callFunc f args).run P w = .ok (.enter f args) w) (hg : o.guard = none) (s t : Nat) (ts : Array TypeId) (hop : o.op = .call { callee := .value (.func f), args := #[.tmp s, .tmp t], argTypes := ts }) (hs : a.tmps.getD s undef = v) (ht : a.tmps.getD t undef = u)
    (h : Calls P f #[v, u] w fun e w' => ∃ x, e = .returned x ∧ K (a.put o.dst x) w') : if Region.wanted o (yielded ops a.tmps) = true then Oper.wp P o a w K Q else E := by
  have hw : Region.wanted o (yielded ops a.tmps) = true := by simp [Region.wanted, hg]
  rw [if_pos hw]
  unfold Oper.wp
  have hs' : a.eval (.tmp s) = v := hs
  have ht' : a.eval (.tmp t) = u := ht
  have hrun : (execOp a.eval o).run P w = .ok (.enter f #[v, u]) w := by
    simp [execOp, hop, hs', ht', resolve, invoke, show a.eval (.func f) = .func (.func f) #[] #[] from rfl, Deferred.ofValue, eg]
  rw [hrun]
  refine h.mono ?_
  rintro e w' ⟨x, rfl, hk⟩
  exact hk

/-- The cells of a part. -/
def FldR (B : Nat) (f : Pl.Fld) (c : List Value) (w : World) : Prop := ∃ s k sn ad m cp, c = [.string s, .int .i64 (f.num : Int), .int .i64 k, .string sn, .slice ad m cp] ∧ bl s = f.name ∧ TyC B f.ty w (.int .i64 k) (.string sn) (.slice ad m cp)
def CasR (f : Pl.Cas) (c : List Value) (_ : World) : Prop := ∃ s, c = [.string s, .int .i64 (f.num : Int)] ∧ bl s = f.name
def MthR (B : Nat) (f : Pl.Mth) (c : List Value) (w : World) : Prop := ∃ s k sn ad m cp k' sn' ad' m' cp', c = [.string s, .bool f.once, .int .i64 k, .string sn, .slice ad m cp, .int .i64 k', .string sn', .slice ad' m' cp'] ∧ bl s = f.name ∧ TyC B f.arg w (.int .i64 k) (.string sn) (.slice ad m cp) ∧ TyC B f.res w (.int .i64 k') (.string sn') (.slice ad' m' cp')

theorem FldR.ch {B : Nat} {X : Nat → TypeId → Prop} {w w' : World} (hc : Ch X w w') (hX : ∀ g, B ≤ g → ¬ X g 34) (f : Pl.Fld) (c : List Value) (h : FldR B f c w) : FldR B f c w' := by
  obtain ⟨s, k, sn, ad, m, cp, h1, h2, h3⟩ := h
  exact ⟨s, k, sn, ad, m, cp, h1, h2, TyC.ch hc hX _ _ _ _ h3⟩
theorem MthR.ch {B : Nat} {X : Nat → TypeId → Prop} {w w' : World} (hc : Ch X w w') (hX : ∀ g, B ≤ g → ¬ X g 34) (f : Pl.Mth) (c : List Value) (h : MthR B f c w) : MthR B f c w' := by
  obtain ⟨s, k, sn, ad, m, cp, k', sn', ad', m', cp', h1, h2, h3, h4⟩ := h
  exact ⟨s, k, sn, ad, m, cp, k', sn', ad', m', cp', h1, h2, TyC.ch hc hX _ _ _ _ h3, TyC.ch hc hX _ _ _ _ h4⟩

theorem FldV.flat {B : Nat} {f : Pl.Fld} {v : Value} {w : World} (h : FldV B f v w) : ∃ s k sn ad m cp, v = .agg #[.string s, .int .i64 (f.num : Int), .int .i64 k, .string sn, .slice ad m cp] ∧ bl s = f.name ∧ TyC B f.ty w (.int .i64 k) (.string sn) (.slice ad m cp) := by
  obtain ⟨s, a, b, c, rfl, h1, h2⟩ := h
  obtain ⟨k, sn, ad, m, cp, rfl, rfl, rfl⟩ := h2.shape
  exact ⟨s, k, sn, ad, m, cp, rfl, h1, h2⟩
theorem CasV.flat {f : Pl.Cas} {v : Value} {w : World} (h : CasV f v w) : ∃ s, v = .agg #[.string s, .int .i64 (f.num : Int)] ∧ bl s = f.name := h
theorem MthV.flat {B : Nat} {f : Pl.Mth} {v : Value} {w : World} (h : MthV B f v w) : ∃ s k sn ad m cp k' sn' ad' m' cp', v = .agg #[.string s, .bool f.once, .int .i64 k, .string sn, .slice ad m cp, .int .i64 k', .string sn', .slice ad' m' cp'] ∧ bl s = f.name ∧ TyC B f.arg w (.int .i64 k) (.string sn) (.slice ad m cp) ∧ TyC B f.res w (.int .i64 k') (.string sn') (.slice ad' m' cp') := by
  obtain ⟨s, a, b, c, a', b', c', rfl, h1, h2, h3⟩ := h
  obtain ⟨k, sn, ad, m, cp, rfl, rfl, rfl⟩ := h2.shape
  obtain ⟨k', sn', ad', m', cp', rfl, rfl, rfl⟩ := h3.shape
  exact ⟨s, k, sn, ad, m, cp, k', sn', ad', m', cp', rfl, h1, h2, h3⟩
end Go.Proofs.YtdbgncdnffbhkaaGreatDoor

