/- parse: takeCase, takeField, takeMethod. -/
import Derived.Test.YthdooemgnpiomaaQH
namespace Go.Proofs.Ythdooemgnpiomaa
open Go.RowKit

theorem hid {p : Prop} (h : p) : Hid p := h

theorem ret_case56 {W : World} {tmps : Array Value} {b : Nat} {x y : Value} (ht : tmps.getD 4 undef = .pointer (some ⟨b, 0, none⟩)) (h0 : W.cell? ⟨b, 0, none⟩ = some x) (h1 : W.cell? ⟨b, 1, none⟩ = some y) :
    (results Try.f56 tmps).run Try.prog W = .ok (.agg #[x, y]) W := by
  have ht' : tmps[4]?.getD undef = .pointer (some ⟨b, 0, none⟩) := by rw [← Array.getD_eq_getD_getElem?]; exact ht
  simp [results, Try.results56]
  go_simp
theorem ret_field54 {W : World} {tmps : Array Value} {b : Nat} {x y p q r : Value} (ht : tmps.getD 4 undef = .pointer (some ⟨b, 0, none⟩)) (h0 : W.cell? ⟨b, 0, none⟩ = some x) (h1 : W.cell? ⟨b, 1, none⟩ = some y) (h2 : W.cell? ⟨b, 2, none⟩ = some p) (h3 : W.cell? ⟨b, 3, none⟩ = some q) (h4 : W.cell? ⟨b, 4, none⟩ = some r) :
    (results Try.f54 tmps).run Try.prog W = .ok (.agg #[x, y, p, q, r]) W := by
  have ht' : tmps[4]?.getD undef = .pointer (some ⟨b, 0, none⟩) := by rw [← Array.getD_eq_getD_getElem?]; exact ht
  simp [results, Try.results54]
  go_simp

def CasV (f : Pl.Cas) (v : Value) (_ : World) : Prop := ∃ s, v = .agg #[.string s, .int .i64 (f.num : Int)] ∧ bl s = f.name
def FldV (B : Nat) (f : Pl.Fld) (v : Value) (w : World) : Prop := ∃ s a b c, v = .agg #[.string s, .int .i64 (f.num : Int), a, b, c] ∧ bl s = f.name ∧ TyC B f.ty w a b c

theorem ptype_one (n : Nat) (sv : Value) (l : List T3) (rest : List Value) (hl : 0 < l.length) (hbig : l.length ≤ 1000000) (hG : GoodT l) (w : World) (i : Nat) (h : Pos n sv rest w i) (hS : TSeg w sv (l.map toZ)) (hi : i ≤ l.length) (hsn : ∀ g, sv.ownBlock = some g → g ≠ n) :
    Calls Try.prog 77 #[.pointer (some ⟨n, 0, none⟩), .int .i64 1] w (Runs l n sv rest w (Pl.typeP 8 ((l.drop i).map kt3)) (TyV w.heap.size)) := by
  have := ptype_any n sv l rest hl hbig hG 8 w i (by omega) h hS hi hsn
  exact this

set_option maxHeartbeats 16000000 in
set_option maxRecDepth 4000 in
theorem pcase_any (n : Nat) (sv : Value) (l : List T3) (rest : List Value) (hl : 0 < l.length) (hbig : l.length ≤ 1000000) (hG : GoodT l) (w : World) (i : Nat) (h : Pos n sv rest w i) (hS : TSeg w sv (l.map toZ)) (hi : i ≤ l.length) (hsn : ∀ g, sv.ownBlock = some g → g ≠ n) (t : T3) (ht : t ∈ l) (hk : t.1 = 2) :
    Calls Try.prog 56 #[.pointer (some ⟨n, 0, none⟩), tokV t] w (Runs l n sv rest w (Pl.caseP (kt3 t) ((l.drop i).map kt3)) CasV) := by
  have hct := fun w => count_any t (hG t ht) hk w
  obtain ⟨k, x, ln⟩ := t
  have hkx : (kt3 (k, x, ln)).2 = bl x := rfl
  unfold Pl.caseP
  rw [hkx]
  unfold tokV at hct ⊢
  simp only at hct ⊢
  generalize Pl.valN (bl x) = V at *
  generalize hRES : ((Pl.takeP Pl.nameT ((l.drop i).map kt3)).bind fun n r => (Pl.takeP (Pl.isT [59]) r).bind fun _ r => Pl.Res.ok (⟨V, n.2⟩ : Pl.Cas) r) = RES
  have HR := hid hRES
  have HN := hid hsn
  have HG := hid hG
  have HS := hid hS
  have hlt : n < w.heap.size := h.facts.2.2.2
  clear hRES hkx hsn ht hk
  go_enter Try.func56, Try.ntmps56
  go_wp2_with fail
  refine (hct _).mono ?_
  rintro e w1 ⟨rfl, hb1⟩
  have hba := below_next (below_alloc w (.cells #[.int .i64 (k : Int), .string x, .int .i64 (ln : Int)] 36)) (below_alloc (w.alloc (.cells #[.int .i64 (k : Int), .string x, .int .i64 (ln : Int)] 36)) (.cells #[.string ⟨#[]⟩, .int .i64 0] 70))
  have hBR1 := (Bx.newAt (w := w.alloc (.cells #[.int .i64 (k : Int), .string x, .int .i64 (ln : Int)] 36)) (g := w.heap.size + 1) (by simp) [.string ⟨#[]⟩, .int .i64 0] 70).below hb1
  replace hb1 := below_next hba hb1
  have hneR : w.heap.size + 1 ≠ n := by omega
  have hgeR : w.heap.size ≤ w.heap.size + 1 := by omega
  obtain ⟨bR, hbeR⟩ : ∃ g, g = w.heap.size + 1 := ⟨_, rfl⟩
  rw [← hbeR] at hBR1 hneR hgeR ⊢
  have hC1 : Ch (Xp n) w w1 := Ch.below hb1
  have hP1 := h.below hb1
  clear hbeR hba hb1 hct hS h hG
  have htk1 := ptakeName_any n sv l rest w1 i hP1 (HS.out.pos hC1 HN.out) hl hbig hi HG.out
  go_wp2_with fail
  have HX1 := HR.out
  clear HR
  refine htk1.mono ?_
  clear htk1
  generalize Pl.takeP Pl.nameT ((l.drop i).map kt3) = R1 at *
  cases R1 with
  | bad r er =>
    rintro e wz ⟨iz, rfl, hiz, hrz, hCz⟩
    subst HX1
    exact ⟨rfl, iz, rfl, hiz, hrz, hC1.trans hCz⟩
  | ok kk1 r1 =>
    simp only [ok_bind] at HX1
    rintro e w2 ⟨v1, i2, rfl, hi2, rfl, hP2, ⟨s2, rfl, hs2⟩, hc2⟩
    have HR := hid HX1
    clear HX1
    have hC2 := hC1.trans hc2
    have hBR2 := hBR1.ch hc2 (fun hx => hneR hx.1)
    clear hC1 hP1 hBR1
    clear hc2
    go_wp2_with fail
    refine (psign_any _ [59] rfl _ _ (by simp)).mono ?_
    rintro e w3 ⟨fk3, cap3, rfl, hF3, hb3⟩
    have hba := below_alloc w2 (.cells #[.string s2, .int .i64 (V : Int)] 70)
    have hbn := (Bx.new w2 [.string s2, .int .i64 (V : Int)] 70).below hb3
    replace hb3 := below_next hba hb3
    have hneF : w2.heap.size ≠ n := by have := hP2.facts.2.2.2; omega
    have hnqRF : bR ≠ w2.heap.size := by have := hBR2.lt; omega
    have hgeF : w.heap.size ≤ w2.heap.size := hC2.size
    obtain ⟨bF, hbeF⟩ : ∃ g, g = w2.heap.size := ⟨_, rfl⟩
    rw [← hbeF] at hbn hneF hgeF hnqRF ⊢
    have hC3 := hC2.bel hb3
    have hP3 := hP2.below hb3
    have hBR3 := hBR2.below hb3
    have hBF3 := hbn
    clear hbn hba hbeF
    clear hC2 hP2 hBR2
    clear hb3
    have htk3 := ptake_any n sv l rest w3 i2 hP3 (HS.out.pos hC3 HN.out) hl hbig hi2 _ _ hF3
    go_wp2_with fail
    have HX3 := HR.out
    clear HR
    refine htk3.mono ?_
    clear htk3
    generalize Pl.takeP (Pl.isT [59]) ((l.drop i2).map kt3) = R3 at *
    cases R3 with
    | bad r er =>
      rintro e wz ⟨iz, rfl, hiz, hrz, hCz⟩
      subst HX3
      exact ⟨rfl, iz, rfl, hiz, hrz, hC3.trans hCz⟩
    | ok kk3 r3 =>
      simp only [ok_bind] at HX3
      rintro e w4 ⟨v3, i4, rfl, hi4, rfl, hP4, ⟨t3, -, -, rfl⟩, hc4⟩
      have HR := hid HX3
      clear HX3
      have hC4 := hC3.trans hc4
      have hBR4 := hBR3.ch hc4 (fun hx => hneR hx.1)
      have hBF4 := hBF3.ch hc4 (fun hx => hneF hx.1)
      clear hC3 hP3 hBR3 hBF3
      clear hc4
      unfold tokV
      have x0 := hBF4.cell 0 rfl
      have x1 := hBF4.cell 1 rfl
      have d0 := hBR4.cell 0 rfl
      have d1 := hBR4.cell 1 rfl
      have hfb := hBR4.frozen
      go_wp2
      have hB7 := (hBR4.set 0 (.string s2)).set 1 (.int .i64 (V : Int))
      refine bodyPost_ret (ret_case56 rfl (hB7.cell 0 rfl) (hB7.cell 1 rfl)) rfl ?_
      rw [← HR.out]
      exact ⟨_, i4, rfl, hi4, rfl, (hP4.other (Ne.symm hneR) _).other (Ne.symm hneR) _, ⟨s2, rfl, hs2⟩, (hC4.new hgeR _).new hgeR _⟩

set_option maxHeartbeats 16000000 in
set_option maxRecDepth 4000 in
theorem pfield_any (n : Nat) (sv : Value) (l : List T3) (rest : List Value) (hl : 0 < l.length) (hbig : l.length ≤ 1000000) (hG : GoodT l) (w : World) (i : Nat) (h : Pos n sv rest w i) (hS : TSeg w sv (l.map toZ)) (hi : i ≤ l.length) (hsn : ∀ g, sv.ownBlock = some g → g ≠ n) (t : T3) (ht : t ∈ l) (hk : t.1 = 2) :
    Calls Try.prog 54 #[.pointer (some ⟨n, 0, none⟩), tokV t] w (Runs l n sv rest w (Pl.fieldP (kt3 t) ((l.drop i).map kt3)) (FldV w.heap.size)) := by
  have hct := fun w => count_any t (hG t ht) hk w
  obtain ⟨k, x, ln⟩ := t
  have hkx : (kt3 (k, x, ln)).2 = bl x := rfl
  unfold Pl.fieldP
  rw [hkx]
  unfold tokV at hct ⊢
  simp only at hct ⊢
  generalize Pl.valN (bl x) = V at *
  generalize hRES : ((Pl.takeP Pl.nameT ((l.drop i).map kt3)).bind fun n r => (Pl.takeP (Pl.isT [58]) r).bind fun _ r => (Pl.typeP 8 r).bind fun t r => (Pl.takeP (Pl.isT [59]) r).bind fun _ r => Pl.Res.ok (⟨V, n.2, t⟩ : Pl.Fld) r) = RES
  have HR := hid hRES
  have HN := hid hsn
  have HG := hid hG
  have HS := hid hS
  have hlt : n < w.heap.size := h.facts.2.2.2
  clear hRES hkx hsn ht hk
  go_enter Try.func54, Try.ntmps54
  go_wp2_with fail
  refine (hct _).mono ?_
  rintro e w1 ⟨rfl, hb1⟩
  have hba := below_next (below_alloc w (.cells #[.int .i64 (k : Int), .string x, .int .i64 (ln : Int)] 36)) (below_alloc (w.alloc (.cells #[.int .i64 (k : Int), .string x, .int .i64 (ln : Int)] 36)) (.cells #[.string ⟨#[]⟩, .int .i64 0, .int .i64 0, .string ⟨#[]⟩, .slice none 0 0] 48))
  have hBR1 := (Bx.newAt (w := w.alloc (.cells #[.int .i64 (k : Int), .string x, .int .i64 (ln : Int)] 36)) (g := w.heap.size + 1) (by simp) [.string ⟨#[]⟩, .int .i64 0, .int .i64 0, .string ⟨#[]⟩, .slice none 0 0] 48).below hb1
  replace hb1 := below_next hba hb1
  have hneR : w.heap.size + 1 ≠ n := by omega
  have hgeR : w.heap.size ≤ w.heap.size + 1 := by omega
  obtain ⟨bR, hbeR⟩ : ∃ g, g = w.heap.size + 1 := ⟨_, rfl⟩
  rw [← hbeR] at hBR1 hneR hgeR ⊢
  have hC1 : Ch (Xp n) w w1 := Ch.below hb1
  have hP1 := h.below hb1
  clear hbeR hba hb1 hct hS h hG
  have htk1 := ptakeName_any n sv l rest w1 i hP1 (HS.out.pos hC1 HN.out) hl hbig hi HG.out
  go_wp2_with fail
  have HX1 := HR.out
  clear HR
  refine htk1.mono ?_
  clear htk1
  generalize Pl.takeP Pl.nameT ((l.drop i).map kt3) = R1 at *
  cases R1 with
  | bad r er =>
    rintro e wz ⟨iz, rfl, hiz, hrz, hCz⟩
    subst HX1
    exact ⟨rfl, iz, rfl, hiz, hrz, hC1.trans hCz⟩
  | ok kk1 r1 =>
    simp only [ok_bind] at HX1
    rintro e w2 ⟨v1, i2, rfl, hi2, rfl, hP2, ⟨s2, rfl, hs2⟩, hc2⟩
    have HR := hid HX1
    clear HX1
    have hC2 := hC1.trans hc2
    have hBR2 := hBR1.ch hc2 (fun hx => hneR hx.1)
    clear hC1 hP1 hBR1
    clear hc2
    go_wp2_with fail
    refine (psign_any _ [58] rfl _ _ (by simp)).mono ?_
    rintro e w3 ⟨fk3, cap3, rfl, hF3, hb3⟩
    have hba := below_alloc w2 (.cells #[.string s2, .int .i64 (V : Int), .int .i64 0, .string ⟨#[]⟩, .slice none 0 0] 48)
    have hbn := (Bx.new w2 [.string s2, .int .i64 (V : Int), .int .i64 0, .string ⟨#[]⟩, .slice none 0 0] 48).below hb3
    replace hb3 := below_next hba hb3
    have hneF : w2.heap.size ≠ n := by have := hP2.facts.2.2.2; omega
    have hnqRF : bR ≠ w2.heap.size := by have := hBR2.lt; omega
    have hgeF : w.heap.size ≤ w2.heap.size := hC2.size
    obtain ⟨bF, hbeF⟩ : ∃ g, g = w2.heap.size := ⟨_, rfl⟩
    rw [← hbeF] at hbn hneF hgeF hnqRF ⊢
    have hC3 := hC2.bel hb3
    have hP3 := hP2.below hb3
    have hBR3 := hBR2.below hb3
    have hBF3 := hbn
    clear hbn hba hbeF
    clear hC2 hP2 hBR2
    clear hb3
    have htk3 := ptake_any n sv l rest w3 i2 hP3 (HS.out.pos hC3 HN.out) hl hbig hi2 _ _ hF3
    go_wp2_with fail
    have HX3 := HR.out
    clear HR
    refine htk3.mono ?_
    clear htk3
    generalize Pl.takeP (Pl.isT [58]) ((l.drop i2).map kt3) = R3 at *
    cases R3 with
    | bad r er =>
      rintro e wz ⟨iz, rfl, hiz, hrz, hCz⟩
      subst HX3
      exact ⟨rfl, iz, rfl, hiz, hrz, hC3.trans hCz⟩
    | ok kk3 r3 =>
      simp only [ok_bind] at HX3
      rintro e w4 ⟨v3, i4, rfl, hi4, rfl, hP4, ⟨t3, -, -, rfl⟩, hc4⟩
      have HR := hid HX3
      clear HX3
      have hC4 := hC3.trans hc4
      have hBR4 := hBR3.ch hc4 (fun hx => hneR hx.1)
      have hBF4 := hBF3.ch hc4 (fun hx => hneF hx.1)
      clear hC3 hP3 hBR3 hBF3
      clear hc4
      unfold tokV
      have hlF := hBF4.lt
      have hlR := hBR4.lt
      have hwC := hC4.size
      have htk4 := ptype_one n sv l rest hl hbig HG.out w4 i4 hP4 (HS.out.pos hC4 HN.out) hi4 HN.out
      go_wp2_with fail
      have HX4 := HR.out
      clear HR
      refine htk4.mono ?_
      clear htk4
      generalize Pl.typeP 8 ((l.drop i4).map kt3) = R4 at *
      cases R4 with
      | bad r er =>
        rintro e wz ⟨iz, rfl, hiz, hrz, hCz⟩
        subst HX4
        exact ⟨rfl, iz, rfl, hiz, hrz, hC4.trans hCz⟩
      | ok kk4 r4 =>
        simp only [ok_bind] at HX4
        rintro e w5 ⟨v4, i5, rfl, hi5, rfl, hP5, ⟨a5, b5, c5, rfl, hTt5⟩, hc5⟩
        have HR := hid HX4
        clear HX4
        have hC5 := hC4.trans hc5
        have hBR5 := hBR4.ch hc5 (fun hx => hneR hx.1)
        have hBF5 := hBF4.ch hc5 (fun hx => hneF hx.1)
        clear hC4 hP4 hBR4 hBF4
        clear hc5
        obtain ⟨ka, sa, ada, ma, cpa, rfl, rfl, rfl⟩ := hTt5.shape
        have f0 := hBF5.cell 2 rfl
        have f1 := hBF5.cell 3 rfl
        have f2 := hBF5.cell 4 rfl
        have hff := hBF5.frozen
        go_wp2_with fail
        have hC6 := ((hC5.new (k := 2) hgeF (.int .i64 ka)).new (k := 3) hgeF (.string sa)).new (k := 4) hgeF (.slice ada ma cpa)
        have hP6 := ((hP5.other (k := 2) (Ne.symm hneF) (.int .i64 ka)).other (k := 3) (Ne.symm hneF) (.string sa)).other (k := 4) (Ne.symm hneF) (.slice ada ma cpa)
        have hBF6 := ((hBF5.set 2 (.int .i64 ka)).set 3 (.string sa)).set 4 (.slice ada ma cpa)
        have hBR6 := ((hBR5.other (k := 2) hnqRF (.int .i64 ka)).other (k := 3) hnqRF (.string sa)).other (k := 4) hnqRF (.slice ada ma cpa)
        have hTt6 := ((hTt5.set (k := 2) hlF (.int .i64 ka)).set (k := 3) hlF (.string sa)).set (k := 4) hlF (.slice ada ma cpa)
        have hsz : (((w5.setCell ⟨bF, 2, none⟩ (.int .i64 ka)).setCell ⟨bF, 3, none⟩ (.string sa)).setCell ⟨bF, 4, none⟩ (.slice ada ma cpa)).heap.size = w5.heap.size := by simp
        rw [← hsz]
        clear f0 f1 f2 hff hsz
        clear hC5 hP5 hBR5 hBF5 hTt5
        generalize ((w5.setCell ⟨bF, 2, none⟩ (.int .i64 ka)).setCell ⟨bF, 3, none⟩ (.string sa)).setCell ⟨bF, 4, none⟩ (.slice ada ma cpa) = w6 at *
        simp only [List.set_cons_zero, List.set_cons_succ] at hBF6
        refine (psign_any _ [59] rfl _ _ (by simp)).mono ?_
        rintro e w7 ⟨fk7, cap7, rfl, hF7, hb7⟩
        have hC7 := hC6.bel hb7
        have hP7 := hP6.below hb7
        have hBR7 := hBR6.below hb7
        have hBF7 := hBF6.below hb7
        have hTt7 := TyC.ch (X := Xp n) (Ch.below hb7) Xp.ty _ _ _ _ hTt6
        clear hC6 hP6 hBR6 hBF6 hTt6
        clear hb7
        have htk7 := ptake_any n sv l rest w7 i5 hP7 (HS.out.pos hC7 HN.out) hl hbig hi5 _ _ hF7
        go_wp2_with fail
        have HX7 := HR.out
        clear HR
        refine htk7.mono ?_
        clear htk7
        generalize Pl.takeP (Pl.isT [59]) ((l.drop i5).map kt3) = R7 at *
        cases R7 with
        | bad r er =>
          rintro e wz ⟨iz, rfl, hiz, hrz, hCz⟩
          subst HX7
          exact ⟨rfl, iz, rfl, hiz, hrz, hC7.trans hCz⟩
        | ok kk7 r7 =>
          simp only [ok_bind] at HX7
          rintro e w8 ⟨v7, i8, rfl, hi8, rfl, hP8, ⟨t7, -, -, rfl⟩, hc8⟩
          have HR := hid HX7
          clear HX7
          have hC8 := hC7.trans hc8
          have hBR8 := hBR7.ch hc8 (fun hx => hneR hx.1)
          have hBF8 := hBF7.ch hc8 (fun hx => hneF hx.1)
          have hTt8 := TyC.ch hc8 Xp.ty _ _ _ _ hTt7
          clear hC7 hP7 hBR7 hBF7 hTt7
          clear hc8
          unfold tokV
          have x0 := hBF8.cell 0 rfl
          have x1 := hBF8.cell 1 rfl
          have x2 := hBF8.cell 2 rfl
          have x3 := hBF8.cell 3 rfl
          have x4 := hBF8.cell 4 rfl
          have d0 := hBR8.cell 0 rfl
          have d1 := hBR8.cell 1 rfl
          have d2 := hBR8.cell 2 rfl
          have d3 := hBR8.cell 3 rfl
          have d4 := hBR8.cell 4 rfl
          have hfb := hBR8.frozen
          go_wp2
          have hB7 := (((((hBR8.set 0 (.string s2)).set 1 (.int .i64 (V : Int))).set 2 (.int .i64 ka)).set 3 (.string sa)).set 4 (.slice ada ma cpa))
          refine bodyPost_ret (ret_field54 rfl (hB7.cell 0 rfl) (hB7.cell 1 rfl) (hB7.cell 2 rfl) (hB7.cell 3 rfl) (hB7.cell 4 rfl)) rfl ?_
          rw [← HR.out]
          exact ⟨_, i8, rfl, hi8, rfl, (((((hP8.other (Ne.symm hneR) _).other (Ne.symm hneR) _).other (Ne.symm hneR) _).other (Ne.symm hneR) _).other (Ne.symm hneR) _), ⟨s2, _, _, _, rfl, hs2, TyC.mono hwC _ _ _ _ (((((hTt8.set (k := 0) hlR (.string s2)).set (k := 1) hlR (.int .i64 (V : Int))).set (k := 2) hlR (.int .i64 ka)).set (k := 3) hlR (.string sa)).set (k := 4) hlR (.slice ada ma cpa))⟩, (((((hC8.new hgeR _).new hgeR _).new hgeR _).new hgeR _).new hgeR _)⟩
end Go.Proofs.Ythdooemgnpiomaa
