/- message: takeMessage, walked. -/
import Derived.Test.YtoadcaennlfadaaMM9
namespace Go.Proofs.Ytoadcaennlfadaa
open Go.RowKit
set_option maxRecDepth 20000

def zmg : Mg := ⟨0, 0, 0, 0, 0, 0, 0, 0, 0, 0, 0⟩
theorem mg_nums (k : Int) {ns : List Int} (h : ns.length = 10) : (mgOf k ns).nums = ns := by
  match ns, h with
  | [a, b, c, d, e, f, g, i, j, m], _ => rfl

/-- A message stored into a box. -/
def putMsg (w : World) (b : Nat) (x : Mg) (v : Value) : World :=
  (((((((((((w.setCell ⟨b, 0, none⟩ (.int .i64 x.k)).setCell ⟨b, 1, none⟩ (.int .i64 x.c)).setCell ⟨b, 2, none⟩ (.int .i64 x.b)).setCell ⟨b, 3, none⟩ (.int .i64 x.i)).setCell ⟨b, 4, none⟩ (.int .i64 x.s)).setCell ⟨b, 5, none⟩ (.int .i64 x.q)).setCell ⟨b, 6, none⟩ (.int .i64 x.m)).setCell ⟨b, 7, none⟩ (.int .i64 x.n)).setCell ⟨b, 8, none⟩ (.int .i64 x.l)).setCell ⟨b, 9, none⟩ (.int .i64 x.o)).setCell ⟨b, 10, none⟩ (.int .i64 x.p)).setCell ⟨b, 11, none⟩ v
theorem putMsg_box {w : World} {b : Nat} {x y : Mg} {v u : Value} (h : MBx w b y u) : MBx (putMsg w b x v) b x v := by
  have := (((((((((((h.set 0 (.int .i64 x.k)).set 1 (.int .i64 x.c)).set 2 (.int .i64 x.b)).set 3 (.int .i64 x.i)).set 4 (.int .i64 x.s)).set 5 (.int .i64 x.q)).set 6 (.int .i64 x.m)).set 7 (.int .i64 x.n)).set 8 (.int .i64 x.l)).set 9 (.int .i64 x.o)).set 10 (.int .i64 x.p)).set 11 v
  exact this
theorem putMsg_ch {w : World} {b : Nat} {x y : Mg} {v u : Value} (h : MBx w b y u) : Ch (Xn b) w (putMsg w b x v) := by
  have c0 := Ch.set (X := Xn b) (k := 0) h rfl (.int .i64 x.k)
  have h0 := Bx.set h 0 (.int .i64 x.k)
  have c1 := Ch.set (X := Xn b) (k := 1) h0 rfl (.int .i64 x.c)
  have h1 := h0.set 1 (.int .i64 x.c)
  have c2 := Ch.set (X := Xn b) (k := 2) h1 rfl (.int .i64 x.b)
  have h2 := h1.set 2 (.int .i64 x.b)
  have c3 := Ch.set (X := Xn b) (k := 3) h2 rfl (.int .i64 x.i)
  have h3 := h2.set 3 (.int .i64 x.i)
  have c4 := Ch.set (X := Xn b) (k := 4) h3 rfl (.int .i64 x.s)
  have h4 := h3.set 4 (.int .i64 x.s)
  have c5 := Ch.set (X := Xn b) (k := 5) h4 rfl (.int .i64 x.q)
  have h5 := h4.set 5 (.int .i64 x.q)
  have c6 := Ch.set (X := Xn b) (k := 6) h5 rfl (.int .i64 x.m)
  have h6 := h5.set 6 (.int .i64 x.m)
  have c7 := Ch.set (X := Xn b) (k := 7) h6 rfl (.int .i64 x.n)
  have h7 := h6.set 7 (.int .i64 x.n)
  have c8 := Ch.set (X := Xn b) (k := 8) h7 rfl (.int .i64 x.l)
  have h8 := h7.set 8 (.int .i64 x.l)
  have c9 := Ch.set (X := Xn b) (k := 9) h8 rfl (.int .i64 x.o)
  have h9 := h8.set 9 (.int .i64 x.o)
  have c10 := Ch.set (X := Xn b) (k := 10) h9 rfl (.int .i64 x.p)
  have h10 := h9.set 10 (.int .i64 x.p)
  have c11 := Ch.set (X := Xn b) (k := 11) h10 rfl v
  have h11 := h10.set 11 v
  exact (((((((((((c0.trans c1).trans c2).trans c3).trans c4).trans c5).trans c6).trans c7).trans c8).trans c9).trans c10).trans c11)

set_option maxHeartbeats 8000000 in
theorem takeMessage_any (n : Nat) (bv : Value) (l : List Int) (w : World) (h : Rdg w n bv l 0) (ho : ∀ z ∈ l, 0 ≤ z ∧ z ≤ 255) (hlen : l.length ≤ 140737488355328) :
    Calls Try.prog 35 #[.pointer (some ⟨n, 0, none⟩)] w fun e w' => Ch (Xn n) w w' ∧ ((tkm l).2 ≠ 0 ∧ e = .panicked (errp (tkm l).2) ∨ (tkm l).2 = 0 ∧ ∃ tv, e = .returned ((mgOf (tkm l).1.1 (tkm l).1.2.1).val tv) ∧ Rdg w' n bv l (tkm l).1.2.2.2 ∧ w'.ownsRow w.heap.size 5 1 tv (tkm l).1.2.2.1.length (u8s (tkm l).1.2.2.1)) := by
  obtain ⟨kd, q0, er0, hg⟩ : ∃ kd q0 er0, Pl.getI l 0 = (kd, q0, er0) := ⟨_, _, _, rfl⟩
  have HT0 : Hid (tkm l = if er0 = 0 then (if 1 ≤ kd ∧ kd ≤ 8 then ((kd, (decFs l (usedP kd) q0 zeros []).1, (decFs l (usedP kd) q0 zeros []).2.1, (decFs l (usedP kd) q0 zeros []).2.2.1), (decFs l (usedP kd) q0 zeros []).2.2.2) else ((0, [], [], 0), 23)) else ((0, [], [], 0), er0)) := by
    show tkm l = _
    unfold tkm
    rw [hg]
  generalize tkm l = TK at *
  have hal : Below w.heap.size w (w.alloc (.cells ⟨zmg.cells (.slice none 0 0)⟩ 24)) := (Below.refl _ w).alloc (Nat.le_refl _) _
  have RB0 : MBx (w.alloc (.cells ⟨zmg.cells (.slice none 0 0)⟩ 24)) w.heap.size zmg (.slice none 0 0) := Bx.new _ _ _
  have hta := takeNumber_any n bv l 0 kd q0 er0 _ (h.below hal) ho (by omega) (by omega) hg
  have hnw := h.box.lt
  have HRD := hid h
  have HG := hid hg
  clear h hg
  simp only [Mg.cells, zmg] at hta
  by_cases h0 : er0 = 0
  · subst h0
    obtain ⟨_, k0, k1, q1, q2, _⟩ := Pl.getI_ok l 0 kd q0 ho HG.out
    by_cases hk : 1 ≤ kd ∧ kd ≤ 8
    · have HT : Hid (TK = ((kd, (decFs l (usedP kd) q0 zeros []).1, (decFs l (usedP kd) q0 zeros []).2.1, (decFs l (usedP kd) q0 zeros []).2.2.1), (decFs l (usedP kd) q0 zeros []).2.2.2)) := by
        show TK = _
        rw [HT0.out, if_pos rfl, if_pos hk]
      clear HT0
      obtain ⟨hk1, hk8⟩ := hk
      have hnt := mneed_true 23
      go_enter Try.func35, Try.ntmps35
      go_wp2_with fail
      refine hta.mono ?_
      rintro e w2 ⟨hc2, ⟨hx, _⟩ | ⟨_, rfl, R2⟩⟩
      · exact absurd rfl hx
      clear hta
      have RB2 : MBx w2 w.heap.size zmg (.slice none 0 0) := Bx.ch RB0 hc2 (fun e => by simp [Xn] at e; omega)
      have HC2 := hid (show Ch (Xw w n) w w2 from (Ch.below hal).trans (hc2.mono Xw.n))
      have hlt2 := RB2.lt
      go_wp2_with fail
      refine (hnt _).mono ?_
      rintro e w2' ⟨rfl, h22⟩
      subst w2'
      clear hal RB0 hc2
      have hal3 : Below w2.heap.size w2 (w2.alloc (.cells ⟨zeros.map (Value.int .i64)⟩ 83)) := (Below.refl _ w2).alloc (Nat.le_refl _) _
      have NB3 := Bx.new w2 (zeros.map (Value.int .i64)) 83
      have R3 := R2.below hal3
      have RB3 := RB2.below hal3
      have HC3 := hid (HC2.out.trans (Ch.below hal3))
      have hu := usedBy_own kd (w2.alloc (.cells ⟨zeros.map (Value.int .i64)⟩ 83))
      have hwk : IntKind.i64.wrap kd = kd := by simp [IntKind.wrap, IntKind.signed, IntKind.bits]; omega
      go_wp2_with fail
      refine hu.mono ?_
      rintro e w4 ⟨u, rfl, su, b4, hou⟩
      have R4 := R3.below b4
      have RB4 := RB3.below b4
      have NB4 := NB3.below b4
      have HC4 := hid (HC3.out.trans (Ch.below b4))
      have hsz4 : w2.heap.size + 1 ≤ w4.heap.size := by have := b4.size; simpa using this
      have hlb : w.heap.size < w2.heap.size := hlt2
      have hown0 : w4.ownsRow w4.heap.size 5 1 (.slice none 0 0) ([] : List Int).length (u8s []) := World.ownsRow_nil _ _ _ _
      have TK0 : Hid (Tk w4 w4 n w2.heap.size bv l q0 zeros [] (.slice none 0 0)) := ⟨Ch.refl _ _, R4, NB4, rfl, hown0, by omega, by omega⟩
      have hbv : Hid (0 < l.length → ∀ b, bv.ownBlock = some b → b < w.heap.size) := fun h => HRD.out.seg.lt h
      have hub : Hid (∀ b (T : TypeId), u.ownBlock = some b → ¬ Xr n w2.heap.size b T) := fun b T hb hX => by
        have := hou b hb
        simp at this
        rcases hX with hX | hX <;> omega
      clear hu hou b4 R3 RB3 NB3 HC3 hal3 R2 RB2 HC2 R4 NB4 hown0 hlt2 HG
      generalize w2.heap.size = nb at *
      have SU := hid su
      obtain ⟨ua, ucap, rfl, u1, u2, p3, p4⟩ := id su
      unfold maxLen at u2
      obtain ⟨UL, hUL⟩ : ∃ UL, UL = (usedP kd).length := ⟨_, rfl⟩
      have HUL := hid hUL
      rw [← hUL] at u1 ⊢
      clear hUL su p3 p4
      go_wp2_with fail
      go_loopw [5, 22] (fun a i wr => ∃ (k : Nat) (p : Int) (ns t : List Int), k ≤ UL ∧ i = .int .i64 k ∧ Hid (Tk w4 wr n nb bv l p ns t a) ∧ Hid (decFs l ((usedP kd).drop k) p ns t = decFs l (usedP kd) q0 zeros [])) (fun _ i _ => UL - (intOf i).toNat)
      case atStart => exact ⟨0, q0, zeros, [], Nat.zero_le _, rfl, TK0, by simp [Hid]⟩
      case round =>
        obtain ⟨k, p, ns, t, hk, rfl, hTK, hDE⟩ := hrel
        clear TK0
        by_cases hlt : k < UL
        · have sur := SU.out.ch hTK.out.ch hub.out
          obtain ⟨ua', ucap', hv, _, _, p3, p4⟩ := sur
          simp only [Value.slice.injEq] at hv
          obtain ⟨rfl, _, rfl⟩ := hv
          obtain ⟨g, off, rfl, hg, hcell⟩ := seg_at (l := usedP kd) (by have := HUL.out; omega) p3 p4
          have Q := hcell k (by have := HUL.out; omega)
          have hm := used_mem kd _ (getD_mem (l := usedP kd) (i := k) (by have := HUL.out; omega))
          have HDC := hid (drop_cons (l := usedP kd) (k := k) (by have := HUL.out; omega))
          clear p3 p4 hcell SU
          generalize hF : (usedP kd).getD k 0 = f at *
          clear hF
          have hR := hTK.out.rdg
          have hp0 := hTK.out.p0
          have hp1 := hTK.out.p1
          have hcw : Hid (Ch (Xn n) w wr) := (HC4.out.trans (hTK.out.ch.mono (Xw.r (by omega)))).shrink
          by_cases h10 : f = 10
          · subst h10
            obtain ⟨t2, q, er, htx⟩ : ∃ t2 q er, Pl.textI l p 1024 = (t2, q, er) := ⟨_, _, _, rfl⟩
            have htl : t2.length ≤ 1024 := by have := textI_len l p; rw [htx] at this; exact this
            have hte := takeText_any n bv l t2 p q er wr hR ho hlen hp0 hp1 htx htl
            by_cases he : er = 0
            · subst he
              obtain ⟨x1, x2, _, _, _, _⟩ := textI_ok ho htx
              have HD2 : Hid (decFs l ((usedP kd).drop (k + 1)) q ns t2 = decFs l (usedP kd) q0 zeros []) := by
                show _ = _
                rw [← hDE.out, HDC.out, decFs_text htx]
              clear hDE HDC
              go_wp2_with fail
              refine hte.mono ?_
              rintro e w5 ⟨hc5, ⟨hx, _⟩ | ⟨_, tv, rfl, R5, O5⟩⟩
              · exact absurd rfl hx
              have hT5 : Hid (Tk w4 w5 n nb bv l q ns t2 tv) := hTK.out.text (by omega) hc5 R5 O5 (by omega) x2
              obtain ⟨a5, c5, rfl⟩ := own_shape8 O5
              clear hte O5 R5 hTK hR hc5 hcw
              go_wp2
              go_roundw
              case rel => exact ⟨k + 1, q, ns, t2, by omega, by go_num, hT5, HD2⟩
              case measure => simp [intOf]; omega
            · have HE : Hid (TK.2 = er) := by
                show TK.2 = er
                rw [HT.out, ← hDE.out, HDC.out, decFs_textE htx he]
              clear hDE HDC
              go_wp2_with fail
              refine hte.mono ?_
              rintro e w5 ⟨hc5, ⟨_, rfl⟩ | ⟨hx, _⟩⟩
              · exact ⟨rfl, hcw.out.trans hc5, .inl (by rw [HE.out]; exact ⟨he, rfl⟩)⟩
              · exact absurd hx he
          · obtain ⟨j, rfl⟩ : ∃ j : Nat, f = (j : Int) := ⟨f.toNat, by omega⟩
            have hj : j < 10 := by omega
            have hbe : ((j : Int) == 10) = false := by simp; omega
            obtain ⟨m, q, er, hgx⟩ : ∃ m q er, Pl.getI l p = (m, q, er) := ⟨_, _, _, rfl⟩
            have hte := takeNumber_any n bv l p m q er wr hR ho hp0 hp1 hgx
            by_cases he : er = 0
            · subst he
              obtain ⟨_, m0, m1, x1, x2, _⟩ := Pl.getI_ok l p m q ho hgx
              by_cases hmx : m ≤ 2147483647
              · have HD2 : Hid (decFs l ((usedP kd).drop (k + 1)) q (ns.set j m) t = decFs l (usedP kd) q0 zeros []) := by
                  show _ = _
                  rw [← hDE.out, HDC.out, decFs_num h10 hgx hmx]
                have hn4 := mneed_true 4
                have hwm : IntKind.i64.wrap m = m := by simp [IntKind.wrap, IntKind.signed, IntKind.bits]; omega
                clear hDE HDC
                go_wp2_with fail
                refine hte.mono ?_
                rintro e w5 ⟨hc5, ⟨hx, _⟩ | ⟨_, rfl, R5⟩⟩
                · exact absurd rfl hx
                clear hte
                go_wp2_with fail
                refine (hn4 _).mono ?_
                rintro e w6 ⟨rfl, h66⟩
                subst w6
                have NB5 := hTK.out.box.ch hc5 (fun e => by simp [Xn] at e; omega)
                have hfz := NB5.frozen
                have hltn := NB5.lt
                have hcj := NB5.cell j (u := .int .i64 (ns.getD j 0)) (by have hl := hTK.out.len; rw [List.getElem?_map, List.getElem?_eq_getElem (by omega)]; simp [List.getD, hl, hj])
                have hT5 : Hid (Tk w4 (w5.setCell ⟨nb, j, none⟩ (.int .i64 m)) n nb bv l q (ns.set j m) t u5) := hTK.out.number (by omega) (by omega) (by omega) hc5 R5 (by omega) x2 j (fun hl hb => by have := hbv.out hl _ hb; omega)
                clear hR R5 hTK hc5 hcw
                go_wp2
                exact ⟨⟨k + 1, q, ns.set j m, t, by omega, by go_num, hT5, HD2⟩, by simp [intOf]; omega⟩
              · have HE : Hid (TK.2 = 4) := by
                  show TK.2 = 4
                  rw [HT.out, ← hDE.out, HDC.out, decFs_numB h10 hgx hmx]
                have hn4 := mneed_false 4
                have hdm : decide (m ≤ 2147483647) = false := by simp; omega
                clear hDE HDC
                go_wp2_with fail
                refine hte.mono ?_
                rintro e w5 ⟨hc5, ⟨hx, _⟩ | ⟨_, rfl, R5⟩⟩
                · exact absurd rfl hx
                clear hte
                go_wp2_with fail
                refine (hn4 _).mono ?_
                rintro e w6 ⟨rfl, h66⟩
                subst w6
                exact ⟨rfl, hcw.out.trans hc5, .inl (by rw [HE.out]; exact ⟨by decide, rfl⟩)⟩
            · have HE : Hid (TK.2 = er) := by
                show TK.2 = er
                rw [HT.out, ← hDE.out, HDC.out, decFs_numE h10 hgx he]
              clear hDE HDC
              go_wp2_with fail
              refine hte.mono ?_
              rintro e w5 ⟨hc5, ⟨_, rfl⟩ | ⟨hx, _⟩⟩
              · exact ⟨rfl, hcw.out.trans hc5, .inl (by rw [HE.out]; exact ⟨he, rfl⟩)⟩
              · exact absurd hx he
        · have hke : (usedP kd).drop k = [] := List.drop_eq_nil_of_le (by have := HUL.out; omega)
          have HTK : Hid (TK = ((kd, ns, t, p), 0)) := by
            show TK = _
            rw [HT.out, ← hDE.out, hke]
            rfl
          clear HT hDE hke
          obtain ⟨a5, c5, rfl⟩ := own_shape8 hTK.out.own
          obtain ⟨y0, y1, y2, y3, y4, y5, y6, y7, y8, y9, rfl⟩ : ∃ y0 y1 y2 y3 y4 y5 y6 y7 y8 y9, ns = [y0, y1, y2, y3, y4, y5, y6, y7, y8, y9] := by
            have := hTK.out.len
            match ns, this with
            | [a, b, c, d, e, f, g, i, j, m], _ => exact ⟨_, _, _, _, _, _, _, _, _, _, rfl⟩
          have NB := hTK.out.box
          have d0 := NB.cell 0 rfl
          have d1 := NB.cell 1 rfl
          have d2 := NB.cell 2 rfl
          have d3 := NB.cell 3 rfl
          have d4 := NB.cell 4 rfl
          have d5 := NB.cell 5 rfl
          have d6 := NB.cell 6 rfl
          have d7 := NB.cell 7 rfl
          have d8 := NB.cell 8 rfl
          have d9 := NB.cell 9 rfl
          have hms := message_any ⟨kd, y0, y1, y2, y3, y4, y5, y6, y7, y8, y9⟩ a5 t.length c5 wr
          go_wp2_with fail
          refine hms.mono ?_
          rintro e w6 ⟨rfl, b6⟩
          clear hms d0 d1 d2 d3 d4 d5 d6 d7 d8 d9 NB
          have RB5 : MBx wr w.heap.size zmg (.slice none 0 0) := Bx.ch RB4 hTK.out.ch (fun e => by rcases e with e | e <;> omega)
          have RB6 := RB5.below b6
          obtain ⟨r0, r1, r2, r3, r4, r5, r6, r7, r8, r9, r10, r11⟩ := RB6.facts
          have rf := Bx.frozen RB6
          have rl := RB6.lt
          unfold Mg.val
          go_wp2_with fail
          have hpc := putMsg_ch (x := ⟨kd, y0, y1, y2, y3, y4, y5, y6, y7, y8, y9⟩) (v := .slice a5 t.length c5) RB6
          have hfin : Ch (Xn n) w (putMsg w6 w.heap.size ⟨kd, y0, y1, y2, y3, y4, y5, y6, y7, y8, y9⟩ (.slice a5 t.length c5)) :=
            (((HC4.out.trans (hTK.out.ch.mono (Xw.r (by omega)))).trans (Ch.below b6)).trans (hpc.mono (fun g T e => .inr (by simp [Xn] at e; omega)))).shrink
          have R6 := hTK.out.rdg.below b6
          have R7 : Rdg (putMsg w6 w.heap.size ⟨kd, y0, y1, y2, y3, y4, y5, y6, y7, y8, y9⟩ (.slice a5 t.length c5)) n bv l p := ⟨R6.box.ch hpc (fun e => by simp [Xn] at e; omega), R6.seg.other hpc (fun hl hb => by have := hbv.out hl _ hb; omega), R6.apart⟩
          have O6 := ownsRow_below hTK.out.own b6
          have O7 := O6.kept hpc.grownBy (.inr fun he => by have := (O6.lt _ he).1; omega)
          have O8 := ownsRow_lower (C := w.heap.size) O7 (by omega)
          have hbx := putMsg_box (x := ⟨kd, y0, y1, y2, y3, y4, y5, y6, y7, y8, y9⟩) (v := .slice a5 t.length c5) RB6
          clear hpc R6 O6 O7 RB6 RB5 r0 r1 r2 r3 r4 r5 r6 r7 r8 r9 r10 r11 rf hTK
          generalize hW : putMsg w6 w.heap.size ⟨kd, y0, y1, y2, y3, y4, y5, y6, y7, y8, y9⟩ (.slice a5 t.length c5) = W at *
          simp only [putMsg] at hW
          rw [hW]
          refine bodyPost_ret (ret_take (b := w.heap.size) (x := ⟨kd, y0, y1, y2, y3, y4, y5, y6, y7, y8, y9⟩) (v := .slice a5 t.length c5) rfl hbx) rfl ?_
          rw [HTK.out]
          exact ⟨hfin, .inr ⟨rfl, _, rfl, R7, O8⟩⟩
    · have HE : Hid (TK.2 = 23) := by
        show TK.2 = 23
        rw [HT0.out, if_pos rfl, if_neg hk]
      have hnf := mneed_false 23
      clear HT0
      by_cases hk1 : 1 ≤ kd
      · have hk8 : ¬ kd ≤ 8 := fun h => hk ⟨hk1, h⟩
        have hdm : decide (kd ≤ 8) = false := by simp; omega
        clear hk
        go_enter Try.func35, Try.ntmps35
        go_wp2_with fail
        refine hta.mono ?_
        rintro e w2 ⟨hc2, ⟨hx, _⟩ | ⟨_, rfl, R2⟩⟩
        · exact absurd rfl hx
        clear hta
        have HC2 := hid ((show Ch (Xw w n) w w2 from (Ch.below hal).trans (hc2.mono Xw.n)).shrink)
        go_wp2_with fail
        refine (hnf _).mono ?_
        rintro e w3 ⟨rfl, h33⟩
        subst w3
        exact ⟨rfl, HC2.out, .inl (by rw [HE.out]; exact ⟨by decide, rfl⟩)⟩
      · have hdm : decide (1 ≤ kd) = false := by simp; omega
        clear hk
        go_enter Try.func35, Try.ntmps35
        go_wp2_with fail
        refine hta.mono ?_
        rintro e w2 ⟨hc2, ⟨hx, _⟩ | ⟨_, rfl, R2⟩⟩
        · exact absurd rfl hx
        clear hta
        have HC2 := hid ((show Ch (Xw w n) w w2 from (Ch.below hal).trans (hc2.mono Xw.n)).shrink)
        go_wp2_with fail
        refine (hnf _).mono ?_
        rintro e w3 ⟨rfl, h33⟩
        subst w3
        exact ⟨rfl, HC2.out, .inl (by rw [HE.out]; exact ⟨by decide, rfl⟩)⟩
  · have HE : Hid (TK.2 = er0) := by
      show TK.2 = er0
      rw [HT0.out, if_neg h0]
    clear HT0
    go_enter Try.func35, Try.ntmps35
    go_wp2_with fail
    refine hta.mono ?_
    rintro e w2 ⟨hc2, ⟨_, rfl⟩ | ⟨hx, _⟩⟩
    · have HC2 := ((show Ch (Xw w n) w w2 from (Ch.below hal).trans (hc2.mono Xw.n)).shrink)
      exact ⟨rfl, HC2, .inl (by rw [HE.out]; exact ⟨h0, rfl⟩)⟩
    · exact absurd hx h0
end Go.Proofs.Ytoadcaennlfadaa
