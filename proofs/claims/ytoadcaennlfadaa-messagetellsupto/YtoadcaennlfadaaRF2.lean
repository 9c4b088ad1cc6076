/- waybillref09: Decode. -/
import Derived.Test.YtoadcaennlfadaaRF1
import Derived.Test.YtoadcaennlfadaaGG
namespace Go.Proofs.Ytoadcaennlfadaa
open Go.RowKit
set_option maxRecDepth 20000

/-- A kind's letters, Backend's ahead. -/
def allL (k : Int) : List Nat := 98 :: formL k
theorem kinds8 {k : Int} (h : 1 ≤ k ∧ k ≤ 8) : k = 1 ∨ k = 2 ∨ k = 3 ∨ k = 4 ∨ k = 5 ∨ k = 6 ∨ k = 7 ∨ k = 8 := by omega
theorem all_len {k : Int} (h : 1 ≤ k ∧ k ≤ 8) : (allL k).length = (usedP k).length ∧ (allL k).length ≤ 8 := by
  rcases kinds8 h with rfl | rfl | rfl | rfl | rfl | rfl | rfl | rfl <;> decide
theorem all_plc {k : Int} (h : 1 ≤ k ∧ k ≤ 8) (i : Nat) (hi : i < (usedP k).length) : (usedP k).getD i 0 = plc ((allL k).getD i 0) ∧ (allL k).getD i 0 < 256 := by
  have hl := all_len h
  have h8 : i = 0 ∨ i = 1 ∨ i = 2 ∨ i = 3 ∨ i = 4 ∨ i = 5 ∨ i = 6 ∨ i = 7 := by omega
  rcases kinds8 h with rfl | rfl | rfl | rfl | rfl | rfl | rfl | rfl <;> rcases h8 with rfl | rfl | rfl | rfl | rfl | rfl | rfl | rfl <;> first | decide | (exfalso; revert hi; decide)
theorem all_let {k : Int} (h : 1 ≤ k ∧ k ≤ 8) (i : Nat) (hi : i < (usedP k).length) : (allL k).getD i 0 = 100 ∨ ((allL k).getD i 0 = 99 ∨ (allL k).getD i 0 = 98 ∨ (allL k).getD i 0 = 105 ∨ (allL k).getD i 0 = 115 ∨ (allL k).getD i 0 = 113 ∨ (allL k).getD i 0 = 109 ∨ (allL k).getD i 0 = 110 ∨ (allL k).getD i 0 = 108 ∨ (allL k).getD i 0 = 111 ∨ (allL k).getD i 0 = 112) := by
  have hl := all_len h
  have h8 : i = 0 ∨ i = 1 ∨ i = 2 ∨ i = 3 ∨ i = 4 ∨ i = 5 ∨ i = 6 ∨ i = 7 := by omega
  rcases kinds8 h with rfl | rfl | rfl | rfl | rfl | rfl | rfl | rfl <;> rcases h8 with rfl | rfl | rfl | rfl | rfl | rfl | rfl | rfl <;> first | decide | (exfalso; revert hi; decide)
theorem ix_all {k : Int} (h : 1 ≤ k ∧ k ≤ 8) (i : Nat) (hi : i < (usedP k).length) (w : World) : (Instr.index 9 (.string (strL (allL k))) (.int .i64 i)).run Try.prog w = .ok (.int .u8 ((allL k).getD i 0 : Nat)) w := by
  have hl := all_len h
  have h8 : i = 0 ∨ i = 1 ∨ i = 2 ∨ i = 3 ∨ i = 4 ∨ i = 5 ∨ i = 6 ∨ i = 7 := by omega
  rcases kinds8 h with rfl | rfl | rfl | rfl | rfl | rfl | rfl | rfl <;> rcases h8 with rfl | rfl | rfl | rfl | rfl | rfl | rfl | rfl <;> first | (exfalso; revert hi; decide) | (clear hi hl h; kernel_rfl) | (clear hi hl h; rfl)
theorem cat_all {k : Int} (h : 1 ≤ k ∧ k ≤ 8) : (⟨#[98]⟩ : ByteArray) ++ strL (formL k) = strL (allL k) ∧ (strL (allL k)).size = (usedP k).length ∧ (strL (formL k)).size ≤ 8 ∧ (strL (formL k)).toList.isEmpty = false := by
  rcases kinds8 h with rfl | rfl | rfl | rfl | rfl | rfl | rfl | rfl <;> exact ⟨by kernel_rfl, by kernel_rfl, by decide, by kernel_rfl⟩


/-- A box that holds a message whose numbers are a list. -/
def MBn (w : World) (b : Nat) (kd : Int) (ns : List Int) (tv : Value) : Prop := Bx w b (.int .i64 kd :: (ns.map (Value.int .i64) ++ [tv])) 24
theorem MBn.set {w : World} {b : Nat} {kd : Int} {ns : List Int} {tv : Value} (h : MBn w b kd ns tv) (j : Nat) (hj : j < ns.length) (m : Int) : MBn (w.setCell ⟨b, j + 1, none⟩ (.int .i64 m)) b kd (ns.set j m) tv := by
  have := Bx.set h (j + 1) (.int .i64 m)
  unfold MBn
  rw [List.set_cons_succ, List.set_append_left _ _ (by rw [List.length_map]; exact hj)] at this
  rw [List.map_set]
  exact this
theorem MBn.text {w : World} {b : Nat} {kd : Int} {ns : List Int} {tv : Value} (h : MBn w b kd ns tv) (hn : ns.length = 10) (tv2 : Value) : MBn (w.setCell ⟨b, 11, none⟩ tv2) b kd ns tv2 := by
  have := Bx.set h 11 tv2
  unfold MBn
  rw [List.set_cons_succ, List.set_append_right _ _ (by rw [List.length_map]; omega), List.length_map, hn] at this
  exact this
theorem MBn.mbx {w : World} {b : Nat} {kd : Int} {ns : List Int} {tv : Value} (h : MBn w b kd ns tv) (hn : ns.length = 10) : MBx w b (mgOf kd ns) tv := by
  match ns, hn with
  | [a0, a1, a2, a3, a4, a5, a6, a7, a8, a9], _ => exact h

structure RTk (w1 wr : World) (mb : Nat) (kd : Int) (l : List Int) (p : Int) (ns t : List Int) (tv : Value) : Prop where
  ch : Ch (Xn mb) w1 wr
  box : MBn wr mb kd ns tv
  len : ns.length = 10
  own : wr.ownsRow w1.heap.size 5 1 tv t.length (u8s t)
  p0 : 0 ≤ p
  p1 : p ≤ l.length
theorem RTk.text {w1 wr w2 : World} {mb : Nat} {kd : Int} {l : List Int} {p q : Int} {ns t t2 : List Int} {tv tv2 : Value} (h : RTk w1 wr mb kd l p ns t tv) (hm : mb < w1.heap.size) (hb : Below wr.heap.size wr w2) (ho : w2.ownsRow wr.heap.size 5 1 tv2 t2.length (u8s t2)) (q0 : 0 ≤ q) (q1 : q ≤ l.length) :
    RTk w1 (w2.setCell ⟨mb, 11, none⟩ tv2) mb kd l q ns t2 tv2 := by
  have hB := Bx.below h.box hb
  refine ⟨(h.ch.trans (Ch.below hb)).trans (Ch.set hB rfl _), MBn.text hB h.len tv2, h.len, ?_, q0, q1⟩
  exact ownsRow_setCell_other (ownsRow_lower ho h.ch.size) (fun he => by have := ((ownsRow_lower ho h.ch.size).lt _ he).1; simp at this; omega) _
theorem RTk.number {w1 wr : World} {mb : Nat} {kd : Int} {l : List Int} {p q m : Int} {ns t : List Int} {tv : Value} (h : RTk w1 wr mb kd l p ns t tv) (hm : mb < w1.heap.size) (j : Nat) (hj : j < 10) (q0 : 0 ≤ q) (q1 : q ≤ l.length) :
    RTk w1 (wr.setCell ⟨mb, j + 1, none⟩ (.int .i64 m)) mb kd l q (ns.set j m) t tv :=
  ⟨h.ch.trans (Ch.set h.box rfl _), MBn.set h.box j (by rw [h.len]; exact hj) m, by rw [List.length_set]; exact h.len, ownsRow_setCell_other h.own (fun he => by have := (h.own.lt _ he).1; simp at this; omega) _, q0, q1⟩

theorem ret_rdec {W : World} {tmps : Array Value} {b : Nat} {x : Mg} {v q : Value} (ht : tmps.getD 2 undef = .pointer (some ⟨b, 0, none⟩)) (hq : tmps.getD 3 undef = q) (hB : MBx W b x v) :
    (results Try.f13 tmps).run Try.prog W = .ok (.tuple #[x.val v, q]) W := by
  rw [Array.getD_eq_getD_getElem?] at ht hq
  obtain ⟨c0, c1, c2, c3, c4, c5, c6, c7, c8, c9, c10, c11⟩ := hB.facts
  simp [results, Try.results13, Mg.val]
  go_simp

theorem plc_lt {c : Nat} (h : c = 99 ∨ c = 98 ∨ c = 105 ∨ c = 115 ∨ c = 113 ∨ c = 109 ∨ c = 110 ∨ c = 108 ∨ c = 111 ∨ c = 112) : 0 ≤ plc c ∧ plc c < 10 := by
  rcases h with rfl | rfl | rfl | rfl | rfl | rfl | rfl | rfl | rfl | rfl <;> decide

set_option maxHeartbeats 8000000 in
theorem rDecode_any (bv : Value) (l : List Int) (w : World) (hs : Seg .u8 w bv l) (ho : ∀ z ∈ l, 0 ≤ z ∧ z ≤ 255) (hlen : l.length ≤ 140737488355328) :
    Calls Try.prog 13 #[bv] w fun e w' => ∃ tv, e = .returned (.tuple #[(dcm l).1.val tv, .int .i64 (dcm l).2.2]) ∧ w'.ownsRow w.heap.size 5 1 tv (dcm l).2.1.length (u8s (dcm l).2.1) ∧ Below w.heap.size w w' := by
  obtain ⟨kd, q0, er0, hg⟩ : ∃ kd q0 er0, Pl.getI l 0 = (kd, q0, er0) := ⟨_, _, _, rfl⟩
  have hal : Below w.heap.size w (w.alloc (.cells ⟨zmg.cells (.slice none 0 0)⟩ 24)) := (Below.refl _ w).alloc (Nat.le_refl _) _
  have RB0 : MBx (w.alloc (.cells ⟨zmg.cells (.slice none 0 0)⟩ 24)) w.heap.size zmg (.slice none 0 0) := Bx.new _ _ _
  have hta := rget_is bv l 0 kd q0 er0 _ (hs.below hal) ho hg (by omega) (by omega)
  obtain ⟨a, cap, rfl, h1, h2, _⟩ := id hs
  unfold maxLen at h2
  simp only [Mg.cells, zmg] at hta
  by_cases h0 : er0 = 0
  · subst h0
    obtain ⟨_, k0, k1, q1, q2, _⟩ := Pl.getI_ok l 0 kd q0 ho hg
    by_cases hk : 1 ≤ kd ∧ kd ≤ 8
    · have hfm := form_any kd
      obtain ⟨f1, f2, f3, f4⟩ := cat_all hk
      have hd8 : decide (8 < kd) = false := by simp; omega
      have hwk : IntKind.i64.wrap kd = kd := by simp [IntKind.wrap, IntKind.signed, IntKind.bits]; omega
      have HX := hid (fun i hi w => ix_all hk i hi w)
      have HPL := hid (fun i hi => all_plc hk i hi)
      have HLT := hid (fun i hi => all_let hk i hi)
      have hUL8 := (all_len hk).2
      rw [(all_len hk).1] at hUL8
      have HDC : Hid (dcm l = if (decFs l (usedP kd) q0 zeros []).2.2.2 = 0 then (if (decFs l (usedP kd) q0 zeros []).2.2.1 = l.length then (mgOf kd (decFs l (usedP kd) q0 zeros []).1, (decFs l (usedP kd) q0 zeros []).2.1, 0) else (zmg, [], 22)) else (zmg, [], (decFs l (usedP kd) q0 zeros []).2.2.2)) := by
        show dcm l = _
        unfold dcm tkm
        rw [hg]
        simp only
        rw [if_pos trivial, if_pos hk]
      have hbv : Hid (0 < l.length → ∀ b, (Value.slice a l.length cap).ownBlock = some b → b < w.heap.size) := fun h => hs.lt h
      have HSG := hid hs
      have HRB := hid RB0
      have HAL := hid hal
      clear hg hs RB0 hal
      generalize dcm l = DC at *
      obtain ⟨UL, hUL⟩ : ∃ UL, UL = (usedP kd).length := ⟨_, rfl⟩
      have HUL := hid hUL
      rw [← hUL] at f2 hUL8
      obtain ⟨N, hN⟩ : ∃ N, N = l.length := ⟨_, rfl⟩
      have HN := hid hN
      rw [← hN] at h1 hlen hta q2 ⊢
      obtain ⟨hk1, hk8⟩ := hk
      clear hUL hN
      go_enter Try.func13, Try.ntmps13
      go_wp2_with (first | (go_at_call 37; refine hta.mono ?_; rintro e w1 ⟨rfl, hw1⟩; subst hw1) | (go_at_call 30; refine (hfm _).mono ?_; rintro e w2 ⟨rfl, rfl⟩))
      obtain ⟨w1, hw1⟩ : ∃ w1, w1 = (w.alloc (.cells ⟨[.int .i64 0, .int .i64 0, .int .i64 0, .int .i64 0, .int .i64 0, .int .i64 0, .int .i64 0, .int .i64 0, .int .i64 0, .int .i64 0, .int .i64 0, .slice none 0 0]⟩ 24)).alloc (.cells #[.int .i64 kd, .int .i64 0, .int .i64 0, .int .i64 0, .int .i64 0, .int .i64 0, .int .i64 0, .int .i64 0, .int .i64 0, .int .i64 0, .int .i64 0, .slice none 0 0] 24) := ⟨_, rfl⟩
      rw [← hw1]
      have hsz1 : w1.heap.size = w.heap.size + 2 := by rw [hw1]; simp
      have hal1 : Below w.heap.size w w1 := by rw [hw1]; exact ((Below.refl _ w).alloc (Nat.le_refl _) _).alloc (by simp) _
      have RB1 : MBx w1 w.heap.size zmg (.slice none 0 0) := by rw [hw1]; exact Bx.alloc HRB.out _
      have MB1 : MBn w1 (w.heap.size + 1) kd zeros (.slice none 0 0) := by
        rw [hw1]
        have := Bx.new (w.alloc (.cells ⟨zmg.cells (.slice none 0 0)⟩ 24)) (.int .i64 kd :: (zeros.map (Value.int .i64) ++ [.slice none 0 0])) 24
        rw [show (w.alloc (.cells ⟨zmg.cells (.slice none 0 0)⟩ 24)).heap.size = w.heap.size + 1 by simp] at this
        exact this
      have RT0 : Hid (RTk w1 w1 (w.heap.size + 1) kd l q0 zeros [] (.slice none 0 0)) := ⟨Ch.refl _ _, MB1, rfl, World.ownsRow_nil _ _ _ _, by omega, by rw [← HN.out]; omega⟩
      have HB1 := hid hal1
      have HR1 := hid RB1
      have HS1 := hid (HSG.out.below hal1)
      rw [← HN.out] at HS1
      clear hw1 hal1 RB1 MB1 HSG HRB HAL hta hfm f1 f3 f4
      go_loopw [5, 9] (fun q i wr => ∃ (k : Nat) (p : Int) (ns t : List Int) (tv : Value), k ≤ UL ∧ q = .int .i64 p ∧ i = .int .i64 k ∧ Hid (RTk w1 wr (w.heap.size + 1) kd l p ns t tv) ∧ Hid (decFs l ((usedP kd).drop k) p ns t = decFs l (usedP kd) q0 zeros [])) (fun _ i _ => UL - (intOf i).toNat)
      case atStart => exact ⟨0, q0, zeros, [], _, Nat.zero_le _, rfl, rfl, RT0, by simp [Hid]⟩
      case round =>
        obtain ⟨k, p, ns, t, tv, hk, rfl, rfl, hTK, hDE⟩ := hrel
        clear RT0
        have hp0 := hTK.out.p0
        have hp1 := hTK.out.p1
        rw [← HN.out] at hp1
        have hsr : Seg .u8 wr (.slice a N cap) l := HS1.out.other hTK.out.ch (fun hl hb => by rw [HN.out] at hb; have := hbv.out hl _ hb; omega)
        have RBr : MBx wr w.heap.size zmg (.slice none 0 0) := Bx.ch HR1.out hTK.out.ch (fun e => by simp [Xn] at e)
        have hbw : Hid (Below w.heap.size w wr) := hTK.out.ch.toBelow HB1.out (Nat.le_refl _) (fun g T e => by simp [Xn] at e; omega)
        obtain ⟨R0, R1, R2, R3, R4, R5, R6, R7, R8, R9, R10, R11⟩ := RBr.facts
        have Rf := Bx.frozen RBr
        have Rl := RBr.lt
        by_cases hlt : k < UL
        · have hix := fun w => HX.out k (by have := HUL.out; omega) w
          obtain ⟨hpl, _⟩ := HPL.out k (by have := HUL.out; omega)
          have hlet := HLT.out k (by have := HUL.out; omega)
          have HDC2 := hid (drop_cons (l := usedP kd) (k := k) (by have := HUL.out; omega))
          rw [hpl] at HDC2
          clear hpl
          generalize (allL kd).getD k 0 = c at *
          by_cases h100 : c = 100
          · subst h100
            have hp10 : plc 100 = 10 := rfl
            rw [hp10] at HDC2
            obtain ⟨t2, q, er, htx⟩ : ∃ t2 q er, Pl.textI l p 1024 = (t2, q, er) := ⟨_, _, _, rfl⟩
            have hte := rtext_any (.slice a N cap) l p 1024 wr hsr ho (by rw [← HN.out]; exact hlen) (by omega) (by omega) (by omega) (by omega)
            rw [htx] at hte
            simp only at hte
            clear hsr hlet
            by_cases he : er = 0
            · subst he
              obtain ⟨x1, x2, _, _, _, _⟩ := textI_ok ho htx
              have HD2 : Hid (decFs l ((usedP kd).drop (k + 1)) q ns t2 = decFs l (usedP kd) q0 zeros []) := by
                show _ = _
                rw [← hDE.out, HDC2.out, decFs_text htx]
              clear hDE HDC2 R0 R1 R2 R3 R4 R5 R6 R7 R8 R9 R10 R11 Rf Rl RBr hbw
              go_wp2_with fail
              refine hte.mono ?_
              rintro e w5 ⟨tv2, rfl, o5, b5⟩
              have B5 := MBx.below (hTK.out.box.mbx hTK.out.len) b5
              have c11 := B5.facts.2.2.2.2.2.2.2.2.2.2.2
              have fz := Bx.frozen B5
              have lt5 := B5.lt
              have hT5 : Hid (RTk w1 (w5.setCell ⟨w.heap.size + 1, 11, none⟩ tv2) (w.heap.size + 1) kd l q ns t2 tv2) := hTK.out.text (by omega) b5 o5 (by omega) x2
              obtain ⟨a5, c5, rfl⟩ := own_shape8 o5
              clear hte o5 b5 hTK B5
              go_wp2
              go_roundw
              case rel => exact ⟨k + 1, q, ns, t2, _, by omega, rfl, by go_num, hT5, HD2⟩
              case measure => simp [intOf]; omega
            · have HE : Hid (DC = (zmg, [], er)) := by
                show DC = _
                rw [HDC.out, ← hDE.out, HDC2.out, decFs_textE htx he, if_neg he]
              have hbe : (er == 0) = false := by simp [he]
              have hbn : (er != 0) = true := by simp [he]
              clear hDE HDC2 R0 R1 R2 R3 R4 R5 R6 R7 R8 R9 R10 R11 Rf Rl HDC
              go_wp2_with fail
              refine hte.mono ?_
              rintro e w5 ⟨tv2, rfl, o5, b5⟩
              have B5 := MBx.below (hTK.out.box.mbx hTK.out.len) b5
              have c11 := B5.facts.2.2.2.2.2.2.2.2.2.2.2
              have fz := Bx.frozen B5
              have lt5 := B5.lt
              have RB5 := RBr.below b5
              obtain ⟨R0, R1, R2, R3, R4, R5, R6, R7, R8, R9, R10, R11⟩ := RB5.facts
              have Rf := Bx.frozen RB5
              have Rl := RB5.lt
              have hb5 := hbw.out.trans (b5.mono hbw.out.size)
              obtain ⟨a5, c5, rfl⟩ := own_shape8 o5
              have RB6 : MBx (w5.setCell ⟨w.heap.size + 1, 11, none⟩ (.slice a5 t2.length c5)) w.heap.size zmg (.slice none 0 0) := Bx.other RB5 (by omega) _
              have hb6 : Below w.heap.size w (w5.setCell ⟨w.heap.size + 1, 11, none⟩ (.slice a5 t2.length c5)) := hb5.setCell (by simp) _
              have hW6 : ∀ k, (w5.setCell ⟨w.heap.size + 1, 11, none⟩ (.slice a5 t2.length c5)).cell? ⟨w.heap.size, k, none⟩ = w5.cell? ⟨w.heap.size, k, none⟩ := fun k => cell_heap (heap_setCell_other w5 ⟨w.heap.size + 1, 11, none⟩ w.heap.size _ (by simp)) k
              clear hte o5 b5 hTK B5 RBr hbw
              go_wp2_with fail
              have hpc := putMsg_ch (x := zmg) (v := .slice none 0 0) RB6
              have hbx := putMsg_box (x := zmg) (v := .slice none 0 0) RB6
              have hfin := hpc.toBelow hb6 (Nat.le_refl _) (fun g T e => by simp [Xn] at e; omega)
              clear hpc
              generalize hW : putMsg (w5.setCell ⟨w.heap.size + 1, 11, none⟩ (.slice a5 t2.length c5)) w.heap.size zmg (.slice none 0 0) = V at *
              simp only [putMsg, zmg] at hW
              rw [hW]
              refine bodyPost_ret (ret_rdec (b := w.heap.size) (x := zmg) (v := .slice none 0 0) (q := .int .i64 er) rfl rfl hbx) rfl ?_
              rw [HE.out]
              exact ⟨_, rfl, World.ownsRow_nil _ _ _ _, hfin⟩
          · have hlet2 := hlet.resolve_left h100
            have hcb : ((c : Int) == 100) = false := by simp; omega
            obtain ⟨hc0, hc10⟩ := plc_lt hlet2
            obtain ⟨j, hj⟩ : ∃ j : Nat, plc c = (j : Int) := ⟨(plc c).toNat, by omega⟩
            have hfd := fun W => field_any (w.heap.size + 1) c W hlet2
            rw [hj] at HDC2 hc0 hc10 hfd
            have hj10 : (j : Int) ≠ 10 := by omega
            simp only [Int.toNat_natCast] at hfd
            obtain ⟨m, q, er, hgx⟩ : ∃ m q er, Pl.getI l p = (m, q, er) := ⟨_, _, _, rfl⟩
            have hge := rget_is (.slice a N cap) l p m q er wr hsr ho hgx (by omega) (by omega)
            clear hsr hlet hlet2 hj
            by_cases he : er = 0
            · subst he
              obtain ⟨_, m0, m1, x1, x2, _⟩ := Pl.getI_ok l p m q ho hgx
              by_cases hmx : m ≤ 2147483647
              · have HD2 : Hid (decFs l ((usedP kd).drop (k + 1)) q (ns.set j m) t = decFs l (usedP kd) q0 zeros []) := by
                  show _ = _
                  rw [← hDE.out, HDC2.out, decFs_num hj10 hgx hmx]
                have hwm : IntKind.i64.wrap m = m := by simp [IntKind.wrap, IntKind.signed, IntKind.bits]; omega
                have hgm : decide (2147483647 < m) = false := by simp; omega
                have fz := Bx.frozen hTK.out.box
                have lt5 := Bx.lt hTK.out.box
                have cj : wr.cell? ⟨w.heap.size + 1, j + 1, none⟩ = some (.int .i64 (ns.getD j 0)) := Bx.cell hTK.out.box (j + 1) (by have hl := hTK.out.len; rw [List.getElem?_cons_succ, List.getElem?_append_left (by rw [List.length_map]; omega), List.getElem?_map, List.getElem?_eq_getElem (by omega)]; simp [List.getD, hl, show j < 10 by omega])
                have hT5 : Hid (RTk w1 (wr.setCell ⟨w.heap.size + 1, j + 1, none⟩ (.int .i64 m)) (w.heap.size + 1) kd l q (ns.set j m) t tv) := hTK.out.number (by omega) j (by omega) (by omega) x2
                clear hDE HDC2 R0 R1 R2 R3 R4 R5 R6 R7 R8 R9 R10 R11 Rf Rl RBr hbw hTK
                go_wp2_with (first | (go_at_call 37; refine hge.mono ?_; rintro e w5 ⟨rfl, hw5⟩; subst hw5) | (go_at_call 32; refine (hfd _).mono ?_; rintro e w6 ⟨rfl, hw6⟩; subst hw6))
                exact ⟨⟨k + 1, q, ns.set j m, t, tv, by omega, rfl, by go_num, hT5, HD2⟩, by simp [intOf]; omega⟩
              · have HE : Hid (DC = (zmg, [], 4)) := by
                  show DC = _
                  rw [HDC.out, ← hDE.out, HDC2.out, decFs_numB hj10 hgx hmx, if_neg (by simp)]
                have hgm : decide (2147483647 < m) = true := by simp; omega
                have hb6 := hbw.out
                clear hDE HDC2 HDC hTK hbw
                go_wp2_with (go_at_call 37; refine hge.mono ?_; rintro e w5 ⟨rfl, hw5⟩; subst hw5)
                have hpc := putMsg_ch (x := zmg) (v := .slice none 0 0) RBr
                have hbx := putMsg_box (x := zmg) (v := .slice none 0 0) RBr
                have hfin := hpc.toBelow hb6 (Nat.le_refl _) (fun g T e => by simp [Xn] at e; omega)
                clear hpc
                generalize hW : putMsg wr w.heap.size zmg (.slice none 0 0) = V at *
                simp only [putMsg, zmg] at hW
                rw [hW]
                refine bodyPost_ret (ret_rdec (b := w.heap.size) (x := zmg) (v := .slice none 0 0) (q := .int .i64 4) rfl rfl hbx) rfl ?_
                rw [HE.out]
                exact ⟨_, rfl, World.ownsRow_nil _ _ _ _, hfin⟩
            · have HE : Hid (DC = (zmg, [], er)) := by
                show DC = _
                rw [HDC.out, ← hDE.out, HDC2.out, decFs_numE hj10 hgx he, if_neg he]
              have hbe : (er == 0) = false := by simp [he]
              have hbn : (er != 0) = true := by simp [he]
              have hb6 := hbw.out
              clear hDE HDC2 HDC hTK hbw
              go_wp2_with (go_at_call 37; refine hge.mono ?_; rintro e w5 ⟨rfl, hw5⟩; subst hw5)
              have hpc := putMsg_ch (x := zmg) (v := .slice none 0 0) RBr
              have hbx := putMsg_box (x := zmg) (v := .slice none 0 0) RBr
              have hfin := hpc.toBelow hb6 (Nat.le_refl _) (fun g T e => by simp [Xn] at e; omega)
              clear hpc
              generalize hW : putMsg wr w.heap.size zmg (.slice none 0 0) = V at *
              simp only [putMsg, zmg] at hW
              rw [hW]
              refine bodyPost_ret (ret_rdec (b := w.heap.size) (x := zmg) (v := .slice none 0 0) (q := .int .i64 er) rfl rfl hbx) rfl ?_
              rw [HE.out]
              exact ⟨_, rfl, World.ownsRow_nil _ _ _ _, hfin⟩
        · have hke : (usedP kd).drop k = [] := List.drop_eq_nil_of_le (by have := HUL.out; omega)
          have HTK : Hid (decFs l (usedP kd) q0 zeros [] = (ns, t, p, 0)) := by
            show _ = _
            rw [← hDE.out, hke]
            rfl
          clear hDE hke hsr
          by_cases hpl : p < (N : Int)
          · have HE : Hid (DC = (zmg, [], 22)) := by
              show DC = _
              rw [HDC.out, HTK.out]
              simp only
              rw [if_pos trivial, if_neg (by have := HN.out; omega)]
            have hb6 := hbw.out
            clear HDC HTK hTK hbw
            go_wp2_with fail
            have hpc := putMsg_ch (x := zmg) (v := .slice none 0 0) RBr
            have hbx := putMsg_box (x := zmg) (v := .slice none 0 0) RBr
            have hfin := hpc.toBelow hb6 (Nat.le_refl _) (fun g T e => by simp [Xn] at e; omega)
            clear hpc
            generalize hW : putMsg wr w.heap.size zmg (.slice none 0 0) = V at *
            simp only [putMsg, zmg] at hW
            rw [hW]
            refine bodyPost_ret (ret_rdec (b := w.heap.size) (x := zmg) (v := .slice none 0 0) (q := .int .i64 22) rfl rfl hbx) rfl ?_
            rw [HE.out]
            exact ⟨_, rfl, World.ownsRow_nil _ _ _ _, hfin⟩
          · have HE : Hid (DC = (mgOf kd ns, t, 0)) := by
              show DC = _
              rw [HDC.out, HTK.out]
              simp only
              rw [if_pos trivial, if_pos (by have := HN.out; omega)]
            have MBr := hTK.out.box.mbx hTK.out.len
            obtain ⟨a5, c5, rfl⟩ := own_shape8 hTK.out.own
            have hown := hTK.out.own
            obtain ⟨M0, M1, M2, M3, M4, M5, M6, M7, M8, M9, M10, M11⟩ := MBr.facts
            have Ml := MBr.lt
            have hb6 := hbw.out
            generalize mgOf kd ns = x at *
            clear HDC HTK hTK hbw
            go_wp2_with fail
            have hpc := putMsg_ch (x := x) (v := .slice a5 t.length c5) RBr
            have hbx := putMsg_box (x := x) (v := .slice a5 t.length c5) RBr
            have hfin := hpc.toBelow hb6 (Nat.le_refl _) (fun g T e => by simp [Xn] at e; omega)
            have O4 := hown.kept hpc.grownBy (.inr fun he => by have := (hown.lt _ he).1; omega)
            have O5 := ownsRow_lower (C := w.heap.size) O4 (by omega)
            clear hpc O4 hown
            generalize hW : putMsg wr w.heap.size x (.slice a5 t.length c5) = V at *
            simp only [putMsg] at hW
            rw [hW]
            refine bodyPost_ret (ret_rdec (b := w.heap.size) (x := x) (v := .slice a5 t.length c5) (q := .int .i64 0) rfl rfl hbx) rfl ?_
            rw [HE.out]
            exact ⟨_, rfl, O5, hfin⟩
    · have HE : Hid (dcm l = (zmg, [], 23)) := by
        show dcm l = _
        unfold dcm tkm
        rw [hg]
        simp only
        rw [if_pos trivial, if_neg hk]
        simp
      obtain ⟨W, hW1⟩ : ∃ W, W = w.alloc (.cells #[.int .i64 0, .int .i64 0, .int .i64 0, .int .i64 0, .int .i64 0, .int .i64 0, .int .i64 0, .int .i64 0, .int .i64 0, .int .i64 0, .int .i64 0, .slice none 0 0] 24) := ⟨_, rfl⟩
      have RBw : MBx W w.heap.size zmg (.slice none 0 0) := by rw [hW1]; exact RB0
      have halw : Below w.heap.size w W := by rw [hW1]; exact hal
      generalize dcm l = DC at *
      by_cases h8 : 8 < kd
      · have hd8 : decide (8 < kd) = true := by simp; omega
        clear hk hg hs RB0 hal
        go_enter Try.func13, Try.ntmps13
        go_wp2_with (go_at_call 37; refine hta.mono ?_; rintro e w1 ⟨rfl, hw1⟩; subst hw1)
        rw [← hW1]
        refine bodyPost_ret (ret_rdec (b := w.heap.size) (x := zmg) (v := .slice none 0 0) (q := .int .i64 23) rfl rfl RBw) rfl ?_
        rw [HE.out]
        exact ⟨_, rfl, World.ownsRow_nil _ _ _ _, halw⟩
      · have hd8 : decide (8 < kd) = false := by simp; omega
        have hk0 : kd = 0 := by omega
        subst hk0
        have hfm := form_any 0
        rw [show strL (formL 0) = ⟨#[]⟩ from rfl] at hfm
        clear hk hg hs RB0 hal
        go_enter Try.func13, Try.ntmps13
        go_wp2_with (first | (go_at_call 37; refine hta.mono ?_; rintro e w1 ⟨rfl, hw1⟩; subst hw1) | (go_at_call 30; refine (hfm _).mono ?_; rintro e w2 ⟨rfl, rfl⟩))
        rw [← hW1]
        refine bodyPost_ret (ret_rdec (b := w.heap.size) (x := zmg) (v := .slice none 0 0) (q := .int .i64 23) rfl rfl RBw) rfl ?_
        rw [HE.out]
        exact ⟨_, rfl, World.ownsRow_nil _ _ _ _, halw⟩
  · have HE : Hid (dcm l = (zmg, [], er0)) := by
      show dcm l = _
      unfold dcm tkm
      rw [hg]
      simp only
      rw [if_neg h0]
      simp [h0]
    obtain ⟨W, hW1⟩ : ∃ W, W = w.alloc (.cells #[.int .i64 0, .int .i64 0, .int .i64 0, .int .i64 0, .int .i64 0, .int .i64 0, .int .i64 0, .int .i64 0, .int .i64 0, .int .i64 0, .int .i64 0, .slice none 0 0] 24) := ⟨_, rfl⟩
    have RBw : MBx W w.heap.size zmg (.slice none 0 0) := by rw [hW1]; exact RB0
    have halw : Below w.heap.size w W := by rw [hW1]; exact hal
    generalize dcm l = DC at *
    have hbe : (er0 == 0) = false := by simp [h0]
    have hbn : (er0 != 0) = true := by simp [h0]
    clear hg hs RB0 hal
    go_enter Try.func13, Try.ntmps13
    go_wp2_with (go_at_call 37; refine hta.mono ?_; rintro e w1 ⟨rfl, hw1⟩; subst hw1)
    rw [← hW1]
    refine bodyPost_ret (ret_rdec (b := w.heap.size) (x := zmg) (v := .slice none 0 0) (q := .int .i64 er0) rfl rfl RBw) rfl ?_
    rw [HE.out]
    exact ⟨_, rfl, World.ownsRow_nil _ _ _ _, halw⟩
end Go.Proofs.Ytoadcaennlfadaa
