/- histo: a tally on its way: count, open, take. -/
import Derived.Test.YthdaldgmolhljaaHsC
namespace Go.Proofs.Ythdaldgmolhljaa
open Go.RowKit
set_option linter.unusedVariables false
set_option maxRecDepth 20000

/-- Of what was there only two blocks may have turned. -/
structure Cs (T G : Nat) (w w' : World) : Prop where
  os : w'.os = w.os
  tape : w'.tape = w.tape
  output : w'.output = w.output
  size : w.heap.size ≤ w'.heap.size
  block : ∀ g, g < w.heap.size → g ≠ T → g ≠ G → w'.heap[g]? = w.heap[g]?
theorem Cs.refl (T G : Nat) (w : World) : Cs T G w w := ⟨rfl, rfl, rfl, Nat.le_refl _, fun _ _ _ _ => rfl⟩
theorem Cs.trans {T G : Nat} {u v w : World} (h : Cs T G u v) (k : Cs T G v w) : Cs T G u w :=
  ⟨k.os.trans h.os, k.tape.trans h.tape, k.output.trans h.output, Nat.le_trans h.size k.size, fun g hg hx hy => (k.block g (Nat.lt_of_lt_of_le hg h.size) hx hy).trans (h.block g hg hx hy)⟩
theorem Cs.left {T G : Nat} {u v : World} (h : Cg T u v) : Cs T G u v := ⟨h.os, h.tape, h.output, h.size, fun g hg hx _ => h.block g hg hx⟩
theorem Cs.right {T G : Nat} {u v : World} (h : Cg G u v) : Cs T G u v := ⟨h.os, h.tape, h.output, h.size, fun g hg _ hx => h.block g hg hx⟩
theorem Cs.old {T G : Nat} {u v : World} (h : Below u.heap.size u v) : Cs T G u v := Cs.left (Cg.of_below h)
theorem Cs.bo {T G c : Nat} {w w' : World} {cs : List Value} {U : TypeId} (h : Cs T G w w') (h1 : c ≠ T) (h2 : c ≠ G) (hx : Bo w c cs U) : Bo w' c cs U := (h.block c hx.lt h1 h2).trans hx
theorem Cs.low {T G B : Nat} {w w' : World} (h : Cs T G w w') (h1 : B ≤ T) (h2 : B ≤ G) (hB : B ≤ w.heap.size) : Below B w w' := ⟨h.os, h.tape, h.output, h.size, fun g hg => h.block g (by omega) (by omega) (by omega)⟩
theorem Cs.fresh {T G G' : Nat} {w w' : World} (h : Cs T G w w') (hG : w.heap.size ≤ G) : Cs T G' w w' := ⟨h.os, h.tape, h.output, h.size, fun g hg h1 _ => h.block g hg h1 (by omega)⟩

/-- A number of the tally's. -/
abbrev tT : TypeId := 55
abbrev tI : TypeId := 3
abbrev gR (G : Nat) : Value := .slice (some ⟨G, 0, none⟩) 81 81
def Hi.fits (c : List Int) (t : Int) : Prop := ∀ j, 0 ≤ c.getD j 0 ∧ c.getD j 0 ≤ t

set_option maxHeartbeats 2000000 in
theorem count_any (T G b : Nat) (c : List Int) (t n : Int) (w : World) (hT : Bo w T (hL (gR G) t) tT) (hG : Bo w G (i64s c) tI) (hTG : T ≠ G) (hl : c.length = 81) (hb : b < 81) (h1 : IntKind.i64.wrap (c.getD b 0 + n) = c.getD b 0 + n) (h2 : IntKind.i64.wrap (t + n) = t + n) :
    Calls Try.prog 32 #[.pointer (some ⟨T, 0, none⟩), .int .i64 (b : Int), .int .i64 n] w fun e w' => e = .returned (.tuple #[]) ∧ Bo w' T (hL (gR G) (t + n)) tT ∧ Bo w' G (i64s (c.set b (c.getD b 0 + n))) tI ∧ Cs T G w w' := by
  have HT := hidD hT
  have HG := hidD hG
  have HTG := hidD hTG
  have p0 := hT.cell 0 rfl
  have p1 := hT.cell 1 rfl
  have q := bo_int hG b (by omega)
  have f := hG.frozen b
  clear hT hG hTG
  obtain ⟨W1, hW1⟩ : ∃ W1, W1 = w.setCell ⟨G, b, none⟩ (.int .i64 (c.getD b 0 + n)) := ⟨_, rfl⟩
  have B1 := HT.out.other (c := G) (k := b) HTG.out (.int .i64 (c.getD b 0 + n))
  have B2 := bo_put HG.out b (c.getD b 0 + n)
  have K1 := hidD (Cs.right (T := T) (Cg.set (b := G) w b (.int .i64 (c.getD b 0 + n))))
  rw [← hW1] at B1 B2 K1
  have HB1 := hidD B1
  have HB2 := hidD B2
  have r0 := B1.cell 0 rfl
  have r1 := B1.cell 1 rfl
  have f1 := B1.frozen 1
  clear B1 B2 HT HG
  generalize c.getD b 0 = x at *
  go_enter Try.func32, Try.ntmps32
  go_upto_region 1 with fail
  rw [← hW1]
  clear hW1 p0 p1 q f
  go_wp2_with fail
  go_end0
  exact ⟨rfl, HB1.out.set 1 _, HB2.out.other (Ne.symm HTG.out) _, K1.out.trans (Cs.left (Cg.set _ 1 _))⟩

theorem made_81 (w : World) : ∃ w2, Sem.run Try.prog (Instr.makeSlice 22 (.int .i64 81) (.int .i64 81)) w = Result.ok (gR w.heap.size) w2 ∧ Bo w2 w.heap.size (i64s (List.replicate 81 0)) tI ∧ Below w.heap.size w w2 := made_ints w 81 (by decide)
/-- A tally as it lies. -/
def TL (W : World) (T : Nat) (c : List Int) (t : Int) : Prop := (c.length = 0 ∧ Bo W T [.slice none 0 0, .int .i64 t] tT) ∨ ∃ G, T < G ∧ c.length = 81 ∧ Bo W T (hL (gR G) t) tT ∧ Bo W G (i64s c) tI
set_option maxHeartbeats 2000000 in
/-- open: after it there is a row. -/
theorem open_any (T : Nat) (c : List Int) (t : Int) (w : World) (h : TL w T c t) :
    Calls Try.prog 30 #[.pointer (some ⟨T, 0, none⟩)] w fun e w' => e = .returned (.tuple #[]) ∧ Cg T w w' ∧ ∃ G, T < G ∧ Bo w' T (hL (gR G) t) tT ∧ Bo w' G (i64s (Hi.pad c)) tI := by
  rcases h with ⟨hc, hT⟩ | ⟨G, hTG, hc, hT, hG⟩
  · have e : Hi.pad c = List.replicate 81 0 := if_pos hc
    rw [e]
    clear e
    obtain ⟨w2, hmk, hG, hB⟩ := made_81 w
    have p0 := hT.cell 0 rfl
    have B2 := hT.below hB
    have f0 := B2.frozen 0
    have q0 := B2.cell 0 rfl
    have HT := hidD B2
    have HG := hidD hG
    have HL := hidD hT.lt
    have HB := hidD hB
    clear hT hG hB B2
    go_enter Try.func30, Try.ntmps30
    go_wp2_with fail
    go_end0
    refine ⟨rfl, (Cg.of_below HB.out).trans (Cg.set w2 0 _), w.heap.size, HL.out, HT.out.set 0 _, HG.out.other (Ne.symm (Nat.ne_of_lt HL.out)) _⟩
  · have e : Hi.pad c = c := if_neg (by omega)
    rw [e]
    have p0 := hT.cell 0 rfl
    have HT := hidD hT
    have HG := hidD hG
    clear hT hG
    go_enter Try.func30, Try.ntmps30
    go_wp2_with fail
    go_end0
    exact ⟨rfl, Cg.refl _ _, G, hTG, HT.out, HG.out⟩
theorem Hi.fits_onto {c d : List Int} {t u : Int} (hl : c.length = 81) (h1 : Hi.fits c t) (h2 : ∀ j, 0 ≤ d.getD j 0 ∧ d.getD j 0 ≤ u) (k j : Nat) : 0 ≤ (Hi.onto c d k).getD j 0 ∧ (Hi.onto c d k).getD j 0 ≤ t + u := by
  by_cases hj : j < c.length
  · rw [Hi.onto_at _ _ _ _ hj]
    have := h1 j
    have := h2 j
    split <;> omega
  · have e : (Hi.onto c d k).getD j 0 = 0 := by
      rw [List.getD, List.getElem?_eq_none (by rw [Hi.onto_len]; omega)]
      rfl
    rw [e]
    have := h1 j
    have := h2 j
    omega
theorem Hi.fits_pad {c : List Int} {t : Int} (h : Hi.fits c t) : Hi.fits (Hi.pad c) t := by
  unfold Hi.pad
  split
  · intro j
    rw [Hi.zeros_at]
    have := h j
    omega
  · exact h
set_option maxHeartbeats 4000000 in
/-- take. -/
theorem take_any (T : Nat) (c : List Int) (t : Int) (row : Value) (h : Hi.H) (w : World) (hT : TL w T c t) (hk : Hi.chk h = 0) (hf : Hi.fits c t) (ht : t ≤ 1073741824) (hs : Seg .i64 w row h.c) (hlow : ∀ W', Below T w W' → Seg .i64 W' row h.c) :
    Calls Try.prog 31 #[.pointer (some ⟨T, 0, none⟩), vH row h.t] w fun e w' => e = .returned (.tuple #[]) ∧ Below T w w' ∧ TL w' T (Hi.take c h.c) (t + h.t) := by
  have HK := hidD (Hi.chk_zero hk)
  have HTR := hidD (hf 0)
  have HCL : Hid (c.length = 0 ∨ c.length = 81) := hidD (by rcases hT with ⟨h, _⟩ | ⟨_, _, h, _⟩ <;> omega)
  obtain ⟨a, cap, rfl, h1, h2, h3, h4⟩ := id hs
  unfold maxLen at h2
  obtain ⟨d, u⟩ := h
  dsimp only at *
  have HLOW := hidD hlow
  have HF := hidD hf
  obtain ⟨N, hN⟩ : ∃ N, N = d.length := ⟨_, rfl⟩
  rw [← hN] at h1 HLOW HK ⊢
  have HN := hidD hN
  obtain ⟨B, hB⟩ : ∃ B, B = w.heap.size := ⟨_, rfl⟩
  have X0 := hidD (Bo.new w (hL (.slice a N cap) u) 24)
  have HW := hidD ((Below.refl w.heap.size w).alloc (Nat.le_refl _) (.cells (hL (.slice a N cap) u).toArray 24))
  obtain ⟨W0, hW0⟩ : ∃ W0, W0 = w.alloc (.cells (hL (.slice a N cap) u).toArray 24) := ⟨_, rfl⟩
  rw [← hW0] at X0 HW
  have HTB : Hid (T < w.heap.size) := hidD (by rcases hT with ⟨_, h⟩ | ⟨_, _, _, h, _⟩ <;> exact h.lt)
  have HT0 : Hid (TL W0 T c t) := hidD (by
    rcases hT with ⟨g1, g2⟩ | ⟨G, g1, g2, g3, g4⟩
    · exact .inl ⟨g1, g2.below HW.out⟩
    · exact .inr ⟨G, g1, g2, g3.below HW.out, g4.below HW.out⟩)
  have HWB := hidD (below_low HW.out (Nat.le_of_lt HTB.out))
  rw [← hB] at X0 HW HTB
  simp only [hL] at hW0
  clear hs hlow hN h3 h4 hT hf hk
  have p0 := X0.out.cell 0 rfl
  have p1 := X0.out.cell 1 rfl
  by_cases h0 : N = 0
  · subst h0
    have hd : d = [] := List.length_eq_zero_iff.1 HN.out.symm
    subst hd
    have hu : u = 0 := HK.out.2.2.1.symm
    subst hu
    rw [Int.add_zero]
    have e : Hi.take c [] = c := rfl
    rw [e]
    go_enter Try.func31, Try.ntmps31
    go_wp2_with fail
    rw [← hB, ← hW0]
    clear hB hW0
    go_loopw [15] (fun i wr => i = .int .i64 0 ∧ W0 = wr) (fun i _ => 100 - (intOf i).toNat)
    case atStart => exact ⟨rfl, rfl⟩
    case round =>
      obtain ⟨rfl, rfl⟩ := hrel
      go_wp2_with fail
      go_end0
      exact ⟨rfl, HWB.out, HT0.out⟩
  · have h81 : N = 81 := by have := HK.out.1; omega
    subst h81
    have CO := open_any T c t W0 HT0.out
    have hS : Hid (Seg .i64 W0 (.slice a 81 cap) d) := hidD (HLOW.out W0 HWB.out)
    go_enter Try.func31, Try.ntmps31
    go_wp2_with fail
    rw [← hB, ← hW0]
    clear hB hW0
    refine CO.mono ?_
    rintro e w2 ⟨rfl, hcg, G, hTG, hBT, hBG⟩
    have hTB : T < B := HTB.out
    have X2 := hidD (hcg.bo (c := B) (by omega) X0.out)
    have HB2 := hidD (hcg.below (B := T) (Nat.le_refl _) (by have := X0.out.lt; omega) HWB.out)
    have HS2 : Hid (B < w2.heap.size) := hidD (by have := X2.out.lt; omega)
    have hGB : Hid (G ≠ B) := hidD (fun e => by
      subst e
      have h1 := hBG
      have h2 := X2.out
      unfold Bo at h1 h2
      rw [h1] at h2
      simp only [Option.some.injEq, Obj.cells.injEq] at h2
      have := congrArg Array.size h2.1
      simp [i64s, hL] at this
      have hp := Hi.pad_len HCL.out
      omega)
    clear CO p0 p1 hS hcg X0
    have p0 := X2.out.cell 0 rfl
    have p1 := X2.out.cell 1 rfl
    have HI : Hid (Bo w2 T (hL (gR G) (t + Hi.pre d 0)) tT ∧ Bo w2 G (i64s (Hi.onto (Hi.pad c) d 0)) tI) := hidD ⟨by
      show Bo w2 T (hL (gR G) (t + 0)) tT
      rw [Int.add_zero]
      exact hBT, hBG⟩
    clear hBT hBG
    go_wp2_with fail
    go_loopw [15] (fun i wr => ∃ k : Nat, k ≤ 81 ∧ i = .int .i64 (k : Int) ∧ Hid (Bo wr T (hL (gR G) (t + Hi.pre d k)) tT ∧ Bo wr G (i64s (Hi.onto (Hi.pad c) d k)) tI ∧ Below T w wr ∧ T < wr.heap.size)) (fun i _ => 100 - (intOf i).toNat)
    case atStart => exact ⟨0, Nat.zero_le _, rfl, hidD ⟨HI.out.1, HI.out.2, HB2.out, HI.out.1.lt⟩⟩
    case round =>
      clear HI HB2
      obtain ⟨k, hk, rfl, hJ⟩ := hrel
      obtain ⟨j1, j2, j3, j4⟩ := hJ.out
      by_cases hlt : k < 81
      · obtain ⟨b, off, rfl, hb, Q⟩ := Seg.atE (HLOW.out wr j3) k (by have := HN.out; omega)
        obtain ⟨_, hr, hp, ht0, ht1⟩ := HK.out
        have hr0 := hr k
        have hfo := Hi.fits_onto (d := d) (t := t) (u := 1073741824) (Hi.pad_len HCL.out) (Hi.fits_pad HF.out) hr k k
        obtain ⟨s0, s1⟩ := Hi.pre_range hr k
        have ht2 := HTR.out
        have c1 := count_any T G k (Hi.onto (Hi.pad c) d k) (t + Hi.pre d k) (d.getD k 0) wr j1 j2 (by omega) (by rw [Hi.onto_len, Hi.pad_len HCL.out]) hlt (wrap_ok (by omega) (by omega)) (wrap_ok (by omega) (by omega))
        have J3 := hidD j3
        have J4 := hidD j4
        have HX : Hid (t + Hi.pre d (k + 1) = t + Hi.pre d k + d.getD k 0) := hidD (Int.add_assoc _ _ _).symm
        have HY : Hid (Hi.onto (Hi.pad c) d (k + 1) = (Hi.onto (Hi.pad c) d k).set k ((Hi.onto (Hi.pad c) d k).getD k 0 + d.getD k 0)) := hidD rfl
        clear j1 j2 j3 j4 hJ hr hp ht0 ht1 hr0 hfo s0 s1 ht2
        generalize (Hi.onto (Hi.pad c) d k).set k ((Hi.onto (Hi.pad c) d k).getD k 0 + d.getD k 0) = nl at *
        generalize t + Hi.pre d k + d.getD k 0 = nt at *
        generalize d.getD k 0 = x at *
        go_wp2_with fail
        refine c1.mono ?_
        rintro e w3 ⟨rfl, k1, k2, k3⟩
        have hw3 := hidD (below_then J3.out (k3.low (B := T) (Nat.le_refl _) (Nat.le_of_lt hTG) (Nat.le_of_lt J4.out)))
        have K1 := hidD k1
        have K2 := hidD k2
        clear k1 k2 k3 c1
        go_wp2_with fail
        exact ⟨⟨k + 1, by omega, by go_num, hidD ⟨by rw [HX.out]; exact K1.out, by rw [HY.out]; exact K2.out, hw3.out, K1.out.lt⟩⟩, by simp [intOf]; omega⟩
      · have hke : k = 81 := by omega
        subst hke
        have HJ := hidD hJ.out
        clear j1 j2 j3 j4 hJ
        go_wp2_with fail
        go_end0
        refine ⟨rfl, HJ.out.2.2.1, .inr ⟨G, hTG, ?_, ?_, ?_⟩⟩
        · have hb : Hi.take c d = Hi.both (Hi.pad c) d := if_neg (by have := HN.out; omega)
          rw [hb, Hi.both_len _ _ (by rw [Hi.pad_len HCL.out]; exact HN.out), Hi.pad_len HCL.out]
        · have := HJ.out.1
          rw [HK.out.2.2.1] at this
          exact this
        · have hb : Hi.take c d = Hi.both (Hi.pad c) d := if_neg (by have := HN.out; omega)
          have := HJ.out.2.1
          rw [hb, ← Hi.onto_both (by rw [Hi.pad_len HCL.out]; exact HN.out), ← HN.out]
          exact this
end Go.Proofs.Ythdaldgmolhljaa
