/- histo: the reference's Add. -/
import Derived.Test.YthdaldgmolhljaaHsL
namespace Go.Proofs.Ythdaldgmolhljaa
open Go.RowKit
set_option linter.unusedVariables false
set_option maxRecDepth 20000

set_option maxHeartbeats 8000000 in
theorem radd_any (row lv : Value) (h : Hi.H) (l : List Int) (w : World) (hs : Seg .i64 w row h.c) (hl : Seg .i64 w lv l) (hlen : l.length ≤ 17592186044415) :
    Calls Try.prog 15 #[vH row h.t, lv] w fun e w' => ∃ r, e = .returned (.tuple #[vH r (Hi.addR h l).t, .int .i64 (Hi.addE h l)]) ∧ Below w.heap.size w w' ∧ OR w.heap.size w' r (Hi.addR h l).c := by
  obtain ⟨d, t⟩ := h
  dsimp only at hs ⊢
  obtain ⟨W0, hW0, X0, X1, HB, HS⟩ := two_boxes w (hL row t) (hL (.slice none 0 0) 0) 24 24
  have CK := rcheck_any row ⟨d, t⟩ W0 (hs.below HB)
  have HSEG := hidD (fun (W : World) (b : Below w.heap.size w W) => hs.below b)
  have HLL := hidD (fun (W : World) (b : Below w.heap.size w W) => hl.below b)
  obtain ⟨g1, g2, g3, g4⟩ := Hi.add_cases ⟨d, t⟩ l
  dsimp only at g3 g4
  have C9 : Hid (Hi.chk ⟨d, t⟩ = 0 ∨ Hi.chk ⟨d, t⟩ = 9) := hidD (Hi.chk_two _)
  replace g1 := hidD g1
  replace g2 := hidD g2
  replace g3 := hidD g3
  replace g4 := hidD g4
  have HK := hidD (@Hi.fits_chk ⟨d, t⟩)
  have HK2 := hidD (@Hi.chk_zero ⟨d, t⟩)
  generalize Hi.addE ⟨d, t⟩ l = E at *
  generalize Hi.addR ⟨d, t⟩ l = R at *
  obtain ⟨k, hk⟩ : ∃ k, k = Hi.chk ⟨d, t⟩ := ⟨_, rfl⟩
  rw [← hk] at CK g1 g2 g3 g4 C9
  replace hk := hidD hk
  obtain ⟨z, hz⟩ : ∃ z, z = l.any (fun n => decide (n < 0)) := ⟨_, rfl⟩
  rw [← hz] at g2 g3 g4
  replace hz := hidD hz
  obtain ⟨a, cap, rfl, a1, a2, _, _⟩ := id hl
  unfold maxLen at a2
  obtain ⟨L, hL'⟩ : ∃ L, L = l.length := ⟨_, rfl⟩
  rw [← hL'] at a1 HLL g3 g4 hlen ⊢
  replace hL' := hidD hL'
  obtain ⟨N, hN⟩ : ∃ N, N = w.heap.size := ⟨_, rfl⟩
  rw [← hN] at X0 X1 HB HS HSEG HLL ⊢
  replace X0 := hidD X0
  replace X1 := hidD X1
  replace HB := hidD HB
  replace HS := hidD HS
  simp only [hL] at hW0
  clear hs hl
  go_enter Try.func15, Try.ntmps15
  go_wp2_with fail
  rw [← hN, ← hW0]
  clear hW0
  with_reducible refine CK.mono ?_
  rintro e w1 ⟨rfl, h1⟩
  replace HB := hidD (below_on HB.out (by have := HS.out; omega) h1)
  have HS1 : Hid (N + 2 ≤ w1.heap.size) := hidD (by have := HS.out; have := h1.size; omega)
  replace X0 := hidD (X0.out.below h1)
  replace X1 := hidD (X1.out.below h1)
  clear CK h1 HS hN
  have q0 := X1.out.cell 0 rfl
  have q1 := X1.out.cell 1 rfl
  have f0 := X1.out.frozen 0
  have f1 := X1.out.frozen 1
  have S := hidD (put2_bo (.slice none 0 0) (.int .i64 0) X1.out)
  have SB := hidD ((put2_cg w1 (N + 1) (.slice none 0 0) (.int .i64 0)).below (B := N) (by omega) (by have := HS1.out; omega) HB.out)
  by_cases hk0 : k = 0
  case neg =>
    obtain ⟨hE, hR⟩ := g1.out hk0
    have h9 : k = 9 := by rcases C9.out with h | h; exact absurd h hk0; exact h
    subst h9
    subst hE hR
    clear g1 g2 g3 g4 hk0
    go_wp2_with fail
    refine bodyPost_ret (ret_h rfl rfl S.out) rfl ?_
    exact ⟨_, rfl, SB.out, .inl ⟨rfl, rfl⟩⟩
  subst hk0
  have hkz := HK2.out hk.out.symm
  try dsimp only at hkz
  have HKZ := hidD hkz
  clear hkz
  have ht0 := HKZ.out.2.2.2.1
  have ht1 := HKZ.out.2.2.2.2
  go_wp2_with fail
  go_loopw [6] (fun i wr => ∃ k : Nat, k ≤ L ∧ i = .int .i64 (k : Int) ∧ Hid ((l.take k).any (fun n => decide (n < 0)) = false) ∧ w1 = wr) (fun i _ => L - (intOf i).toNat)
  case atStart => exact ⟨0, Nat.zero_le _, rfl, by simp [Hid], rfl⟩
  case round =>
    obtain ⟨k, hkL, rfl, hc, rfl⟩ := hrel
    by_cases hlt : k < L
    · obtain ⟨b, off, rfl, hb, Q⟩ := Seg.atE (HLL.out w1 HB.out) k (by have := hL'.out; omega)
      have HT := hidD (dany_take (fun n => decide (n < 0)) l k (by have := hL'.out; omega))
      have HA := hidD (dany_at (fun n => decide (n < 0)) l k (by have := hL'.out; omega))
      have hi : (k : Int) < (L : Int) := by omega
      by_cases hx : l.getD k 0 < 0
      · have hz2 := HA.out (decide_eq_true hx)
        rw [← hz.out] at hz2
        subst hz2
        obtain ⟨rfl, rfl⟩ := g2.out (by first | rfl | trivial) (by first | rfl | trivial)
        clear g1 g2 g3 g4 HT HA hc
        generalize l.getD k 0 = x at *
        go_wp2_with fail
        refine bodyPost_ret (ret_h rfl rfl S.out) rfl ?_
        exact ⟨_, rfl, SB.out, .inl ⟨rfl, rfl⟩⟩
      · have hc2 : Hid ((l.take (k + 1)).any (fun n => decide (n < 0)) = false) := by
          show (l.take (k + 1)).any (fun n => decide (n < 0)) = false
          rw [HT.out, hc.out, decide_eq_false hx]
          rfl
        clear g1 g2 g3 g4 HT HA hc
        generalize l.getD k 0 = x at *
        go_wp2_with fail
        exact ⟨⟨k + 1, by omega, by go_num, hc2, trivial⟩, by simp [intOf]; omega⟩
    · have hke : l.take k = l := List.take_of_length_le (by have := hL'.out; omega)
      have hz2 := hc.out
      rw [hke, ← hz.out] at hz2
      subst hz2
      have hkL2 : k = L := by omega
      clear hke hc
      have p0 := X0.out.cell 0 rfl
      have p1 := X0.out.cell 1 rfl
      by_cases hbig : 1073741824 < t + (L : Int)
      case pos =>
        obtain ⟨rfl, rfl⟩ := g3.out (by first | rfl | trivial) (by first | rfl | trivial) hbig
        have hbig2 : 1073741824 - (L : Int) < t := by omega
        clear g1 g2 g3 g4
        go_wp2_with fail
        refine bodyPost_ret (ret_h rfl rfl S.out) rfl ?_
        exact ⟨_, rfl, SB.out, .inl ⟨rfl, rfl⟩⟩
      obtain ⟨hE, hR⟩ := g4.out (by first | rfl | trivial) (by first | rfl | trivial) (by omega)
      subst hE hR
      have hbig2 : ¬ 1073741824 - (L : Int) < t := by omega
      have CO := rown_any row ⟨d, t⟩ w1 (HSEG.out w1 HB.out) HKZ.out.1
      try dsimp only at CO
      clear g1 g2 g3 g4 S SB q0 q1 f0 f1
      go_wp2_with fail
      refine CO.mono ?_
      rintro e w2 ⟨r, rfl, h2, o2⟩
      clear CO
      have hP := Hi.pad_len HKZ.out.1
      obtain ⟨G, hG1, rfl, hG3⟩ : ∃ G, w1.heap.size ≤ G ∧ r = gR G ∧ Bo w2 G (i64s (Hi.pad d)) tI := by
        rcases o2 with ⟨e1, _⟩ | ⟨G, e1, _, e3, e4⟩
        · rw [e1] at hP; simp at hP
        · exact ⟨G, e1, e3, e4⟩
      have hNG : N + 2 ≤ G := by have := HS1.out; omega
      have HB2 := below_on HB.out (by have := HS1.out; omega) h2
      have HS2 : N + 2 ≤ w2.heap.size := by have := HS1.out; have := h2.size; omega
      have Y1 := X1.out.below h2
      have hb := (Below.refl w2.heap.size w2).alloc (Nat.le_refl _) (.cells #[gR G, .int .i64 t] 24)
      have B1 := Bo.new w2 (hL (gR G) t) 24
      obtain ⟨b, hb'⟩ : ∃ b, b = w2.heap.size := ⟨_, rfl⟩
      obtain ⟨W3, hW3⟩ : ∃ W3, W3 = w2.alloc (.cells #[gR G, .int .i64 t] 24) := ⟨_, rfl⟩
      have B2 : Bo W3 b (hL (gR G) t) 24 := by rw [hW3, hb']; exact B1
      rw [← hW3] at hb
      have hbG : G < b := by rw [hb']; exact hG3.lt
      have HI : Hid (Bo W3 b (hL (gR G) t) 24 ∧ Bo W3 G (i64s (Hi.pad d)) tI ∧ Bo W3 (N + 1) (hL (.slice none 0 0) 0) 24 ∧ Below N w W3) := hidD ⟨B2, hG3.below hb, Y1.below hb, below_on HB2 (by omega) hb⟩
      clear h2 o2 hG3 HB2 Y1 hb B1 B2 p0 p1
      go_wp2_with fail
      rw [← hb', ← hW3]
      clear hb' hW3
      have HP := hidD hP
      have HF0 := hidD (Hi.fits_pad (HK.out hk.out.symm))
      have HNN : Hid (∀ j, j < L → 0 ≤ l.getD j 0) := hidD (fun j hj => by
        have ha := hz.out.symm
        rw [List.any_eq_false] at ha
        have hj' : j < l.length := by have := hL'.out; omega
        have := ha l[j] (List.getElem_mem hj')
        simpa [List.getD, hj'] using this)
      obtain ⟨c0, hc0⟩ : ∃ c0, c0 = Hi.pad d := ⟨_, rfl⟩
      rw [← hc0] at HP HF0 HI
      replace hc0 := hidD hc0
      clear HSEG HK HK2 HKZ hP X0 X1 HB
      go_loopw [8] (fun i wr => ∃ k : Nat, k ≤ L ∧ i = .int .i64 (k : Int) ∧ Hid (Bo wr b (hL (gR G) (t + k)) 24 ∧ Bo wr G (i64s (Hi.adds c0 (l.take k))) tI ∧ Bo wr (N + 1) (hL (.slice none 0 0) 0) 24 ∧ Below N w wr)) (fun i _ => 2000000000 - (intOf i).toNat)
      case atStart => exact ⟨0, Nat.zero_le _, rfl, hidD (by rw [List.take_zero, show (t + ((0 : Nat) : Int)) = t from Int.add_zero t]; exact HI.out)⟩
      case round =>
        clear HI
        obtain ⟨k, hk, rfl, hJ⟩ := hrel
        obtain ⟨j1, j2, j3, j4⟩ := hJ.out
        have hcl : (Hi.adds c0 (l.take k)).length = 81 := by rw [Hi.adds_len]; exact HP.out
        by_cases hlt : k < L
        · obtain ⟨g, off, rfl, hg, Q⟩ := Seg.atE (HLL.out wr j4) k (by have := hL'.out; omega)
          have hx := HNN.out k hlt
          have cB := rbucket_any (l.getD k 0) wr
          have hbn := Hi.bn_le (l.getD k 0)
          rw [show Hi.bkR (l.getD k 0) = (Hi.bn (l.getD k 0) : Nat) from if_neg (by omega), show Hi.bkE (l.getD k 0) = 0 from if_neg (by omega)] at cB
          have hfo := Hi.fits_adds (l := l) HF0.out k (Hi.bn (l.getD k 0))
          have r0 := j1.cell 0 rfl
          have r1 := j1.cell 1 rfl
          have fr := j1.frozen 1
          have y0 := bo_int j2 (Hi.bn (l.getD k 0)) (by omega)
          have fy := j2.frozen (Hi.bn (l.getD k 0))
          have HY : Hid (Hi.adds c0 (l.take (k + 1)) = (Hi.adds c0 (l.take k)).set (Hi.bn (l.getD k 0)) ((Hi.adds c0 (l.take k)).getD (Hi.bn (l.getD k 0)) 0 + 1)) := hidD (Hi.adds_take c0 l k (by have := hL'.out; omega))
          have M2 := bo_put j2 (Hi.bn (l.getD k 0)) ((Hi.adds c0 (l.take k)).getD (Hi.bn (l.getD k 0)) 0 + 1)
          have KG := Cg.set (b := G) wr (Hi.bn (l.getD k 0)) (.int .i64 ((Hi.adds c0 (l.take k)).getD (Hi.bn (l.getD k 0)) 0 + 1))
          have M1 := KG.bo (c := b) (by omega) j1
          have M3 := KG.bo (c := N + 1) (by omega) j3
          have M4 := KG.below (B := N) (by omega) (by have := j3.lt; omega) j4
          obtain ⟨W5, hW5⟩ : ∃ W5, W5 = wr.setCell ⟨G, Hi.bn (l.getD k 0), none⟩ (.int .i64 ((Hi.adds c0 (l.take k)).getD (Hi.bn (l.getD k 0)) 0 + 1)) := ⟨_, rfl⟩
          rw [← hW5] at M1 M2 M3 M4
          have s0 := M1.cell 0 rfl
          have s1 := M1.cell 1 rfl
          have fs := M1.frozen 1
          have KB := Cg.set (b := b) W5 1 (.int .i64 (t + k + 1))
          have HE : Hid (Bo (W5.setCell ⟨b, 1, none⟩ (.int .i64 (t + k + 1))) b (hL (gR G) (t + k + 1)) 24 ∧ Bo (W5.setCell ⟨b, 1, none⟩ (.int .i64 (t + k + 1))) G (i64s ((Hi.adds c0 (l.take k)).set (Hi.bn (l.getD k 0)) ((Hi.adds c0 (l.take k)).getD (Hi.bn (l.getD k 0)) 0 + 1))) tI ∧ Bo (W5.setCell ⟨b, 1, none⟩ (.int .i64 (t + k + 1))) (N + 1) (hL (.slice none 0 0) 0) 24 ∧ Below N w (W5.setCell ⟨b, 1, none⟩ (.int .i64 (t + k + 1)))) :=
            hidD ⟨M1.set 1 _, KB.bo (by omega) M2, KB.bo (by omega) M3, KB.below (by omega) (by have := M3.lt; omega) M4⟩
          have hi : (k : Int) < (L : Int) := by omega
          rw [← HY.out] at HE
          have hw1 : IntKind.i64.wrap ((Hi.adds c0 (l.take k)).getD (Hi.bn (l.getD k 0)) 0 + 1) = (Hi.adds c0 (l.take k)).getD (Hi.bn (l.getD k 0)) 0 + 1 := wrap_ok (by omega) (by omega)
          have hbb : Hi.bn (l.getD k 0) < 81 := by omega
          clear j1 j2 j3 j4 hJ M1 M2 M3 M4 KB KG hbn hfo hcl HY hx
          generalize (Hi.adds c0 (l.take k)).getD (Hi.bn (l.getD k 0)) 0 = yv at *
          generalize Hi.bn (l.getD k 0) = bn at *
          generalize l.getD k 0 = x at *
          go_wp2_with fail
          with_reducible refine cB.mono ?_
          rintro e wb ⟨rfl, rfl⟩
          clear cB Q
          go_upto_region 16 with fail
          rw [← hW5]
          clear hW5 r0 r1 fr y0 fy
          go_wp2_with fail
          refine ⟨⟨k + 1, by omega, by go_num, hidD ?_⟩, by simp [intOf]; omega⟩
          rw [show t + ((k + 1 : Nat) : Int) = t + (k : Int) + 1 by omega]
          exact HE.out
        · have hke : k = L := by omega
          subst hke
          have r0 := j1.cell 0 rfl
          have r1 := j1.cell 1 rfl
          have q0 := j3.cell 0 rfl
          have q1 := j3.cell 1 rfl
          have f0 := j3.frozen 0
          have f1 := j3.frozen 1
          have S := hidD (put2_bo (gR G) (.int .i64 (t + k)) j3)
          have SB := hidD ((put2_cg wr (N + 1) (gR G) (.int .i64 (t + k))).below (B := N) (by omega) (by have := j3.lt; omega) j4)
          have SG := hidD ((put2_cg wr (N + 1) (gR G) (.int .i64 (t + k))).bo (c := G) (by omega) j2)
          have hcl2 := hidD hcl
          have HE : Hid (l.take k = l) := hidD (List.take_of_length_le (by have := hL'.out; omega))
          clear j1 j2 j3 j4 hJ hcl
          go_wp2_with fail
          refine bodyPost_ret (ret_h rfl rfl S.out) rfl ?_
          refine ⟨_, rfl, SB.out, .inr ⟨G, by omega, ?_, rfl, ?_⟩⟩
          · have := hcl2.out
            rw [HE.out, hc0.out] at this
            exact this
          · have := SG.out
            rw [HE.out, hc0.out] at this
            exact this
end Go.Proofs.Ythdaldgmolhljaa
