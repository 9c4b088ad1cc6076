/- histo: Add. -/
import Derived.Test.YthdaldgmolhljaaHsD
namespace Go.Proofs.Ythdaldgmolhljaa
open Go.RowKit
set_option linter.unusedVariables false
set_option maxRecDepth 20000

theorem ret_h {fn : Func} {k m : Nat} (h : fn.results = #[.cell k 24, .tmp m]) {W : World} {tmps : Array Value} {b : Nat} {x0 x1 : Value} (ht : tmps.getD k undef = .pointer (some ⟨b, 0, none⟩))
    (hB : Bo W b [x0, x1] 24) : (results fn tmps).run Try.prog W = .ok (.tuple #[.agg #[x0, x1], tmps.getD m undef]) W := by
  have h0 := hB.cell 0 rfl
  have h1 := hB.cell 1 rfl
  clear hB
  rw [Array.getD_eq_getD_getElem?] at ht
  simp [results, h]
  go_simp
/-- A row of a histogram's own. -/
def OR (B : Nat) (W : World) (r : Value) (c : List Int) : Prop := (c = [] ∧ r = .slice none 0 0) ∨ ∃ G, B ≤ G ∧ c.length = 81 ∧ r = gR G ∧ Bo W G (i64s c) tI
theorem OR.below {B : Nat} {W W' : World} {r : Value} {c : List Int} (h : OR B W r c) (hb : Below W.heap.size W W') : OR B W' r c := by
  rcases h with h | ⟨G, h1, h2, h3, h4⟩
  · exact .inl h
  · exact .inr ⟨G, h1, h2, h3, h4.below hb⟩
theorem OR.lower {B C : Nat} {W : World} {r : Value} {c : List Int} (h : OR B W r c) (hC : C ≤ B) : OR C W r c := by
  rcases h with h | ⟨G, h1, h2, h3, h4⟩
  · exact .inl h
  · exact .inr ⟨G, by omega, h2, h3, h4⟩
theorem OR.seg {B : Nat} {W : World} {r : Value} {c : List Int} (h : OR B W r c) : Seg .i64 W r c := by
  rcases h with ⟨rfl, rfl⟩ | ⟨G, h1, h2, rfl, h4⟩
  · exact Seg.nil _ _
  · have := seg_bo h4 (by omega)
    rw [h2] at this
    exact this
theorem OR.cg {B b : Nat} {W W' : World} {r : Value} {c : List Int} (h : OR B W r c) (hb : Cg b W W') (hB : b < B) : OR B W' r c := by
  rcases h with h | ⟨G, h1, h2, h3, h4⟩
  · exact .inl h
  · exact .inr ⟨G, h1, h2, h3, hb.bo (by omega) h4⟩
theorem TL.own {W : World} {T : Nat} {c : List Int} {t : Int} (h : TL W T c t) : ∃ r, Bo W T (hL r t) tT ∧ OR (T + 1) W r c := by
  rcases h with ⟨h1, h2⟩ | ⟨G, h1, h2, h3, h4⟩
  · exact ⟨_, h2, .inl ⟨List.length_eq_zero_iff.1 h1, rfl⟩⟩
  · exact ⟨_, h3, .inr ⟨G, h1, h2, rfl, h4⟩⟩

set_option maxHeartbeats 1000000 in
theorem neg_any (n : Int) (w : World) : Calls Try.prog 29 #[.int .i64 n] w fun e w' => e = .returned (.bool (decide (n < 0))) ∧ w = w' := by
  go_enter Try.func29, Try.ntmps29
  go_wp2
  go_ret
  exact ⟨rfl, rfl⟩
theorem negs_any (v : Value) (l : List Int) (w : World) (hv : Seg .i64 w v l) : Calls Try.prog 28 #[v, .func (.func 29) #[] #[]] w fun e w' => e = .returned (.bool (l.any fun n => decide (n < 0))) ∧ w = w' :=
  containsInts_any 29 (fun _ _ => rfl) (fun n => decide (n < 0)) v l w hv (fun z => neg_any z w)

theorem Hi.add_cases (h : Hi.H) (l : List Int) : (¬ Hi.chk h = 0 → Hi.addE h l = Hi.chk h ∧ Hi.addR h l = Hi.H.z) ∧ (Hi.chk h = 0 → l.any (fun n => decide (n < 0)) = true → Hi.addE h l = 4 ∧ Hi.addR h l = Hi.H.z) ∧
    (Hi.chk h = 0 → l.any (fun n => decide (n < 0)) = false → 1073741824 < h.t + l.length → Hi.addE h l = 72 ∧ Hi.addR h l = Hi.H.z) ∧
    (Hi.chk h = 0 → l.any (fun n => decide (n < 0)) = false → ¬ 1073741824 < h.t + l.length → Hi.addE h l = 0 ∧ Hi.addR h l = ⟨Hi.adds (Hi.pad h.c) l, h.t + l.length⟩) := by
  have key : ∀ x, Hi.addE h l = x → ¬ x = 0 → Hi.addE h l = x ∧ Hi.addR h l = Hi.H.z := fun x e hx => ⟨e, if_neg (by rw [e]; exact hx)⟩
  refine ⟨fun h1 => ?_, fun h1 h2 => ?_, fun h1 h2 h3 => ?_, fun h1 h2 h3 => ?_⟩
  · have h9 : Hi.chk h = 9 := by rcases Hi.chk_two h with e | e; exact absurd e h1; exact e
    rw [h9]
    exact key 9 (if_neg h1) (by decide)
  · exact key 4 (by unfold Hi.addE; rw [if_pos h1, if_pos h2]) (by decide)
  · exact key 72 (by unfold Hi.addE; rw [if_pos h1, if_neg (by rw [h2]; decide), if_pos h3]) (by decide)
  · have e : Hi.addE h l = 0 := by unfold Hi.addE; rw [if_pos h1, if_neg (by rw [h2]; decide), if_neg h3]
    exact ⟨e, if_pos e⟩
theorem Hi.fits_chk {h : Hi.H} (k : Hi.chk h = 0) : Hi.fits h.c h.t := by
  obtain ⟨_, h2, h3, h4, h5⟩ := Hi.chk_zero k
  intro j
  refine ⟨(h2 j).1, ?_⟩
  by_cases hj : j < h.c.length
  · have a := Hi.pre_le k (show j + 1 ≤ h.c.length from hj)
    have b := Hi.pre_pos (c := h.c) (fun j => (h2 j).1) j
    have e : Hi.pre h.c (j + 1) = Hi.pre h.c j + h.c.getD j 0 := rfl
    omega
  · have e : h.c.getD j 0 = 0 := by
      rw [List.getD, List.getElem?_eq_none (by omega)]
      rfl
    rw [e]
    exact h4
theorem Hi.fits_adds {c l : List Int} {t : Int} (h : Hi.fits c t) (k : Nat) : Hi.fits (Hi.adds c (l.take k)) (t + k) := by
  intro j
  by_cases hj : j < c.length
  · rw [Hi.adds_at _ _ _ hj]
    have := h j
    have := Hi.cntB_pos j (l.take k)
    have := Hi.cntB_len j (l.take k)
    have : (l.take k).length ≤ k := by rw [List.length_take]; omega
    omega
  · have e : (Hi.adds c (l.take k)).getD j 0 = 0 := by
      rw [List.getD, List.getElem?_eq_none (by rw [Hi.adds_len]; omega)]
      rfl
    rw [e]
    have := h j
    omega
abbrev put2 (w : World) (b : Nat) (x y : Value) : World := (w.setCell ⟨b, 0, none⟩ x).setCell ⟨b, 1, none⟩ y
theorem put2_bo {w : World} {b : Nat} {u v : Value} {T : TypeId} (x y : Value) (h : Bo w b [u, v] T) : Bo (put2 w b x y) b [x, y] T := (h.set 0 x).set 1 y
theorem put2_cg (w : World) (b : Nat) (x y : Value) : Cg b w (put2 w b x y) := (Cg.set w 0 x).trans (Cg.set _ 1 y)

theorem TL.row {W : World} {T : Nat} {c : List Int} {t : Int} (h : TL W T c t) (hc : c.length = 81) : ∃ G, T < G ∧ Bo W T (hL (gR G) t) tT ∧ Bo W G (i64s c) tI := by
  rcases h with ⟨h1, _⟩ | ⟨G, h1, _, h3, h4⟩
  · omega
  · exact ⟨G, h1, h3, h4⟩
theorem TL.lt {W : World} {T : Nat} {c : List Int} {t : Int} (h : TL W T c t) : T < W.heap.size := by
  rcases h with ⟨_, h⟩ | ⟨_, _, _, h, _⟩ <;> exact h.lt
set_option maxHeartbeats 8000000 in
theorem add_any (row lv : Value) (h : Hi.H) (l : List Int) (w : World) (hs : Seg .i64 w row h.c) (hl : Seg .i64 w lv l) (hlen : l.length ≤ 17592186044415) :
    Calls Try.prog 14 #[vH row h.t, lv] w fun e w' => ∃ r, e = .returned (.tuple #[vH r (Hi.addR h l).t, .int .i64 (Hi.addE h l)]) ∧ Below w.heap.size w w' ∧ OR w.heap.size w' r (Hi.addR h l).c := by
  obtain ⟨d, t⟩ := h
  dsimp only at hs ⊢
  obtain ⟨W0, hW0, X0, X1, HB, HS⟩ := two_boxes w (hL row t) (hL (.slice none 0 0) 0) 24 24
  have CK := check_any row ⟨d, t⟩ W0 (hs.below HB)
  have HSEG := hidD (fun (W : World) (b : Below w.heap.size w W) => hs.below b)
  have HLL := hidD (fun (W : World) (b : Below w.heap.size w W) => hl.below b)
  obtain ⟨g1, g2, g3, g4⟩ := Hi.add_cases ⟨d, t⟩ l
  dsimp only at g3 g4
  replace g1 := hidD g1
  replace g2 := hidD g2
  replace g3 := hidD g3
  replace g4 := hidD g4
  have HK := hidD (@Hi.fits_chk ⟨d, t⟩)
  have HK2 := hidD (@Hi.chk_zero ⟨d, t⟩)
  have HK3 : Hid (Hi.chk ⟨d, t⟩ = 0 → Hi.chk ⟨d, t⟩ = 0) := hidD id
  generalize Hi.addE ⟨d, t⟩ l = E at *
  generalize Hi.addR ⟨d, t⟩ l = R at *
  have HKK : Hid (Hi.chk ⟨d, t⟩ = Hi.chk ⟨d, t⟩) := hidD rfl
  obtain ⟨k, hk⟩ : ∃ k, k = Hi.chk ⟨d, t⟩ := ⟨_, rfl⟩
  rw [← hk] at CK g1 g2 g3 g4
  replace hk := hidD hk
  obtain ⟨z, hz⟩ : ∃ z, z = l.any (fun n => decide (n < 0)) := ⟨_, rfl⟩
  rw [← hz] at g2 g3 g4
  replace hz := hidD hz
  obtain ⟨a, cap, rfl, a1, a2, _, _⟩ := id hl
  unfold maxLen at a2
  obtain ⟨L, hL'⟩ : ∃ L, L = l.length := ⟨_, rfl⟩
  rw [← hL'] at a1 HLL g3 g4 hlen ⊢
  replace hL' := hidD hL'
  obtain ⟨N, hN⟩ : ∃ N, N = w.heap.size := ⟨_, rfl⟩
  rw [← hN] at X0 X1 HB HS HSEG HLL ⊢
  replace X0 := hidD X0
  replace X1 := hidD X1
  replace HB := hidD HB
  replace HS := hidD HS
  simp only [hL] at hW0
  clear hs hl HK3 HKK
  go_enter Try.func14, Try.ntmps14
  go_wp2_with fail
  rw [← hN, ← hW0]
  clear hW0
  with_reducible refine CK.mono ?_
  rintro e w1 ⟨rfl, h1⟩
  replace HB := hidD (below_on HB.out (by have := HS.out; omega) h1)
  have HS1 : Hid (N + 2 ≤ w1.heap.size) := hidD (by have := HS.out; have := h1.size; omega)
  replace X0 := hidD (X0.out.below h1)
  replace X1 := hidD (X1.out.below h1)
  clear CK h1 HS hN
  by_cases hk0 : k = 0
  case neg =>
    obtain ⟨rfl, rfl⟩ := g1.out hk0
    have hk1 : (E != 0) = true := by simp [hk0]
    have S := hidD (put2_bo (.slice none 0 0) (.int .i64 0) X1.out)
    have SB := hidD ((put2_cg w1 (N + 1) (.slice none 0 0) (.int .i64 0)).below (B := N) (by omega) (by have := HS1.out; omega) HB.out)
    have q0 := X1.out.cell 0 rfl
    have q1 := X1.out.cell 1 rfl
    have f0 := X1.out.frozen 0
    have f1 := X1.out.frozen 1
    clear g1 g2 g3 g4 hk0
    go_wp2_with fail
    refine bodyPost_ret (ret_h rfl rfl S.out) rfl ?_
    exact ⟨_, rfl, SB.out, .inl ⟨rfl, rfl⟩⟩
  subst hk0
  have CN := negs_any _ l w1 (HLL.out w1 HB.out)
  rw [← hz.out] at CN
  have q0 := X1.out.cell 0 rfl
  have q1 := X1.out.cell 1 rfl
  have f0 := X1.out.frozen 0
  have f1 := X1.out.frozen 1
  cases z
  case true =>
    obtain ⟨rfl, rfl⟩ := g2.out rfl rfl
    have S := hidD (put2_bo (.slice none 0 0) (.int .i64 0) X1.out)
    have SB := hidD ((put2_cg w1 (N + 1) (.slice none 0 0) (.int .i64 0)).below (B := N) (by omega) (by have := HS1.out; omega) HB.out)
    clear g1 g2 g3 g4
    go_wp2_with fail
    with_reducible refine CN.mono ?_
    rintro e w2 ⟨rfl, rfl⟩
    go_wp2_with fail
    refine bodyPost_ret (ret_h rfl rfl S.out) rfl ?_
    exact ⟨_, rfl, SB.out, .inl ⟨rfl, rfl⟩⟩
  have p0 := X0.out.cell 0 rfl
  have p1 := X0.out.cell 1 rfl
  have hkz := HK2.out hk.out.symm
  try dsimp only at hkz
  have HKZ := hidD hkz
  clear hkz
  have ht0 := HKZ.out.2.2.2.1
  have ht1 := HKZ.out.2.2.2.2
  by_cases hbig : 1073741824 < t + (L : Int)
  case pos =>
    obtain ⟨rfl, rfl⟩ := g3.out rfl rfl hbig
    have S := hidD (put2_bo (.slice none 0 0) (.int .i64 0) X1.out)
    have SB := hidD ((put2_cg w1 (N + 1) (.slice none 0 0) (.int .i64 0)).below (B := N) (by omega) (by have := HS1.out; omega) HB.out)
    clear g1 g2 g3 g4
    go_wp2_with fail
    with_reducible refine CN.mono ?_
    rintro e w2 ⟨rfl, rfl⟩
    go_wp2_with fail
    refine bodyPost_ret (ret_h rfl rfl S.out) rfl ?_
    exact ⟨_, rfl, SB.out, .inl ⟨rfl, rfl⟩⟩
  obtain ⟨rfl, rfl⟩ := g4.out rfl rfl (by omega)
  obtain ⟨T, hT⟩ : ∃ T, T = w1.heap.size := ⟨_, rfl⟩
  obtain ⟨W2, hW2⟩ : ∃ W2, W2 = w1.alloc (.cells #[.slice none 0 0, .int .i64 0] 55) := ⟨_, rfl⟩
  have hT2 : Hid (TL W2 T [] 0) := hidD (by rw [hW2, hT]; exact .inl ⟨rfl, Bo.new w1 [.slice none 0 0, .int .i64 0] 55⟩)
  have hb2 : Below w1.heap.size w1 W2 := by rw [hW2]; exact (Below.refl _ _).alloc (Nat.le_refl _) _
  have HB2 := hidD (below_on HB.out (by have := HS1.out; omega) hb2)
  have Y0 := hidD (X0.out.below hb2)
  have Y1 := hidD (X1.out.below hb2)
  rw [← hT] at HS1
  have r0 := Y0.out.cell 0 rfl
  have r1 := Y0.out.cell 1 rfl
  clear g1 g2 g3 g4 hb2 X0 X1 HB q0 q1 f0 f1
  have CO := open_any T [] 0 W2 hT2.out
  have HTT := hidD (show T < W2.heap.size by rw [hW2, hT, World.size_alloc]; omega)
  go_wp2_with fail
  with_reducible refine CN.mono ?_
  rintro e w2 ⟨rfl, rfl⟩
  clear CN
  go_wp2_with fail
  rw [← hT, ← hW2]
  clear hT hW2
  with_reducible refine CO.mono ?_
  rintro e w3 ⟨rfl, hcg, G, hTG, hBT, hBG⟩
  have hNT : N + 2 ≤ T := HS1.out
  have hb3 := hidD (hcg.below (B := N) (by omega) (by have := HTT.out; omega) HB2.out)
  have Z0 := hidD (hcg.bo (c := N) (by omega) Y0.out)
  have Z1 := hidD (hcg.bo (c := N + 1) (by omega) Y1.out)
  have T3 : TL w3 T Hi.zeros 0 := .inr ⟨G, hTG, Hi.zeros_len, hBT, hBG⟩
  have LT3 := hidD hBT.lt
  have CT := take_any T Hi.zeros 0 row ⟨d, t⟩ w3 T3 hk.out.symm (fun j => by rw [Hi.zeros_at]; omega) (by decide) (HSEG.out w3 hb3.out) (fun W' hb' => HSEG.out W' (below_then hb3.out (below_low hb' (by omega))))
  rw [Hi.take_zeros HKZ.out.1, Int.zero_add] at CT
  have r0 := Z0.out.cell 0 rfl
  have r1 := Z0.out.cell 1 rfl
  clear CO hcg hTG hBT hBG T3 Y0 Y1 hT2 HB2
  go_wp2_with fail
  with_reducible refine CT.mono ?_
  rintro e w4 ⟨rfl, hb4, hT4⟩
  have hb4' := hidD (below_then hb3.out (below_low hb4 (by omega)))
  have V1 := hidD (Z1.out.under hb4 (by omega))
  have LT4 : Hid (T < w4.heap.size) := hidD (by have := LT3.out; have := hb4.size; omega)
  replace hT4 := hidD hT4
  clear CT Z0 Z1 r0 r1 hb4 hb3 LT3
  go_wp2_with fail
  have HP := hidD (Hi.pad_len HKZ.out.1)
  have HF0 := hidD (Hi.fits_pad (HK.out hk.out.symm))
  have HNN : Hid (∀ j, j < L → 0 ≤ l.getD j 0) := hidD (fun j hj => by
    have ha := hz.out.symm
    rw [List.any_eq_false] at ha
    have hj' : j < l.length := by have := hL'.out; omega
    have := ha l[j] (List.getElem_mem hj')
    simpa [List.getD, hj'] using this)
  obtain ⟨c0, hc0⟩ : ∃ c0, c0 = Hi.pad d := ⟨_, rfl⟩
  rw [← hc0] at HP HF0 hT4
  replace hc0 := hidD hc0
  clear HSEG HK HK2 HKZ
  go_loopw [31] (fun i wr => ∃ k : Nat, k ≤ L ∧ i = .int .i64 (k : Int) ∧ Hid (TL wr T (Hi.adds c0 (l.take k)) (t + k) ∧ Below N w wr ∧ Bo wr (N + 1) (hL (.slice none 0 0) 0) 24)) (fun i _ => 2000000000 - (intOf i).toNat)
  case atStart => exact ⟨0, Nat.zero_le _, rfl, hidD ⟨by rw [List.take_zero, show (t + ((0 : Nat) : Int)) = t from Int.add_zero t]; exact hT4.out, hb4'.out, V1.out⟩⟩
  case round =>
    clear hT4 hb4' V1 LT4
    obtain ⟨k, hk, rfl, hJ⟩ := hrel
    obtain ⟨j1, j2, j3⟩ := hJ.out
    have hcl : (Hi.adds c0 (l.take k)).length = 81 := by rw [Hi.adds_len]; exact HP.out
    obtain ⟨G, hTG, b1, b2⟩ := j1.row hcl
    by_cases hlt : k < L
    · obtain ⟨b, off, rfl, hb, Q⟩ := Seg.atE (HLL.out wr j2) k (by have := hL'.out; omega)
      have hx := HNN.out k hlt
      have cB := bucketOf_any (l.getD k 0) wr hx
      have hbn := Hi.bn_le (l.getD k 0)
      have hfo := Hi.fits_adds (l := l) HF0.out k (Hi.bn (l.getD k 0))
      have cC := count_any T G (Hi.bn (l.getD k 0)) (Hi.adds c0 (l.take k)) (t + k) 1 wr b1 b2 (by omega) hcl (by omega) (wrap_ok (by omega) (by omega)) (wrap_ok (by omega) (by omega))
      have HY : Hid (Hi.adds c0 (l.take (k + 1)) = (Hi.adds c0 (l.take k)).set (Hi.bn (l.getD k 0)) ((Hi.adds c0 (l.take k)).getD (Hi.bn (l.getD k 0)) 0 + 1)) := hidD (Hi.adds_take c0 l k (by have := hL'.out; omega))
      have J2 := hidD j2
      have J3 := hidD j3
      have LT := hidD b1.lt
      clear j1 j2 j3 hJ b1 b2 hbn hfo hx hcl
      generalize (Hi.adds c0 (l.take k)).set (Hi.bn (l.getD k 0)) ((Hi.adds c0 (l.take k)).getD (Hi.bn (l.getD k 0)) 0 + 1) = nl at *
      generalize Hi.bn (l.getD k 0) = bn at *
      generalize l.getD k 0 = x at *
      have hi : (k : Int) < (L : Int) := by omega
      go_wp2_with fail
      with_reducible refine cB.mono ?_
      rintro e wb ⟨rfl, rfl⟩
      clear cB Q
      go_wp2_with fail
      refine cC.mono ?_
      rintro e w5 ⟨rfl, k1, k2, k3⟩
      have hw5 := hidD (below_then J2.out (k3.low (B := N) (by omega) (by omega) (by have := LT.out; omega)))
      have K1 := hidD k1
      have K2 := hidD k2
      have K3 := hidD (k3.bo (c := N + 1) (by omega) (by omega) J3.out)
      have hl5 : Hid (nl.length = 81) := hidD (by rw [← HY.out, Hi.adds_len]; exact HP.out)
      clear k1 k2 k3 cC J2 J3
      go_wp2_with fail
      refine ⟨⟨k + 1, by omega, by go_num, hidD ⟨?_, hw5.out, K3.out⟩⟩, by simp [intOf]; omega⟩
      rw [HY.out]
      refine .inr ⟨G, hTG, hl5.out, ?_, K2.out⟩
      have := K1.out
      rw [Int.add_assoc] at this
      exact this
    · have hke : k = L := by omega
      subst hke
      have r0 := b1.cell 0 rfl
      have r1 := b1.cell 1 rfl
      have q0 := j3.cell 0 rfl
      have q1 := j3.cell 1 rfl
      have f0 := j3.frozen 0
      have f1 := j3.frozen 1
      have S := hidD (put2_bo (gR G) (.int .i64 (t + k)) j3)
      have SB := hidD ((put2_cg wr (N + 1) (gR G) (.int .i64 (t + k))).below (B := N) (by omega) (by have := b1.lt; omega) j2)
      have SG := hidD ((put2_cg wr (N + 1) (gR G) (.int .i64 (t + k))).bo (c := G) (by omega) b2)
      have hcl2 := hidD hcl
      have HE : Hid (l.take k = l) := hidD (List.take_of_length_le (by have := hL'.out; omega))
      clear j1 j2 j3 hJ b1 b2 hcl
      go_wp2_with fail
      refine bodyPost_ret (ret_h rfl rfl S.out) rfl ?_
      refine ⟨gR G, ?_, SB.out, .inr ⟨G, by omega, ?_, rfl, ?_⟩⟩
      · rfl
      · have := hcl2.out
        rw [HE.out, hc0.out] at this
        exact this
      · have := SG.out
        rw [HE.out, hc0.out] at this
        exact this
end Go.Proofs.Ythdaldgmolhljaa
