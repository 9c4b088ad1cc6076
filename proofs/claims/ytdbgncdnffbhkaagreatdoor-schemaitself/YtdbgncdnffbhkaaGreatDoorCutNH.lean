/- SchemaItself: the walk. -/
import Derived.Test.YtdbgncdnffbhkaaGreatDoorCutNG
import Derived.Test.YtdbgncdnffbhkaaGreatDoorCutNF
namespace Go.Proofs.YtdbgncdnffbhkaaGreatDoor
open Go.RowKit
set_option maxRecDepth 20000

theorem ext_bad {E : Int} {D : Option Sc} (h : E ≠ 0) : extE E E D D = E := by
  unfold extE thenE
  rw [if_neg h]
theorem ext_self {st : List (List Nat × List Pl.Fld)} {en : List (List Nat × List Pl.Cas)} {sv : List (List Nat × List Pl.Mth)} (h : allE st en sv = 0) : extE 0 0 (some (st, en, sv)) (some (st, en, sv)) = 0 := by
  unfold extE
  simp only [thenE_zero_iff]
  exact ⟨trivial, trivial, find_self h⟩

set_option maxHeartbeats 16000000 in
theorem itself_walk (s1 s2 s3 : Value) (E : Int) (D : Option Sc) (w : World) (hA : ScOk w s1 s2 s3 E D) (ht : Tab w.heap.size w) :
    Calls Tryz.prog 4 #[.agg #[s1, s2, s3]] w fun e w' => e = .returned (.bool true) ∧ Below w.heap.size w w' := by
  obtain ⟨a1, m1, c1, a2, m2, c2, a3, m3, c3, rfl, rfl, rfl⟩ := hA.shape
  obtain ⟨w1, hw1⟩ : ∃ w1, w1 = w.alloc (.cells #[.slice a1 m1 c1, .slice a2 m2 c2, .slice a3 m3 c3] 26) := ⟨_, rfl⟩
  have hb1 : Below w.heap.size w w1 := by rw [hw1]; exact below_alloc w _
  have hB1 : Bx w1 w.heap.size [.slice a1 m1 c1, .slice a2 m2 c2, .slice a3 m3 c3] 26 := by rw [hw1]; exact Bx.new w _ _
  have HA := hid (hA.below hb1)
  have HT := hid ((ht.below hb1).up2 hb1.size)
  have hal := alive6_any w1 HT.out
  have HAL := hid hal
  have HW1 := hid hw1
  have Hb1 := hid hb1
  have HB1 := hid hB1
  clear hal hw1 hb1 hB1 hA ht
  go_enter Tryz.func4, Tryz.ntmps4
  go_wp2_with fail
  rw [← HW1.out]
  refine HAL.out.mono ?_
  rintro e w2 ⟨rfl, hb2⟩
  have hB2 := HB1.out.below hb2
  have x0 := hB2.cell 0 rfl
  have x1 := hB2.cell 1 rfl
  have x2 := hB2.cell 2 rfl
  have HA2 := hid (HA.out.below hb2)
  have HT2 := hid ((HT.out.below hb2).up2 hb2.size)
  have HCk := hid (Check_any _ _ _ E D w2 HA2.out HT2.out)
  have HB2 := hid hB2
  have Hb2 := hid (below_next Hb1.out hb2)
  clear hb2 hB2 HB1 Hb1 HT HA HAL
  go_wp2_with fail
  refine HCk.out.mono ?_
  rintro e w3 ⟨rfl, hb3⟩
  have hB3 := HB2.out.below hb3
  have HB3 := hid hB3
  have HA3 := hid (HA2.out.below hb3)
  have HT3 := hid ((HT2.out.below hb3).up2 hb3.size)
  have Hb3 := hid (below_next Hb2.out hb3)
  clear x0 x1 x2
  have x0 := hB3.cell 0 rfl
  have x1 := hB3.cell 1 rfl
  have x2 := hB3.cell 2 rfl
  clear hb3 hB3 HB2 Hb2 HT2 HA2 HCk
  go_wp2_with fail
  refine (num6_any E w3).mono ?_
  rintro e w4 ⟨rfl, hw4⟩
  subst w4
  by_cases h0 : E = 0
  · subst h0
    match D, HA3.out with
    | none, ⟨a, b, c, er, _, _, _, hne, hEr⟩ => exact absurd (by omega) hne
    | some (st, en, sv), hsc =>
      obtain ⟨hL, ⟨xx, hxx⟩, hok, hlen, hE⟩ := id hsc
      have hG := SchL.g (Nat.le_refl _) (by omega) hL hok
      have HPR := hid (rPrint_ok st en sv hok hlen _ _ _ w3 hG)
      have HXS := hid (ext_self hE.symm)
      have HOK := hid hok
      have HLEN := hid hlen
      have HE := hid hE
      have HSC := hid hsc
      clear hG hL hxx hok hlen hE hsc HA3
      go_wp2_with fail
      refine HPR.out.mono ?_
      rintro e w5 ⟨t, rfl, htb, hb5⟩
      have HT5 := hid ((HT3.out.below hb5).up2 hb5.size)
      have HLD := hid (load_any t w5 HT5.out)
      have HB5 := hid (HB3.out.below hb5)
      have HSC5 := hid (HSC.out.below hb5)
      have Hb5 := hid (below_next Hb3.out hb5)
      have HD := hid (fun hs : t.size ≤ 65536 => back_out t _ HOK.out (by
        have := HLEN.out
        simp only [Pl.inOrder, List.length_append, List.length_map]
        omega) htb hs)
      clear hb5 htb HPR HB3 HSC Hb3 HT3 x0 x1 x2
      go_wp2_with fail
      refine HLD.out.mono ?_
      rintro e w6 ⟨hb6, b1, n1, d1, b2, n2, d2, b3, n3, d3, ln, F, rfl, hF⟩
      obtain ⟨w7, hw7⟩ : ∃ w7, w7 = w6.alloc (.cells #[.slice b1 n1 d1, .slice b2 n2 d2, .slice b3 n3 d3] 26) := ⟨_, rfl⟩
      have hb67 : Below w6.heap.size w6 w7 := by rw [hw7]; exact below_alloc w6 _
      have hb7 := below_next hb6 hb67
      have HB7 := hid (HB5.out.below hb7)
      have HC7 : Hid (Bx w7 w6.heap.size [.slice b1 n1 d1, .slice b2 n2 d2, .slice b3 n3 d3] 26) := by
        show Bx _ _ _ _
        rw [hw7]
        exact Bx.new w6 _ _
      have HSC7 := hid (HSC5.out.below hb7)
      have HT7 := hid ((HT5.out.below hb7).up2 hb7.size)
      have Hb7 := hid (below_next Hb5.out hb7)
      have HFV : Hid (t.size ≤ 65536 → F = 0 ∧ ScOk w7 (.slice b1 n1 d1) (.slice b2 n2 d2) (.slice b3 n3 d3) 0 (some (st, en, sv))) := fun hs => by
        have hTO := HD.out hs
        obtain ⟨q1, q2⟩ := hF _ hTO
        obtain ⟨e1, e2, e3⟩ := stOf_in st en sv
        rw [e1, e2, e3, ← HE.out] at q1
        have hsc := hTO.sc (q2 q1)
        rw [e1, e2, e3, ← HE.out] at hsc
        exact ⟨q1, hsc.below hb67⟩
      have HX1 := hid (Extends_any _ _ _ _ _ _ 0 0 _ _ w7 HSC7.out HSC7.out HT7.out)
      rw [HXS.out] at HX1
      have HW7 := hid hw7
      have y0 := HB7.out.cell 0 rfl
      have y1 := HB7.out.cell 1 rfl
      have y2 := HB7.out.cell 2 rfl
      rw [hw7] at y0 y1 y2
      clear hb6 hb67 hb7 hw7 hF HD HLD HB5 HSC5 HT5 Hb5
      go_wp2_with fail
      rw [← HW7.out]
      refine HX1.out.mono ?_
      rintro e w8 ⟨rfl, hb8⟩
      have Hb8 := hid (below_next Hb7.out hb8)
      by_cases hbig : 65536 < t.size
      · have hbigI : (65536 : Int) < (t.size : Int) := by omega
        clear y0 y1 y2 hb8
        go_wp2
        go_ret
        exact ⟨rfl, Hb8.out⟩
      · have hbigI : ¬ (65536 : Int) < (t.size : Int) := by omega
        obtain ⟨rfl, hsx⟩ := HFV.out (by omega)
        have hB8 := HB7.out.below hb8
        have hC8 := HC7.out.below hb8
        have HT8 := hid ((HT7.out.below hb8).up2 hb8.size)
        have HSX8 := hid (hsx.below hb8)
        have HSC8 := hid (HSC7.out.below hb8)
        have HX2 := hid (Extends_any _ _ _ _ _ _ 0 0 _ _ w8 HSX8.out HSC8.out HT8.out)
        rw [HXS.out] at HX2
        have HB8 := hid hB8
        have HC8 := hid hC8
        clear y0 y1 y2
        have y0 := hB8.cell 0 rfl
        have y1 := hB8.cell 1 rfl
        have y2 := hB8.cell 2 rfl
        have z0 := hC8.cell 0 rfl
        have z1 := hC8.cell 1 rfl
        have z2 := hC8.cell 2 rfl
        clear hB8 hC8 hb8 hsx HFV HB7 HC7 HSC7 HT7 Hb7 HX1
        go_wp2_with fail
        refine (num6_any 0 w8).mono ?_
        rintro e w9 ⟨rfl, hw9⟩
        subst w9
        go_wp2_with fail
        refine HX2.out.mono ?_
        rintro e w9 ⟨rfl, hb9⟩
        have hB9 := HB8.out.below hb9
        have hC9 := HC8.out.below hb9
        have Hb9 := hid (below_next Hb8.out hb9)
        have HX3 := hid (Extends_any _ _ _ _ _ _ 0 0 _ _ w9 (HSC8.out.below hb9) (HSX8.out.below hb9) ((HT8.out.below hb9).up2 hb9.size))
        rw [HXS.out] at HX3
        clear y0 y1 y2 z0 z1 z2
        have y0 := hB9.cell 0 rfl
        have y1 := hB9.cell 1 rfl
        have y2 := hB9.cell 2 rfl
        have z0 := hC9.cell 0 rfl
        have z1 := hC9.cell 1 rfl
        have z2 := hC9.cell 2 rfl
        clear hB9 hC9 hb9 HB8 HC8 HSC8 HSX8 HT8 HX2
        go_wp2_with fail
        refine HX3.out.mono ?_
        rintro e w10 ⟨rfl, hb10⟩
        have Hb10 := hid (below_next Hb9.out hb10)
        clear hb10 y0 y1 y2 z0 z1 z2
        go_wp2
        go_ret
        exact ⟨rfl, Hb10.out⟩
  · have hq : (E == 0) = false := by simp [h0]
    have HX := hid (Extends_any _ _ _ _ _ _ E E D D w3 HA3.out HA3.out HT3.out)
    rw [ext_bad h0] at HX
    go_wp2_with fail
    refine HX.out.mono ?_
    rintro e w5 ⟨rfl, hb5⟩
    have Hb5 := hid (below_next Hb3.out hb5)
    clear hb5
    go_wp2
    go_ret
    exact ⟨by simp, Hb5.out⟩
end Go.Proofs.YtdbgncdnffbhkaaGreatDoor
