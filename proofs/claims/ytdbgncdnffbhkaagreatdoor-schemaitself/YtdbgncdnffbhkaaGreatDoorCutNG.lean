/- schema: Load, of any text. -/
import Derived.Test.YtdbgncdnffbhkaaGreatDoorCutKX
namespace Go.Proofs.YtdbgncdnffbhkaaGreatDoor
open Go.RowKit
set_option maxRecDepth 20000

def LoadS (t : ByteArray) (w : World) (e : Ending) (w' : World) : Prop :=
  Below w.heap.size w w' ∧ ∃ a1 m1 c1 a2 m2 c2 a3 m3 c3, ∃ ln E : Int, e = .returned (.tuple #[.agg #[.slice a1 m1 c1, .slice a2 m2 c2, .slice a3 m3 c3], .int .i64 ln, .int .i64 E]) ∧
    ∀ ds, TOk t ds → E = allE (stOf ds) (enOf ds) (svOf ds) ∧ (E = 0 → SchV w.heap.size ds (.slice a1 m1 c1) (.slice a2 m2 c2) (.slice a3 m3 c3) w')

theorem schv_set {B b k : Nat} {ds : List Pl.Decl} {s1 s2 s3 u : Value} {cs : List Value} {w : World} (h : SchV B ds s1 s2 s3 w) (hb : Bx w b cs 26) : SchV B ds s1 s2 s3 (w.setCell ⟨b, k, none⟩ u) :=
  h.ch (X := fun _ T => T = 26) (Ch.set hb rfl u) (fun g T hx => by rw [hx]; decide)

set_option maxHeartbeats 8000000 in
theorem load_any (t : ByteArray) (w : World) (ht : Tab w.heap.size w) : Calls Tryz.prog 9 #[.string t] w (LoadS t w) := by
  obtain ⟨w1, hw1⟩ : ∃ w1, w1 = w.alloc (.cells #[.slice none 0 0, .slice none 0 0, .slice none 0 0] 26) := ⟨_, rfl⟩
  have hb1 : Below w.heap.size w w1 := by rw [hw1]; exact below_alloc w _
  have hB1 : Bx w1 w.heap.size [.slice none 0 0, .slice none 0 0, .slice none 0 0] 26 := by rw [hw1]; exact Bx.new w _ _
  have htx := text_out t w1
  have HTx := hid htx
  have HW1 := hid hw1
  have Hb1 := hid hb1
  have HB1 := hid hB1
  have HTab := hid ht
  clear hw1 hb1 hB1 htx ht
  go_enter Tryz.func9, Tryz.ntmps9
  go_wp2_with fail
  rw [← HW1.out]
  refine HTx.out.mono ?_
  rintro e w2 (⟨ln, er, her, hbad, _, rfl, hb2⟩ | ⟨ds, s1, s2, s3, hok, rfl, hV, hb2⟩)
  · obtain ⟨w3, hw3⟩ : ∃ w3, w3 = w2.alloc (.cells #[.slice none 0 0, .slice none 0 0, .slice none 0 0] 26) := ⟨_, rfl⟩
    have hb3 : Below w2.heap.size w2 w3 := by rw [hw3]; exact below_alloc w2 _
    have hBl := (HB1.out.below hb2).below hb3
    have hbw := below_next (below_next Hb1.out hb2) hb3
    have y0 := hBl.cell 0 rfl
    have y1 := hBl.cell 1 rfl
    have y2 := hBl.cell 2 rfl
    have hyf := hBl.frozen
    have HBs := hid (((hBl.set 0 (.slice none 0 0)).set 1 (.slice none 0 0)).set 2 (.slice none 0 0))
    have HbL := hid ((hbw.setCell (p := ⟨w.heap.size, 0, none⟩) (Nat.le_refl _) (.slice none 0 0)).setCell (p := ⟨w.heap.size, 1, none⟩) (Nat.le_refl _) (.slice none 0 0) |>.setCell (p := ⟨w.heap.size, 2, none⟩) (Nat.le_refl _) (.slice none 0 0))
    have hq : (er == 0) = false := by simp [her]
    have HB := hid hbad
    have HER := hid her
    have HW3 := hid hw3
    rw [hw3] at y0 y1 y2 hyf HBs HbL
    clear hbad her hb2 hBl hbw hb3 hw3
    go_wp2_with fail
    exact bodyPost_ret (ret_load9 rfl rfl rfl (HBs.out.cell 0 rfl) (HBs.out.cell 1 rfl) (HBs.out.cell 2 rfl)) rfl ⟨HbL.out, _, _, _, _, _, _, _, _, _, _, _, rfl, fun ds hT => absurd (hT.notBad HB.out) HER.out⟩
  · obtain ⟨a1, c1, a2, c2, a3, c3, rfl, rfl, rfl⟩ := hV.shape
    obtain ⟨E, hE⟩ : ∃ E, E = allE (stOf ds) (enOf ds) (svOf ds) := ⟨_, rfl⟩
    have HE := hid hE
    have hsc := hok.sc hV
    rw [← hE] at hsc
    have HT := hid hok
    have HV := hid (SchV.mono (Nat.le_trans (Nat.le_refl _) Hb1.out.size) hV)
    obtain ⟨l1, hL1⟩ : ∃ L, L = (stOf ds).length := ⟨_, rfl⟩
    obtain ⟨l2, hL2⟩ : ∃ L, L = (enOf ds).length := ⟨_, rfl⟩
    obtain ⟨l3, hL3⟩ : ∃ L, L = (svOf ds).length := ⟨_, rfl⟩
    rw [← hL1, ← hL2, ← hL3] at hsc HV ⊢
    obtain ⟨w3, hw3⟩ : ∃ w3, w3 = w2.alloc (.cells #[.slice a1 l1 c1, .slice a2 l2 c2, .slice a3 l3 c3] 26) := ⟨_, rfl⟩
    have hb3 : Below w2.heap.size w2 w3 := by rw [hw3]; exact below_alloc w2 _
    have hB3 : Bx w3 w2.heap.size [.slice a1 l1 c1, .slice a2 l2 c2, .slice a3 l3 c3] 26 := by rw [hw3]; exact Bx.new w2 _ _
    have hbw := below_next (below_next Hb1.out hb2) hb3
    have hCk := Check_any _ _ _ E _ w3 (hsc.below hb3) ((HTab.out.below hbw).up2 hbw.size)
    have HCk := hid hCk
    have HV3 := hid (HV.out.below hb3)
    have HBW := hid hbw
    have HB3 := hid hB3
    have HBl := hid ((HB1.out.below hb2).below hb3)
    have HW3 := hid hw3
    clear hsc hw3 hb3 hB3 hbw hCk hb2 hV hL1 hL2 hL3 hE hok
    go_wp2_with fail
    rw [← HW3.out]
    refine HCk.out.mono ?_
    rintro e w4 ⟨rfl, hb4⟩
    have hBl := HBl.out.below hb4
    have hBr := HB3.out.below hb4
    have HV4 := hid (HV3.out.below hb4)
    have y0 := hBl.cell 0 rfl
    have y1 := hBl.cell 1 rfl
    have y2 := hBl.cell 2 rfl
    have hyf := hBl.frozen
    have z0 := hBr.cell 0 rfl
    have z1 := hBr.cell 1 rfl
    have z2 := hBr.cell 2 rfl
    by_cases h0 : E = 0
    · subst h0
      have q1 := hBl.set 0 (.slice a1 l1 c1)
      have q2 := q1.set 1 (.slice a2 l2 c2)
      have q3 := q2.set 2 (.slice a3 l3 c3)
      have HVs := hid (schv_set (k := 2) (u := .slice a3 l3 c3) (schv_set (k := 1) (u := .slice a2 l2 c2) (schv_set (k := 0) (u := .slice a1 l1 c1) HV4.out hBl) q1) q2)
      have hbL := ((HBW.out.trans (hb4.mono HBW.out.size)).setCell (p := ⟨w.heap.size, 0, none⟩) (Nat.le_refl _) (.slice a1 l1 c1)).setCell (p := ⟨w.heap.size, 1, none⟩) (Nat.le_refl _) (.slice a2 l2 c2) |>.setCell (p := ⟨w.heap.size, 2, none⟩) (Nat.le_refl _) (.slice a3 l3 c3)
      have HBs := hid q3
      have HbL := hid hbL
      clear q1 q2 q3 hbL hb4 hBl hBr
      go_wp2_with fail
      exact bodyPost_ret (ret_load9 rfl rfl rfl (HBs.out.cell 0 rfl) (HBs.out.cell 1 rfl) (HBs.out.cell 2 rfl)) rfl ⟨HbL.out, _, _, _, _, _, _, _, _, _, _, _, rfl, fun ds' hT => by
        obtain rfl := HT.out.one hT
        exact ⟨HE.out, fun _ => HVs.out⟩⟩
    · have hbL := ((HBW.out.trans (hb4.mono HBW.out.size)).setCell (p := ⟨w.heap.size, 0, none⟩) (Nat.le_refl _) (.slice none 0 0)).setCell (p := ⟨w.heap.size, 1, none⟩) (Nat.le_refl _) (.slice none 0 0) |>.setCell (p := ⟨w.heap.size, 2, none⟩) (Nat.le_refl _) (.slice none 0 0)
      have HBs := hid (((hBl.set 0 (.slice none 0 0)).set 1 (.slice none 0 0)).set 2 (.slice none 0 0))
      have HbL := hid hbL
      have hq : (E == 0) = false := by simp [h0]
      have H0 := hid h0
      clear hbL hb4 hBl hBr h0
      go_wp2_with fail
      exact bodyPost_ret (ret_load9 rfl rfl rfl (HBs.out.cell 0 rfl) (HBs.out.cell 1 rfl) (HBs.out.cell 2 rfl)) rfl ⟨HbL.out, _, _, _, _, _, _, _, _, _, _, _, rfl, fun ds' hT => by
        obtain rfl := HT.out.one hT
        exact ⟨HE.out, fun h => absurd h H0.out⟩⟩
end Go.Proofs.YtdbgncdnffbhkaaGreatDoor
