/- The reference's Load, and the law's Of, of a text that declares one struct of plain fields. -/
import Derived.Test.YtmiohekmpjiloaaGreatDoorCutPut27
import Derived.Test.YtmiohekmpjiloaaGreatDoorCutPut23
namespace Go.Proofs.YtmiohekmpjiloaaGreatDoor
open Go.RowKit
set_option maxRecDepth 20000

theorem ret_rload {W : World} {tmps : Array Value} {b : Nat} {x y z p q : Value} (ht : tmps.getD 2 undef = .pointer (some ⟨b, 0, none⟩)) (h3 : tmps.getD 3 undef = p) (h4 : tmps.getD 4 undef = q) (h0 : W.cell? ⟨b, 0, none⟩ = some x) (h1 : W.cell? ⟨b, 1, none⟩ = some y) (h2 : W.cell? ⟨b, 2, none⟩ = some z) :
    (results Tryz.f68 tmps).run Tryz.prog W = .ok (.tuple #[.agg #[x, y, z], p, q]) W := by
  have ht' : tmps[2]?.getD undef = .pointer (some ⟨b, 0, none⟩) := by rw [← Array.getD_eq_getD_getElem?]; exact ht
  have h3' : tmps[3]?.getD undef = p := by rw [← Array.getD_eq_getD_getElem?]; exact h3
  have h4' : tmps[4]?.getD undef = q := by rw [← Array.getD_eq_getD_getElem?]; exact h4
  simp [results, Tryz.results68]
  go_simp
theorem ret_rof {W : World} {tmps : Array Value} {b : Nat} {x y z p : Value} (ht : tmps.getD 2 undef = .pointer (some ⟨b, 0, none⟩)) (h3 : tmps.getD 3 undef = p) (h0 : W.cell? ⟨b, 0, none⟩ = some x) (h1 : W.cell? ⟨b, 1, none⟩ = some y) (h2 : W.cell? ⟨b, 2, none⟩ = some z) :
    (results Tryz.f42 tmps).run Tryz.prog W = .ok (.tuple #[.agg #[x, y, z], p]) W := by
  have ht' : tmps[2]?.getD undef = .pointer (some ⟨b, 0, none⟩) := by rw [← Array.getD_eq_getD_getElem?]; exact ht
  have h3' : tmps[3]?.getD undef = p := by rw [← Array.getD_eq_getD_getElem?]; exact h3
  simp [results, Tryz.results42]
  go_simp

/-- A text that declares one struct of plain fields, which may be. -/
structure OneT (t : ByteArray) (x : List Nat × List Pl.Fld) : Prop where
  ok : Pl.okDecl (Pl.mkSt x)
  t0 : (tokA t).2.2 = 0
  t1 : (tokA t).1.map Pl.kt = Pl.declK (Pl.mkSt x)
  t2 : (Pl.declK (Pl.mkSt x)).length ≤ 70000
  good : FGood (knP (fnd [x] [] [])) x.2
  flat : ∀ f ∈ x.2, Pl.okFld f ∧ flatT f.ty
  len : x.2.length ≤ 32

theorem one_in {x : List Nat × List Pl.Fld} (h : Pl.okDecl (Pl.mkSt x)) : ∀ d ∈ Pl.inOrder [x] [] [], Pl.okDecl d := fun d hd => by simp [Pl.inOrder] at hd; rw [hd]; exact h
theorem one_sch {B n : Nat} {x : List Nat × List Pl.Fld} {s1 : Value} {w : World} (h : Pl.okDecl (Pl.mkSt x)) (hR : Rows 59 2 (SctR B) B w s1 [x]) : SchL w.heap.size n ([x].map Pl.embSt) (([] : List (List Nat × List Pl.Cas)).map Pl.embEn) (([] : List (List Nat × List Pl.Mth)).map Pl.embSv) s1 (.slice none 0 0) (.slice none 0 0) w :=
  SchV.sch (ds := [Pl.mkSt x]) ⟨hR, Rows.nil _ _ _ _ _, Rows.nil _ _ _ _ _⟩ n (one_in h) (show 1 + 0 + 0 ≤ 64 by omega)

set_option maxHeartbeats 8000000 in
theorem rLoad_one (t : ByteArray) (x : List Nat × List Pl.Fld) (h : OneT t x) (w : World) :
    Calls Tryz.prog 68 #[.string t] w fun e w' => ∃ s1, e = .returned (.tuple #[.agg #[s1, .slice none 0 0, .slice none 0 0], .int .i64 0, .int .i64 0]) ∧ Rows 59 2 (SctR w.heap.size) w.heap.size w' s1 [x] ∧ Below w.heap.size w w' := by
  obtain ⟨w1, hw1⟩ : ∃ w1, w1 = w.alloc (.cells #[.slice none 0 0, .slice none 0 0, .slice none 0 0] 26) := ⟨_, rfl⟩
  have hb1 : Below w.heap.size w w1 := by rw [hw1]; exact below_alloc w _
  have hB1 : Bx w1 w.heap.size [.slice none 0 0, .slice none 0 0, .slice none 0 0] 26 := by rw [hw1]; exact Bx.new w _ _
  have HT := hid (rText_structs t [x] (by simp) (fun y hy => by simp at hy; rw [hy]; exact h.ok) h.t0 (by simpa using h.t1) (by simpa using h.t2) w1)
  have HW1 := hid hw1
  have Hb1 := hid hb1
  have HB1 := hid hB1
  have HH := hid h
  clear hw1 hb1 hB1 h
  go_enter Tryz.func68, Tryz.ntmps68
  go_wp2_with fail
  rw [← HW1.out]
  refine HT.out.mono ?_
  rintro e w2 ⟨s1, rfl, hR2, hb2⟩
  obtain ⟨as1, cs1, rfl⟩ := hR2.shape
  simp only [List.length_cons, List.length_nil, Nat.zero_add] at *
  have hba := below_alloc w2 (.cells #[.slice as1 1 cs1, .slice none 0 0, .slice none 0 0] 26)
  have hcF : Ch (fun _ _ => False) w2 _ := Ch.below hba
  have hR3 := hR2.ch hcF (fun a c hh => sct_ch hcF (fun _ hx => hx) (fun _ hx => hx) a c hh) (fun _ _ hx => hx)
  have hsz : w1.heap.size ≤ w2.heap.size := hb2.size
  have HCK := hid (rCheck_one x HH.out.ok HH.out.good HH.out.flat HH.out.len _ _ _ _ (SchL.g (n := 99) (Nat.le_refl _) (by omega) (one_sch HH.out.ok hR3) (one_in HH.out.ok)))
  have HR3 := hid hR3
  have HBA := hid hba
  have HB2 := hid hb2
  clear hR2 hR3 hba hb2 HT hcF
  go_wp2_with fail
  refine HCK.out.mono ?_
  rintro e w4 ⟨rfl, hb4⟩
  have hbx5 : Bx w4 w2.heap.size [.slice as1 1 cs1, .slice none 0 0, .slice none 0 0] 26 := (Bx.new w2 _ _).below hb4
  have hBS := ((HB1.out.below HB2.out).below HBA.out).below hb4
  have z0 := hbx5.cell 0 rfl
  have z1 := hbx5.cell 1 rfl
  have z2 := hbx5.cell 2 rfl
  have x0 := hBS.cell 0 rfl
  have x1 := hBS.cell 1 rfl
  have x2 := hBS.cell 2 rfl
  have xf := hBS.frozen
  have hcF : Ch (fun _ _ => False) (w2.alloc (.cells #[.slice as1 1 cs1, .slice none 0 0, .slice none 0 0] 26)) w4 := Ch.below hb4
  have hR4 := HR3.out.ch hcF (fun a c hh => sct_ch hcF (fun _ hx => hx) (fun _ hx => hx) a c hh) (fun _ _ hx => hx)
  have hlt1 : w.heap.size < w1.heap.size := HB1.out.lt
  have HS := hid (((hBS.set 0 (.slice as1 1 cs1)).set 1 (.slice none 0 0)).set 2 (.slice none 0 0))
  have hcS : Ch (fun g T => g = w.heap.size ∧ T = 26) w4 (((w4.setCell ⟨w.heap.size, 0, none⟩ (.slice as1 1 cs1)).setCell ⟨w.heap.size, 1, none⟩ (.slice none 0 0)).setCell ⟨w.heap.size, 2, none⟩ (.slice none 0 0)) :=
    ((Ch.set hBS ⟨rfl, rfl⟩ _).trans (Ch.set (hBS.set 0 _) ⟨rfl, rfl⟩ _)).trans (Ch.set ((hBS.set 0 _).set 1 _) ⟨rfl, rfl⟩ _)
  have hsz1 : w.heap.size ≤ w1.heap.size := Nat.le_of_lt hlt1
  have HRS := hid ((hR4.ch hcS (fun a c hh => sct_ch hcS (fun g hx => by have := hx.2; revert this; decide) (fun g hx => by have := hx.2; revert this; decide) a c hh) (fun g _ hx => by have := hx.2; revert this; decide)).mono hsz1 (fun a c hh => sct_mono hsz1 a c hh))
  have HBF := hid (((below_next (below_next (below_next Hb1.out HB2.out) HBA.out) hb4).setCell (p := ⟨w.heap.size, 0, none⟩) (Nat.le_refl _) (.slice as1 1 cs1)).setCell (p := ⟨w.heap.size, 1, none⟩) (Nat.le_refl _) (.slice none 0 0) |>.setCell (p := ⟨w.heap.size, 2, none⟩) (Nat.le_refl _) (.slice none 0 0))
  clear hBS hcS hR4 hcF hb4 hbx5
  go_wp2_with fail
  exact bodyPost_ret (ret_rload rfl rfl rfl (HS.out.cell 0 rfl) (HS.out.cell 1 rfl) (HS.out.cell 2 rfl)) rfl ⟨_, rfl, HRS.out, HBF.out⟩

set_option maxHeartbeats 8000000 in
theorem rOf_one (t : ByteArray) (x : List Nat × List Pl.Fld) (h : OneT t x) (w : World) :
    Calls Tryz.prog 42 #[.string t] w fun e w' => ∃ s1, e = .returned (.tuple #[.agg #[s1, .slice none 0 0, .slice none 0 0], .bool true]) ∧ Rows 59 2 (SctR w.heap.size) w.heap.size w' s1 [x] ∧ Below w.heap.size w w' := by
  obtain ⟨w1, hw1⟩ : ∃ w1, w1 = w.alloc (.cells #[.slice none 0 0, .slice none 0 0, .slice none 0 0] 26) := ⟨_, rfl⟩
  have hb1 : Below w.heap.size w w1 := by rw [hw1]; exact below_alloc w _
  have hB1 : Bx w1 w.heap.size [.slice none 0 0, .slice none 0 0, .slice none 0 0] 26 := by rw [hw1]; exact Bx.new w _ _
  have HT := hid (rLoad_one t x h w1)
  have HW1 := hid hw1
  have Hb1 := hid hb1
  have HB1 := hid hB1
  clear hw1 hb1 hB1 h
  go_enter Tryz.func42, Tryz.ntmps42
  go_wp2_with fail
  rw [← HW1.out]
  refine HT.out.mono ?_
  rintro e w2 ⟨s1, rfl, hR2, hb2⟩
  obtain ⟨as1, cs1, rfl⟩ := hR2.shape
  simp only [List.length_cons, List.length_nil, Nat.zero_add] at *
  have hba := below_alloc w2 (.cells #[.slice as1 1 cs1, .slice none 0 0, .slice none 0 0] 26)
  obtain ⟨w4, hw4⟩ : ∃ w4, w4 = w2.alloc (.cells #[.slice as1 1 cs1, .slice none 0 0, .slice none 0 0] 26) := ⟨_, rfl⟩
  rw [← hw4] at hba
  have hcF : Ch (fun _ _ => False) w2 w4 := Ch.below hba
  have hR4 := hR2.ch hcF (fun a c hh => sct_ch hcF (fun _ hx => hx) (fun _ hx => hx) a c hh) (fun _ _ hx => hx)
  have hbx5 : Bx w4 w2.heap.size [.slice as1 1 cs1, .slice none 0 0, .slice none 0 0] 26 := by rw [hw4]; exact Bx.new w2 _ _
  have hBS := (HB1.out.below hb2).below hba
  have z0 := hbx5.cell 0 rfl
  have z1 := hbx5.cell 1 rfl
  have z2 := hbx5.cell 2 rfl
  have x0 := hBS.cell 0 rfl
  have x1 := hBS.cell 1 rfl
  have x2 := hBS.cell 2 rfl
  have xf := hBS.frozen
  have hlt1 : w.heap.size < w1.heap.size := HB1.out.lt
  have HS := hid (((hBS.set 0 (.slice as1 1 cs1)).set 1 (.slice none 0 0)).set 2 (.slice none 0 0))
  have hcS : Ch (fun g T => g = w.heap.size ∧ T = 26) w4 (((w4.setCell ⟨w.heap.size, 0, none⟩ (.slice as1 1 cs1)).setCell ⟨w.heap.size, 1, none⟩ (.slice none 0 0)).setCell ⟨w.heap.size, 2, none⟩ (.slice none 0 0)) :=
    ((Ch.set hBS ⟨rfl, rfl⟩ _).trans (Ch.set (hBS.set 0 _) ⟨rfl, rfl⟩ _)).trans (Ch.set ((hBS.set 0 _).set 1 _) ⟨rfl, rfl⟩ _)
  have hsz1 : w.heap.size ≤ w1.heap.size := Nat.le_of_lt hlt1
  have HRS := hid ((hR4.ch hcS (fun a c hh => sct_ch hcS (fun g hx => by have := hx.2; revert this; decide) (fun g hx => by have := hx.2; revert this; decide) a c hh) (fun g _ hx => by have := hx.2; revert this; decide)).mono hsz1 (fun a c hh => sct_mono hsz1 a c hh))
  have HBF := hid (((below_next (below_next Hb1.out hb2) hba).setCell (p := ⟨w.heap.size, 0, none⟩) (Nat.le_refl _) (.slice as1 1 cs1)).setCell (p := ⟨w.heap.size, 1, none⟩) (Nat.le_refl _) (.slice none 0 0) |>.setCell (p := ⟨w.heap.size, 2, none⟩) (Nat.le_refl _) (.slice none 0 0))
  clear hBS hcS hR4 hcF hb2 hba hbx5 hR2 HT
  subst hw4
  go_wp2_with fail
  exact bodyPost_ret (ret_rof rfl rfl (HS.out.cell 0 rfl) (HS.out.cell 1 rfl) (HS.out.cell 2 rfl)) rfl ⟨_, rfl, HRS.out, HBF.out⟩
end Go.Proofs.YtmiohekmpjiloaaGreatDoor

