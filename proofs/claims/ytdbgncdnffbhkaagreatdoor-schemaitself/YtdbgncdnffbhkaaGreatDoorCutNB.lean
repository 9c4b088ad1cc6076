/- The reference's types, of those that may be: deep, Deep, shape, Shape, typed. -/
import Derived.Test.YtdbgncdnffbhkaaGreatDoorCutNA
import Derived.Test.YtdbgncdnffbhkaaGreatDoorCutPut22
namespace Go.Proofs.YtdbgncdnffbhkaaGreatDoor
open Go.RowKit
set_option maxRecDepth 20000

theorem tyD_pos (t : Pl.Ty) : 1 ≤ Pl.tyD t := by cases t <;> simp only [Pl.tyD] <;> omega

set_option maxHeartbeats 4000000 in
theorem rdeep_none (k : Int) (s : Value) (ad : Option Addr) (cp : Nat) (left : Int) (w : World) : Calls Tryz.prog 163 #[.agg #[.int .i64 k, s, .slice ad 0 cp], .int .i64 left] w fun e w' => e = .returned (.int .i64 1) ∧ Below w.heap.size w w' := by
  have HB := hid (below_alloc w (.cells #[.int .i64 k, s, .slice ad 0 cp] 34))
  go_enter Tryz.func163, Tryz.ntmps163
  go_wp2_with fail
  go_rounds 1
  go_ret
  exact ⟨rfl, HB.out⟩

set_option maxHeartbeats 8000000 in
theorem rdeep_one (k : Int) (hk : k = 6 ∨ k = 7) (s : ByteArray) (g off cp : Nat) (x y z : Value) (left : Int) (h1 : 1 < left) (h2 : left ≤ 1000) (d : Nat) (hd : d ≤ 1000) (w : World) (hg : g < w.heap.size) (c0 : w.cell? ⟨g, off, none⟩ = some x) (c1 : w.cell? ⟨g, off + 1, none⟩ = some y) (c2 : w.cell? ⟨g, off + 2, none⟩ = some z)
    (hrec : ∀ W, Below w.heap.size w W → Calls Tryz.prog 163 #[.agg #[x, y, z], .int .i64 (left - 1)] W fun e w' => e = .returned (.int .i64 (d : Int)) ∧ Below W.heap.size W w') :
    Calls Tryz.prog 163 #[.agg #[.int .i64 k, .string s, .slice (some ⟨g, off, none⟩) 1 cp], .int .i64 left] w fun e w' => e = .returned (.int .i64 (1 + (d : Int))) ∧ Below w.heap.size w w' := by
  obtain ⟨w1, hw1⟩ : ∃ w1, w1 = w.alloc (.cells #[.int .i64 k, .string s, .slice (some ⟨g, off, none⟩) 1 cp] 34) := ⟨_, rfl⟩
  have hb1 : Below w.heap.size w w1 := by rw [hw1]; exact below_alloc w _
  have hB1 : Bx w1 w.heap.size [.int .i64 k, .string s, .slice (some ⟨g, off, none⟩) 1 cp] 34 := by rw [hw1]; exact Bx.new w _ _
  have HR := hid hrec
  have HW1 := hid hw1
  have HB1 := hid hB1
  have Hb1 := hid hb1
  have C0 := hid c0
  have C1 := hid c1
  have C2 := hid c2
  clear hrec hw1 hB1 hb1 c0 c1 c2
  go_enter Tryz.func163, Tryz.ntmps163
  go_wp2_with fail
  rw [← HW1.out]
  go_loopw [5, 6] (fun m i wr => ((m = .int .i64 0 ∧ i = .int .i64 0) ∨ (m = .int .i64 (d : Int) ∧ i = .int .i64 1)) ∧ Below w1.heap.size w1 wr) (fun _ i _ => 2 - (intOf i).toNat)
  case atStart => exact ⟨.inl ⟨rfl, rfl⟩, Below.refl _ _⟩
  case round =>
    obtain ⟨hi, hbw⟩ := hrel
    have hB := HB1.out.below hbw
    have y0 := hB.cell 0 rfl
    have y1 := hB.cell 1 rfl
    have y2 := hB.cell 2 rfl
    have hbn := below_next Hb1.out hbw
    have d0 := (hbn.cell hg).trans C0.out
    have d1 := (hbn.cell hg).trans C1.out
    have d2 := (hbn.cell hg).trans C2.out
    have hgr : g < wr.heap.size := Nat.lt_of_lt_of_le hg hbn.size
    have hr := HR.out wr hbn
    have HBW := hid hbw
    have HBN := hid hbn
    clear hB hbw hbn
    rcases hi with ⟨rfl, rfl⟩ | ⟨rfl, rfl⟩
    · rcases hk with rfl | rfl
      all_goals
        go_wp2_with fail
        refine hr.mono ?_
        rintro e w2 ⟨rfl, hb2⟩
        have HB2 := hid (below_next HBW.out hb2)
        clear hb2
        go_wp2
        exact ⟨⟨.inr ⟨by congr 1, by go_num⟩, HB2.out⟩, by simp [intOf]⟩
    · go_wp2
      go_ret
      exact ⟨rfl, HBN.out⟩

theorem rdeep_any (t : Pl.Ty) : ∀ (left : Nat) (w : World) (a b c : Value), TyG w t a b c → Pl.tyD t ≤ left → left ≤ 1000 →
    Calls Tryz.prog 163 #[.agg #[a, b, c], .int .i64 (left : Int)] w fun e w' => e = .returned (.int .i64 (Pl.tyD t : Int)) ∧ Below w.heap.size w w' := by
  induction t with
  | plain k =>
    rintro left w a b c ⟨rfl, ⟨s, rfl, _⟩, ad, cp, rfl⟩ _ _
    exact rdeep_none _ _ _ _ _ w
  | named x =>
    rintro left w a b c ⟨rfl, ⟨s, rfl, _⟩, ad, cp, rfl⟩ _ _
    exact rdeep_none _ _ _ _ _ w
  | list t ih =>
    rintro left w a b c ⟨rfl, ⟨s, rfl, _⟩, g, off, cp, x, y, z, rfl, h4, h5, h6, h7, h8⟩ hd hl
    simp only [Pl.tyD] at hd ⊢
    have := tyD_pos t
    obtain ⟨l', rfl⟩ : ∃ l', left = l' + 1 := ⟨left - 1, by omega⟩
    refine (rdeep_one 6 (.inl rfl) s g off cp x y z _ (by omega) (by omega) (Pl.tyD t) (by omega) w h4 h5 h6 h7 (fun W hW => ?_)).mono ?_
    · have := ih l' W x y z (TyG.below hW _ _ _ _ h8) (by omega) (by omega)
      rw [show ((l' + 1 : Nat) : Int) - 1 = (l' : Int) by omega]
      exact this
    · rintro e w' ⟨rfl, hb⟩
      exact ⟨by congr 2; omega, hb⟩
  | opt t ih =>
    rintro left w a b c ⟨rfl, ⟨s, rfl, _⟩, g, off, cp, x, y, z, rfl, h4, h5, h6, h7, h8⟩ hd hl
    simp only [Pl.tyD] at hd ⊢
    have := tyD_pos t
    obtain ⟨l', rfl⟩ : ∃ l', left = l' + 1 := ⟨left - 1, by omega⟩
    refine (rdeep_one 7 (.inr rfl) s g off cp x y z _ (by omega) (by omega) (Pl.tyD t) (by omega) w h4 h5 h6 h7 (fun W hW => ?_)).mono ?_
    · have := ih l' W x y z (TyG.below hW _ _ _ _ h8) (by omega) (by omega)
      rw [show ((l' + 1 : Nat) : Int) - 1 = (l' : Int) by omega]
      exact this
    · rintro e w' ⟨rfl, hb⟩
      exact ⟨by congr 2; omega, hb⟩

set_option maxHeartbeats 4000000 in
theorem rshape_plain (k : Nat) (hk : 1 ≤ k ∧ k ≤ 5) (ad : Option Addr) (cp : Nat) (w : World) : Calls Tryz.prog 137 #[.agg #[.int .i64 (k : Int), .string ⟨#[]⟩, .slice ad 0 cp]] w fun e w' => e = .returned (.int .i64 0) ∧ Below w.heap.size w w' := by
  have HB := hid (below_alloc w (.cells #[.int .i64 (k : Int), .string ⟨#[]⟩, .slice ad 0 cp] 34))
  have q1 : ¬ ((k : Int) < 1) := by omega
  have q2 : ¬ ((8 : Int) < (k : Int)) := by omega
  have q3 : ((k : Int) == 8) = false := by simp; omega
  have q4 : ((k : Int) == 6) = false := by simp; omega
  have q5 : ((k : Int) == 7) = false := by simp; omega
  clear hk
  go_enter Tryz.func137, Tryz.ntmps137
  go_wp2
  go_ret
  exact ⟨rfl, HB.out⟩

set_option maxHeartbeats 4000000 in
theorem rshape_named (x : ByteArray) (h : Pl.okName (bl x)) (ad : Option Addr) (cp : Nat) (w : World) : Calls Tryz.prog 137 #[.agg #[.int .i64 8, .string x, .slice ad 0 cp]] w fun e w' => e = .returned (.int .i64 0) ∧ Below w.heap.size w w' := by
  obtain ⟨w1, hw1⟩ : ∃ w1, w1 = w.alloc (.cells #[.int .i64 8, .string x, .slice ad 0 cp] 34) := ⟨_, rfl⟩
  have hb1 : Below w.heap.size w w1 := by rw [hw1]; exact below_alloc w _
  have hB1 : Bx w1 w.heap.size [.int .i64 8, .string x, .slice ad 0 cp] 34 := by rw [hw1]; exact Bx.new w _ _
  have hne : ¬ x.toList = [] := by
    intro e
    have h2 : x = ⟨#[]⟩ := toList_inj (e.trans (by rw [ByteArray.toList_eq]))
    subst h2
    rcases h.1 with ⟨h1, _⟩ | ⟨h1, _⟩
    · simp at h1
    · exact h1 rfl
  have hem : x.toList.isEmpty = false := by
    cases hx : x.toList with
    | nil => exact absurd hx hne
    | cons a r => rfl
  have hnm := rname_ok x h w1
  have HNM := hid hnm
  have HW1 := hid hw1
  have Hb1 := hid hb1
  have HB1 := hid hB1
  have y0 := hB1.cell 0 rfl
  have y1 := hB1.cell 1 rfl
  have y2 := hB1.cell 2 rfl
  clear hnm hw1 hb1 hB1 h
  go_enter Tryz.func137, Tryz.ntmps137
  go_wp2_with fail
  rw [← HW1.out]
  go_wp2_with fail
  refine HNM.out.mono ?_
  rintro e w2 ⟨rfl, hb2⟩
  have hB2 := HB1.out.below hb2
  have z0 := hB2.cell 0 rfl
  have z1 := hB2.cell 1 rfl
  have z2 := hB2.cell 2 rfl
  have HB2 := hid (below_next Hb1.out hb2)
  clear hB2 hb2 y0 y1 y2
  go_wp2
  go_ret
  exact ⟨rfl, HB2.out⟩

set_option maxHeartbeats 8000000 in
theorem rshape_one (k : Int) (hk : k = 6 ∨ k = 7) (g off cp : Nat) (x y z : Value) (w : World) (hg : g < w.heap.size) (c0 : w.cell? ⟨g, off, none⟩ = some x) (c1 : w.cell? ⟨g, off + 1, none⟩ = some y) (c2 : w.cell? ⟨g, off + 2, none⟩ = some z)
    (hrec : ∀ W, Below w.heap.size w W → Calls Tryz.prog 137 #[.agg #[x, y, z]] W fun e w' => e = .returned (.int .i64 0) ∧ Below W.heap.size W w') :
    Calls Tryz.prog 137 #[.agg #[.int .i64 k, .string ⟨#[]⟩, .slice (some ⟨g, off, none⟩) 1 cp]] w fun e w' => e = .returned (.int .i64 0) ∧ Below w.heap.size w w' := by
  have hb1 := below_alloc w (.cells #[.int .i64 k, .string ⟨#[]⟩, .slice (some ⟨g, off, none⟩) 1 cp] 34)
  have d0 := (hb1.cell hg).trans c0
  have d1 := (hb1.cell hg).trans c1
  have d2 := (hb1.cell hg).trans c2
  have hgr : g < (w.alloc (.cells #[.int .i64 k, .string ⟨#[]⟩, .slice (some ⟨g, off, none⟩) 1 cp] 34)).heap.size := Nat.lt_of_lt_of_le hg hb1.size
  have hr := hrec _ hb1
  have Hb1 := hid hb1
  clear hrec hb1 c0 c1 c2
  rcases hk with rfl | rfl
  all_goals
    go_enter Tryz.func137, Tryz.ntmps137
    go_wp2_with fail
    refine hr.mono ?_
    rintro e w2 ⟨rfl, hb2⟩
    have HB2 := hid (below_next Hb1.out hb2)
    clear hb2
    go_wp2
    go_ret
    exact ⟨rfl, HB2.out⟩

theorem ba_empty {s : ByteArray} (h : bl s = []) : s = ⟨#[]⟩ := bl_inj (h.trans rfl)
theorem rshape_ok (t : Pl.Ty) : ∀ (w : World) (a b c : Value), TyG w t a b c → Pl.okTy t →
    Calls Tryz.prog 137 #[.agg #[a, b, c]] w fun e w' => e = .returned (.int .i64 0) ∧ Below w.heap.size w w' := by
  induction t with
  | plain k =>
    rintro w a b c ⟨rfl, ⟨s, rfl, hs⟩, ad, cp, rfl⟩ hok
    rw [ba_empty hs]
    exact rshape_plain k hok ad cp w
  | named x =>
    rintro w a b c ⟨rfl, ⟨s, rfl, hs⟩, ad, cp, rfl⟩ hok
    exact rshape_named s (by rw [hs]; exact hok) ad cp w
  | list t ih =>
    rintro w a b c ⟨rfl, ⟨s, rfl, hs⟩, g, off, cp, x, y, z, rfl, h4, h5, h6, h7, h8⟩ hok
    rw [ba_empty hs]
    exact rshape_one 6 (.inl rfl) g off cp x y z w h4 h5 h6 h7 fun W hW => ih W x y z (TyG.below hW _ _ _ _ h8) hok
  | opt t ih =>
    rintro w a b c ⟨rfl, ⟨s, rfl, hs⟩, g, off, cp, x, y, z, rfl, h4, h5, h6, h7, h8⟩ hok
    rw [ba_empty hs]
    exact rshape_one 7 (.inr rfl) g off cp x y z w h4 h5 h6 h7 fun W hW => ih W x y z (TyG.below hW _ _ _ _ h8) hok

set_option maxHeartbeats 4000000 in
theorem rDeep_any (t : Pl.Ty) (ht : Pl.tyD t ≤ 8) (w : World) (a b c : Value) (h : TyG w t a b c) : Calls Tryz.prog 136 #[.agg #[a, b, c]] w fun e w' => e = .returned (.int .i64 (Pl.tyD t : Int)) ∧ Below w.heap.size w w' := by
  have hb1 := below_alloc w (.cells #[a, b, c] 34)
  have hd := rdeep_any t 100 _ a b c (TyG.below hb1 _ _ _ _ h) (by omega) (by omega)
  obtain ⟨k, s, ad, m, cp, rfl, rfl, rfl⟩ := h.shape
  have Hb1 := hid hb1
  clear hb1 h
  generalize Pl.tyD t = D at *
  go_enter Tryz.func136, Tryz.ntmps136
  go_wp2_with fail
  refine hd.mono ?_
  rintro e w2 ⟨rfl, hb2⟩
  have HB2 := hid (below_next Hb1.out hb2)
  clear hb2
  go_wp2
  go_ret
  exact ⟨rfl, HB2.out⟩

set_option maxHeartbeats 4000000 in
theorem rShape_ok (t : Pl.Ty) (ht : Pl.tyD t ≤ 8) (hok : Pl.okTy t) (w : World) (a b c : Value) (h : TyG w t a b c) : Calls Tryz.prog 91 #[.agg #[a, b, c]] w fun e w' => e = .returned (.int .i64 0) ∧ Below w.heap.size w w' := by
  obtain ⟨w1, hw1⟩ : ∃ w1, w1 = w.alloc (.cells #[a, b, c] 34) := ⟨_, rfl⟩
  have hb1 : Below w.heap.size w w1 := by rw [hw1]; exact below_alloc w _
  have hB1 : Bx w1 w.heap.size [a, b, c] 34 := by rw [hw1]; exact Bx.new w _ _
  have hd := rDeep_any t ht w1 a b c (TyG.below hb1 _ _ _ _ h)
  have hs := fun W (hW : Below w.heap.size w W) => rshape_ok t W a b c (TyG.below hW _ _ _ _ h) hok
  obtain ⟨k, s, ad, m, cp, rfl, rfl, rfl⟩ := h.shape
  have HW1 := hid hw1
  have Hb1 := hid hb1
  have HB1 := hid hB1
  have HD := hid hd
  have HS := hid hs
  clear hb1 h hB1 hw1 hd hs hok
  generalize Pl.tyD t = D at *
  have hD : ¬ (8 : Int) < (D : Int) := by omega
  go_enter Tryz.func91, Tryz.ntmps91
  go_wp2_with fail
  rw [← HW1.out]
  refine HD.out.mono ?_
  rintro e w2 ⟨rfl, hb2⟩
  have hB2 := HB1.out.below hb2
  have y0 := hB2.cell 0 rfl
  have y1 := hB2.cell 1 rfl
  have y2 := hB2.cell 2 rfl
  have hbn := below_next Hb1.out hb2
  have hs2 := HS.out w2 hbn
  have HBN := hid hbn
  clear hb2 hB2 hbn
  go_wp2_with fail
  refine hs2.mono ?_
  rintro e w3 ⟨rfl, hb3⟩
  have HB3 := hid (below_next HBN.out hb3)
  clear hb3
  go_wp2
  go_ret
  exact ⟨rfl, HB3.out⟩

set_option maxHeartbeats 4000000 in
theorem rtyped_plain (k : Nat) (hk : 1 ≤ k ∧ k ≤ 5) (x : ByteArray) (ad : Option Addr) (m cp : Nat) (w : World) : Calls Tryz.prog 92 #[.agg #[.int .i64 (k : Int), .string x, .slice ad m cp]] w fun e w' => ∃ s, e = .returned (.string s) ∧ bl s = Pl.plainW k ∧ Below w.heap.size w w' := by
  have h1 : k = 1 ∨ k = 2 ∨ k = 3 ∨ k = 4 ∨ k = 5 := by omega
  have HB := hid (below_next (below_alloc w (.cells #[.int .i64 (k : Int), .string x, .slice ad m cp] 34)) (below_alloc _ (.cells #[.string ⟨#[98, 111, 111, 108]⟩, .string ⟨#[105, 110, 116]⟩, .string ⟨#[117, 105, 110, 116]⟩, .string ⟨#[116, 101, 120, 116]⟩, .string ⟨#[98, 121, 116, 101, 115]⟩] 9)))
  clear hk
  rcases h1 with rfl | rfl | rfl | rfl | rfl <;>
  · go_enter Tryz.func92, Tryz.ntmps92
    go_wp2
    go_ret
    exact ⟨_, rfl, by decide, HB.out⟩

set_option maxHeartbeats 4000000 in
theorem rtyped_any (t : Pl.Ty) : ∀ (w : World) (k s o : Value), TyG w t k s o → Pl.tyD t ≤ 20 → Pl.okTy t →
    Calls Tryz.prog 92 #[.agg #[k, s, o]] w fun e w' => ∃ x, e = .returned (.string x) ∧ bl x = Pl.tyX t ∧ Below w.heap.size w w' := by
  induction t with
  | plain q =>
    rintro w k s o ⟨rfl, ⟨x, rfl, _⟩, ad, cp, rfl⟩ h20 hok
    exact rtyped_plain q hok x ad 0 cp w
  | named y =>
    rintro w k s o ⟨rfl, ⟨x, rfl, hx⟩, ad, cp, rfl⟩ h20 hok
    have hbw := below_alloc w (.cells #[.int .i64 8, .string x, .slice ad 0 cp] 34)
    have HX := hid hx
    clear hx
    go_enter Tryz.func92, Tryz.ntmps92
    go_wp2
    go_ret
    exact ⟨x, rfl, HX.out, hbw⟩
  | list t ih =>
    rintro w k s o ⟨rfl, ⟨x, rfl, _⟩, blk, off, cp, k', s', o', rfl, hBs, q3, q4, q5, hly⟩ h20 hok
    simp only [Pl.tyD] at h20
    have hbw := below_alloc w (.cells #[.int .i64 6, .string x, .slice (some ⟨blk, off, none⟩) 1 cp] 34)
    have hI := ih _ k' s' o' (TyG.below hbw _ _ _ _ hly) (by omega) hok
    have hsz := Pl.ty_len t hok
    have c0 := (hbw.cell hBs).trans q3
    have c1 := (hbw.cell hBs).trans q4
    have c2 := (hbw.cell hBs).trans q5
    have hb1' : blk < (w.alloc (.cells #[.int .i64 6, .string x, .slice (some ⟨blk, off, none⟩) 1 cp] 34)).heap.size := Nat.lt_of_lt_of_le hBs hbw.size
    clear hly q3 q4 q5 ih
    rw [Pl.tyX]
    generalize Pl.tyX t = X at *
    go_enter Tryz.func92, Tryz.ntmps92
    go_wp2_with fail
    refine hI.mono ?_
    rintro e w2 ⟨y, rfl, rfl, hb2⟩
    rw [bl_length] at hsz
    have HW := hid (below_next hbw hb2)
    go_wp2
    go_ret
    refine ⟨_, rfl, ?_, HW.out⟩
    rw [bl_append, bl_append]
    rfl
  | opt t ih =>
    rintro w k s o ⟨rfl, ⟨x, rfl, _⟩, blk, off, cp, k', s', o', rfl, hBs, q3, q4, q5, hly⟩ h20 hok
    simp only [Pl.tyD] at h20
    have hbw := below_alloc w (.cells #[.int .i64 7, .string x, .slice (some ⟨blk, off, none⟩) 1 cp] 34)
    have hI := ih _ k' s' o' (TyG.below hbw _ _ _ _ hly) (by omega) hok
    have hsz := Pl.ty_len t hok
    have c0 := (hbw.cell hBs).trans q3
    have c1 := (hbw.cell hBs).trans q4
    have c2 := (hbw.cell hBs).trans q5
    have hb1' : blk < (w.alloc (.cells #[.int .i64 7, .string x, .slice (some ⟨blk, off, none⟩) 1 cp] 34)).heap.size := Nat.lt_of_lt_of_le hBs hbw.size
    clear hly q3 q4 q5 ih
    rw [Pl.tyX]
    generalize Pl.tyX t = X at *
    go_enter Tryz.func92, Tryz.ntmps92
    go_wp2_with fail
    refine hI.mono ?_
    rintro e w2 ⟨y, rfl, rfl, hb2⟩
    rw [bl_length] at hsz
    have HW := hid (below_next hbw hb2)
    go_wp2
    go_ret
    refine ⟨_, rfl, ?_, HW.out⟩
    rw [bl_append]
    rfl
end Go.Proofs.YtdbgncdnffbhkaaGreatDoor
