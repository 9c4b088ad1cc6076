/- The standard value of a struct. The standard value of any type. value: Default of any schema and any type. value: Is, of a type's standard value. ValueDefault: the walk. -/
import Derived.Test.YtmiohekmpjiloaaGreatDoorCutPut34
import Derived.Deep.RegionLaw
import Derived.Deep.AppendLies
import Derived.Test.YtmiohekmpjiloaaGreatDoorCutPut29
import Derived.Test.YtmiohekmpjiloaaGreatDoorCutPut33
import Derived.Test.YtmiohekmpjiloaaGreatDoorCutPut31
namespace Go.Proofs.YtmiohekmpjiloaaGreatDoor
open Go.RowKit
set_option maxRecDepth 20000

/-- The loop over a struct's fields. -/
structure StdG (b : Nat) (M : Nat) (gs : List Pl.GV) (w6 : World) (i : Value) (wr : World) : Prop where
  all : ∃ (k : Nat) (ad : Option Addr) (cp : Nat), k ≤ M ∧ i = .int .i64 k ∧ Bx wr b [.int .i64 0, .int .u64 0, .string ⟨#[]⟩, .slice ad k cp] 33 ∧ Rows 33 4 (RG w6.heap.size (Value.slice ad k cp).ownBlock) w6.heap.size wr (.slice ad k cp) (gs.take k) ∧ Ch (Xo b) w6 wr

set_option maxHeartbeats 16000000 in
theorem std_str (G : Pl.Fld → Pl.GV) (st : List (List Nat × List Pl.Fld)) (en : List (List Nat × List Pl.Cas)) (sv : List (List Nat × List Pl.Mth)) (hl : st.length ≤ 1000 ∧ en.length ≤ 1000 ∧ sv.length ≤ 1000) (s1 s2 s3 : Value) (x : ByteArray) (i : Nat) (a : List Nat × List Pl.Fld) (hi : st[i]? = some a) (hf : fnd st en sv (bl x) = (1, (i : Int)))
    (hfl : ∀ f ∈ a.2, ∀ (k : Int) (s : ByteArray) (ad : Option Addr) (m c : Nat) (W : World), SchG st en sv s1 s2 s3 W → TyG W f.ty (.int .i64 k) (.string s) (.slice ad m c) → Calls Tryz.prog 30 #[.agg #[s1, s2, s3], .agg #[.int .i64 k, .string s, .slice ad m c]] W fun e w' => ∃ o, e = .returned (.agg #[.int .i64 (G f).i, .int .u64 (G f).u, .string (G f).t, o]) ∧ (∀ N, VyP (fun b => W.heap.size ≤ b ∧ b < w'.heap.size) N (G f).l w' o) ∧ Below W.heap.size W w')
    (hm : a.2.length ≤ 32) (ao : Option Addr) (mo co : Nat) (w : World) (hS : SchG st en sv s1 s2 s3 w) :
    Calls Tryz.prog 30 #[.agg #[s1, s2, s3], .agg #[.int .i64 8, .string x, .slice ao mo co]] w fun e w' => ∃ o, e = .returned (.agg #[.int .i64 0, .int .u64 0, .string ⟨#[]⟩, o]) ∧ (∀ N, VyP (fun b => w.heap.size ≤ b ∧ b < w'.heap.size) N (a.2.map G) w' o) ∧ Below w.heap.size w w' := by
  obtain ⟨a1, c1, a2, c2, a3, c3, rfl, rfl, rfl⟩ := hS.shape
  obtain ⟨w4, hw4⟩ : ∃ w4, w4 = (((w.alloc (.cells #[.slice a1 st.length c1, .slice a2 en.length c2, .slice a3 sv.length c3] 65)).alloc (.cells #[.int .i64 8, .string x, .slice ao mo co] 29)).alloc (.cells #[.int .i64 0, .int .u64 0, .string ⟨#[]⟩, .slice none 0 0] 33)).alloc (.cells #[.int .i64 0, .int .u64 0, .string ⟨#[]⟩, .slice none 0 0] 33) := ⟨_, rfl⟩
  have hb1 := below_alloc w (.cells #[.slice a1 st.length c1, .slice a2 en.length c2, .slice a3 sv.length c3] 65)
  have hb2 := below_next hb1 (below_alloc _ (.cells #[.int .i64 8, .string x, .slice ao mo co] 29))
  have hb3 := below_next hb2 (below_alloc _ (.cells #[.int .i64 0, .int .u64 0, .string ⟨#[]⟩, .slice none 0 0] 33))
  have hb4 := below_next hb3 (below_alloc _ (.cells #[.int .i64 0, .int .u64 0, .string ⟨#[]⟩, .slice none 0 0] 33))
  have hB1 : Bx w4 w.heap.size [.slice a1 st.length c1, .slice a2 en.length c2, .slice a3 sv.length c3] 65 := by rw [hw4]; exact (((Bx.new w _ _).below (below_alloc _ _)).below (below_alloc _ _)).below (below_alloc _ _)
  have hB3 : Bx w4 (w.heap.size + 1 + 1) [.int .i64 0, .int .u64 0, .string ⟨#[]⟩, .slice none 0 0] 33 := by rw [hw4]; exact (Bx.newAt (by simp) _ _).below (below_alloc _ _)
  have hB4 : Bx w4 (w.heap.size + 1 + 1 + 1) [.int .i64 0, .int .u64 0, .string ⟨#[]⟩, .slice none 0 0] 33 := by rw [hw4]; exact Bx.newAt (by simp) _ _
  rw [← hw4] at hb4
  have HM := hid (mean_named st en sv hl _ _ _ x ao mo co w4 (hS.below hb4))
  have HB1 := hid hB1
  have HB3 := hid hB3
  have HB4 := hid hB4
  have HB := hid hb4
  have HW4 := hid hw4
  have HFL := hid hfl
  have HSCH := hid hS
  have HF := hid hf
  have HI := hid hi
  obtain ⟨M, hM⟩ : ∃ M, M = a.2.length := ⟨_, rfl⟩
  rw [← hM] at hm
  have HMM := hid hM
  clear hb1 hb2 hb3 hb4 hB1 hB3 hB4 hw4 hfl hf hi hS hl
  generalize st.length = l1 at *
  generalize en.length = l2 at *
  generalize sv.length = l3 at *
  clear hM
  go_enter Tryz.func30, Tryz.ntmps30
  go_wp2_with fail
  rw [← HW4.out]
  refine HM.out.mono ?_
  rintro e w5 ⟨k, f, c, rfl, hmn, hb5⟩
  unfold MeanN at hmn
  rw [if_pos (by rw [HF.out])] at hmn
  obtain ⟨i', a', hi', _, hfi, rfl, rfl, hr⟩ := hmn
  rw [HF.out] at hfi
  obtain rfl : i = i' := by simp only at hfi; omega
  rw [HI.out] at hi'
  cases hi'
  obtain ⟨af, cf, rfl⟩ := hr.shape
  rw [← HMM.out] at hr ⊢
  obtain ⟨w6, hw6⟩ : ∃ w6, w6 = w5.alloc (.cells #[.int .i64 9, .string x, .slice ao mo co, .slice af M cf, .slice none 0 0] 97) := ⟨_, rfl⟩
  obtain ⟨bv, hbv⟩ : ∃ b, b = w.heap.size + 1 + 1 + 1 := ⟨_, rfl⟩
  have hb56 : Below w5.heap.size w5 w6 := by rw [hw6]; exact below_alloc w5 _
  have hb6 := below_next hb5 hb56
  have HRW := hid (hr.below hb56 (fun _ _ h => FldG.below hb56 _ _ h))
  have HX4 : Hid (Bx w6 bv [.int .i64 0, .int .u64 0, .string ⟨#[]⟩, .slice none 0 0] 33) := by rw [hbv]; exact HB4.out.below hb6
  have HX3 := hid (HB3.out.below hb6)
  have HX1 := hid (HB1.out.below hb6)
  have HB6 := hid (below_next HB.out hb6)
  have HW6 := hid hw6
  have hbvw : w.heap.size < bv := by omega
  have HBV := hid hbv
  have hn3 : w.heap.size + 1 + 1 ≠ bv := by omega
  clear hr hb56 hb6 hb5 HM hw6
  go_wp2_with fail
  rw [← HW6.out, ← HBV.out]
  clear hbv
  have hb5lt : bv < w6.heap.size := HX4.out.lt
  go_loopw [28] (fun i wr => StdG bv M (a.2.map G) w6 i wr) (fun i _ => M - (intOf i).toNat)
  case atStart => exact ⟨0, none, 0, Nat.zero_le _, rfl, HX4.out, Rows.nil _ _ _ _ _, Ch.refl _ _⟩
  case round =>
    obtain ⟨k, ad, cp, hk, rfl, hBv, hRv, hcv⟩ := hrel.all
    clear hrel
    by_cases hlt : k < M
    · obtain ⟨f, hf⟩ : ∃ f, a.2[k]? = some f := ⟨a.2[k]'(by rw [← HMM.out]; exact hlt), by simp⟩
      obtain ⟨g, off, cap, c, hv, hg, ⟨fn, fk, fs', fa, fm, fc, rfl, hfn, hty⟩, hcell⟩ := Rw.at HRW.out hf
      injection hv with e1 e2 e3
      subst e1
      clear e2 e3
      have hc0 := hcell 0 _ rfl
      have hc1 := hcell 1 _ rfl
      have hc2 := hcell 2 _ rfl
      have hc3 := hcell 3 _ rfl
      have hc4 := hcell 4 _ rfl
      simp only [Nat.add_zero] at hc0
      have hne : g ≠ bv := fun h => by
        subst h
        exact fld_not HX4.out hc0 hc1
      have hgr : g < wr.heap.size := Nat.lt_of_lt_of_le hg hcv.size
      have d0 := (hcv.cellX hg hne _).trans hc0
      have d1 := (hcv.cellX hg hne _).trans hc1
      have d2 := (hcv.cellX hg hne _).trans hc2
      have d3 := (hcv.cellX hg hne _).trans hc3
      have d4 := (hcv.cellX hg hne _).trans hc4
      obtain ⟨w7, hw7⟩ : ∃ w7, w7 = wr.alloc (.cells #[.string fn, .int .i64 (f.num : Int), .int .i64 fk, .string fs', .slice fa fm fc] 61) := ⟨_, rfl⟩
      have hb7 : Below wr.heap.size wr w7 := by rw [hw7]; exact below_alloc wr _
      have hB8 : Bx w7 wr.heap.size [.string fn, .int .i64 (f.num : Int), .int .i64 fk, .string fs', .slice fa fm fc] 61 := by rw [hw7]; exact Bx.new wr _ _
      have hX1 := (HX1.out.ch hcv (show ¬ w.heap.size = bv by omega)).below hb7
      have hV7 := hBv.below hb7
      have y0 := hX1.cell 0 rfl
      have y1 := hX1.cell 1 rfl
      have y2 := hX1.cell 2 rfl
      have v3 := hV7.cell 3 rfl
      have f2 := hB8.cell 2 rfl
      have f3 := hB8.cell 3 rfl
      have f4 := hB8.cell 4 rfl
      have hbww := HB6.out.trans (Xo.bel hcv (B := w.heap.size) (by omega) HB6.out.size)
      have hbw7 : Below w.heap.size w w7 := hbww.trans (hb7.mono hbww.size)
      have hty7 := TyG.below hb7 _ _ _ _ (TyG.chX hcv HX4.out f.ty _ _ _ hty)
      have hfG : (a.2.map G)[k]? = some (G f) := by rw [List.getElem?_map, hf]; rfl
      have HFG := hid hfG
      have hL7 : wr.heap.size ≤ w7.heap.size := hb7.size
      have HSTD := hid (fun W (hW : Below w7.heap.size w7 W) => HFL.out f (List.mem_of_getElem? hf) fk fs' fa fm fc W (HSCH.out.below (hbw7.trans (hW.mono hbw7.size))) (TyG.below hW _ _ _ _ hty7))
      have HV7 := hid hV7
      have HB7 := hid hb7
      have HRV := hid hRv
      have HCV := hid hcv
      have HW7 := hid hw7
      have hltV := hV7.lt
      clear hc0 hc1 hc2 hc3 hc4 hf hty hfn hcell hBv hRv hcv hw7 hb7 hB8 hX1 hV7 hbww hbw7 hty7 hfG
      obtain ⟨i0, hi0, hz0, hz1, hz2⟩ := info_parts infoV
      go_wp2_with fail
      rw [← HW7.out]
      have HLEN : Hid ((a.2.map G).length = M) := hid (by rw [List.length_map]; exact HMM.out.symm)
      have HOLT : Hid (∀ j, (Value.slice ad k cp).ownBlock = some j → j < wr.heap.size) := hid (fun j hj => by obtain ⟨_, _, _, ho⟩ := HRV.out; obtain ⟨_, cur, hq⟩ := own_block ho hj; exact lt_of_some hq)
      obtain ⟨gi, gu, gs, hgi, hgu, hgs⟩ : ∃ gi gu gs, gi = (G f).i ∧ gu = (G f).u ∧ gs = (G f).t := ⟨_, _, _, rfl, rfl, rfl⟩
      rw [← hgi, ← hgu, ← hgs] at HSTD
      have HGI := hid hgi
      have HGU := hid hgu
      have HGS := hid hgs
      clear hgi hgu hgs
      go_region_law (first
        | (refine step_call2 (v := .agg #[.slice a1 l1 c1, .slice a2 l2 c2, .slice a3 l3 c3]) (u := .agg #[.int .i64 fk, .string fs', .slice fa fm fc]) (o := { dst := some 37, op := .call { callee := .value (.func 30), args := #[.tmp 34, .tmp 36], argTypes := #[65, 29] }, type := _, pos := _, after := _, guard := none }) 30 (fun _ _ => rfl) rfl 34 36 _ rfl (by simp) (by simp) ?_; refine (HSTD.out _ (Below.refl _ _).drew).mono ?_; rintro e w8 ⟨o8, rfl, hvy, hb8⟩; obtain ⟨a8, m8, c8, rfl⟩ := (hvy 0).shape; have HVY := hid hvy; clear hvy; have HB8x := hid hb8; refine ⟨_, rfl, ?_⟩; have hb78 : Below wr.heap.size wr w8 := below_next HB7.out.drew hb8; have hV8 := HV7.out.below ((Below.refl _ _).drew.trans hb8); have g3 := hV8.cell 3 rfl; have g4 := (hV8.below (below_alloc w8 (.cells #[.int .i64 gi, .int .u64 gu, .string gs, .slice a8 m8 c8] 33))).cell 3 rfl; have HV8 := hid hV8; have HB8 := hid hb78; have hR8 := HRV.out.ch (X := fun _ _ => False) (Ch.below hb78) (fun _ _ h => h.below hb78) (fun _ _ hx => hx); obtain ⟨ps, hps, hRp, hown⟩ := hR8; have hpl : ps.length = k := (by have := congrArg List.length hps; rw [List.length_map, List.length_take] at this; have hlen := HLEN.out; omega); rw [hpl] at hown; have HPS := hid hps; have HRP := hid hRp; have HOWN := hid hown; have HPL := hid hpl; have hsz8 : w6.heap.size ≤ w8.heap.size := Nat.le_trans HCV.out.size hb78.size; clear hb8 hb78 hV8 hps hRp hown hpl)
        | (refine step_append_lies (o := { dst := some 39, op := .call { callee := .builtin .append, args := #[.tmp 33, .tmp 38], argTypes := #[31, 31] }, type := _, pos := _, after := _, guard := none }) _ rfl (.tmp 33) (.tmp 38) 31 rfl w6.heap.size 33 i0 _ 4 56 Tryz.underlying31 hi0 hz0 hz1 hz2 rfl (by decide) (.slice ad k cp) k (ps.flatMap Prod.snd) rfl (own_ch (X := fun _ _ => False) HOWN.out (Ch.alloc _ _) (fun _ _ hx => hx)) ⟨w8.heap.size, 0, none⟩ 1 1 [.int .i64 gi, .int .u64 gu, .string gs, .slice a8 m8 c8] rfl rfl (World.news_of_block (heap_alloc_new w8 _)) (fun u hu => by simp at hu; rcases hu with rfl | rfl | rfl | rfl <;> rfl) (by decide) (by unfold maxLen; omega) (by omega) (by simp; omega) _ rfl ?_; intro gn capn w9 hown9 hgr9 hat9 hlt9; have HAT := hid hat9; have HGR := hid hgr9; have hV9 := (HV8.out.below (below_alloc w8 (.cells #[.int .i64 gi, .int .u64 gu, .string gs, .slice a8 m8 c8] 33))); have hrowne : ∀ j, (Value.slice ad k cp).ownBlock = some j → w6.heap.size ≤ j := fun j hj => (own_block HOWN.out hj).1; have hV9' := hV9.ch (Ch.grown (X := fun g _ => w6.heap.size ≤ g) hgr9 (fun g' _ _ _ hr _ => hrowne g' hr) (fun g' o hr ho => by (obtain ⟨_, cur, hq⟩ := own_block (own_ch (X := fun _ _ => False) HOWN.out (Ch.alloc w8 (.cells #[.int .i64 gi, .int .u64 gu, .string gs, .slice a8 m8 c8] 33)) (fun _ _ hx => hx)) hr; rw [hq] at ho; cases ho; exact ⟨_, _, _, rfl⟩))) (show ¬ w6.heap.size ≤ bv by omega); have x3 := hV9'.cell 3 rfl; have xf := hV9'.frozen; have HV9 := hid hV9'; clear hV9 hV9'))
      all_goals
        have hcR := ch_grown_new ((HCV.out.trans (Ch.below HB8.out)).trans (Ch.alloc w8 (.cells #[.int .i64 gi, .int .u64 gu, .string gs, .slice a8 m8 c8] 33))) hgr9 (fun j hj => (own_block HOWN.out hj).1)
        have hsz9 : (w8.alloc (.cells #[.int .i64 gi, .int .u64 gu, .string gs, .slice a8 m8 c8] 33)).heap.size ≤ w9.heap.size := hgr9.size
        have hps : ∀ p ∈ ps, RG w6.heap.size (some gn) p.1 p.2 w9 ∧ p.2.length = 4 := fun p hp => ⟨((HRP.out p hp).1.below (below_alloc w8 _)).grown hgr9 hsz9 hat9, (HRP.out p hp).2⟩
        have hnew0 : RG w6.heap.size (Value.slice ad k cp).ownBlock (G f) [.int .i64 gi, .int .u64 gu, .string gs, .slice a8 m8 c8] w8 := ⟨_, w7.drew.heap.size, w8.heap.size, by rw [HGI.out, HGU.out, HGS.out], Nat.le_trans HCV.out.size hL7, Nat.le_refl _, fun j hj hh => absurd hh.1 (Nat.not_le.2 (Nat.lt_of_lt_of_le (HOLT.out j hj) hL7)), HVY.out⟩
        have hnew := (hnew0.below (below_alloc w8 (.cells #[.int .i64 gi, .int .u64 gu, .string gs, .slice a8 m8 c8] 33))).grown hgr9 hsz9 hat9
        have hRow : Rows 33 4 (RG w6.heap.size (some gn)) w6.heap.size w9 (.slice (some ⟨gn, 0, none⟩) (k + 1) capn) (ps.map Prod.fst ++ [G f]) := Rows.more (w := w9) (w' := w9) hps (fun _ _ h => h) (G f) _ hnew rfl (by rw [HPL.out]; exact hown9)
        have htk : ps.map Prod.fst ++ [G f] = (a.2.map G).take (k + 1) := by rw [HPS.out, List.take_add_one, HFG.out]; rfl
        rw [htk] at hRow
        have hcS : Ch (Xo bv) w9 (w9.setCell ⟨bv, 3, none⟩ (.slice (some ⟨gn, 0, none⟩) (k + 1) capn)) := Ch.set HV9.out rfl _
        have hRow2 := hRow.ch hcS (fun _ _ h => h.chX hcS hb5lt) (fun j hj hx => by have h2 : j = bv := hx; omega)
        have HFIN : Hid (StdG bv M (a.2.map G) w6 (.int .i64 ((k + 1 : Nat) : Int)) (w9.setCell ⟨bv, 3, none⟩ (.slice (some ⟨gn, 0, none⟩) (k + 1) capn))) := hid ⟨k + 1, _, _, by omega, rfl, HV9.out.set 3 _, hRow2, hcR.trans hcS⟩
        clear hcR hRow hcS hRow2 htk hnew hnew0 hps hsz9
        go_wp2
        refine ⟨?_, by simp [intOf]; omega⟩
        exact HFIN.out
    · obtain rfl : k = M := by omega
      have hkI : ¬ (k : Int) < (k : Int) := by omega
      have hY := HX3.out.ch hcv (show ¬ w.heap.size + 1 + 1 = bv from hn3)
      have z0 := hBv.cell 0 rfl
      have z1 := hBv.cell 1 rfl
      have z2 := hBv.cell 2 rfl
      have z3 := hBv.cell 3 rfl
      have u0 := hY.cell 0 rfl
      have u1 := hY.cell 1 rfl
      have u2 := hY.cell 2 rfl
      have u3 := hY.cell 3 rfl
      have uf := hY.frozen
      have HR := hid ((((hY.set 0 (.int .i64 0)).set 1 (.int .u64 0)).set 2 (.string ⟨#[]⟩)).set 3 (.slice ad k cp))
      have hbn := HB6.out.trans (Xo.bel hcv (B := w.heap.size) (by omega) HB6.out.size)
      have HBF := hid ((((hbn.setCell (p := ⟨w.heap.size + 1 + 1, 0, none⟩) (by simp only; omega) (.int .i64 0)).setCell (p := ⟨w.heap.size + 1 + 1, 1, none⟩) (by simp only; omega) (.int .u64 0)).setCell (p := ⟨w.heap.size + 1 + 1, 2, none⟩) (by simp only; omega) (.string ⟨#[]⟩)).setCell (p := ⟨w.heap.size + 1 + 1, 3, none⟩) (by simp only; omega) (.slice ad k cp))
      have hcS : Ch (Xo (w.heap.size + 1 + 1)) wr ((((wr.setCell ⟨w.heap.size + 1 + 1, 0, none⟩ (.int .i64 0)).setCell ⟨w.heap.size + 1 + 1, 1, none⟩ (.int .u64 0)).setCell ⟨w.heap.size + 1 + 1, 2, none⟩ (.string ⟨#[]⟩)).setCell ⟨w.heap.size + 1 + 1, 3, none⟩ (.slice ad k cp)) :=
        (((Ch.set hY rfl _).trans (Ch.set (hY.set 0 _) rfl _)).trans (Ch.set ((hY.set 0 _).set 1 _) rfl _)).trans (Ch.set (((hY.set 0 _).set 1 _).set 2 _) rfl _)
      have hlt3 : w.heap.size + 1 + 1 < w6.heap.size := HX3.out.lt
      have hRW := hRv.ch hcS (fun _ _ h => h.chX hcS hlt3) (fun j hj hx => by have h2 : j = w.heap.size + 1 + 1 := hx; omega)
      have hlenM : (a.2.map G).length = k := by rw [List.length_map]; exact HMM.out.symm
      rw [List.take_of_length_le (by omega)] at hRW
      have HRS := hid (rows_vyp (by omega) hRW HB6.out.size HB6.out.size)
      clear hBv hRv hcv hY hbn hcS hRW hlenM
      go_wp2_with fail
      exact bodyPost_ret (ret_std rfl (HR.out.cell 0 rfl) (HR.out.cell 1 rfl) (HR.out.cell 2 rfl) (HR.out.cell 3 rfl)) rfl ⟨_, rfl, HRS.out, HBF.out⟩
end Go.Proofs.YtmiohekmpjiloaaGreatDoor

namespace Go.Proofs.YtmiohekmpjiloaaGreatDoor
open Go.RowKit
set_option maxRecDepth 20000

theorem std_any {st : List (List Nat × List Pl.Fld)} {en : List (List Nat × List Pl.Cas)} {sv : List (List Nat × List Pl.Mth)} {r : Nat → Nat} (H : StdOk st en (fnd st en sv) r) (hC : Closed st en sv) (h32 : ∀ a ∈ st, a.2.length ≤ 32) (s1 s2 s3 : Value) : ∀ (n : Nat) (t : Pl.Ty), Pl.okTy t → knP (fnd st en sv) t = true → rkT (fnd st en sv) r t < n → ∀ (k : Int) (s : ByteArray) (ad : Option Addr) (m c : Nat) (W : World), SchG st en sv s1 s2 s3 W → TyG W t (.int .i64 k) (.string s) (.slice ad m c) → Calls Tryz.prog 30 #[.agg #[s1, s2, s3], .agg #[.int .i64 k, .string s, .slice ad m c]] W fun e w' => ∃ o, e = .returned (.agg #[.int .i64 (stdV st en (fnd st en sv) n t).i, .int .u64 (stdV st en (fnd st en sv) n t).u, .string (stdV st en (fnd st en sv) n t).t, o]) ∧ (∀ N, VyP (fun b => W.heap.size ≤ b ∧ b < w'.heap.size) N (stdV st en (fnd st en sv) n t).l w' o) ∧ Below W.heap.size W w' := by
  intro n
  induction n with
  | zero => intro t _ _ h; omega
  | succ n ih =>
    intro t ho hkn hr k s ad m c W hS hT
    have flat : 1 ≤ k ∧ k ≤ 7 → stdV st en (fnd st en sv) (n + 1) t = zeroV → Calls Tryz.prog 30 #[.agg #[s1, s2, s3], .agg #[.int .i64 k, .string s, .slice ad m c]] W fun e w' => ∃ o, e = .returned (.agg #[.int .i64 (stdV st en (fnd st en sv) (n + 1) t).i, .int .u64 (stdV st en (fnd st en sv) (n + 1) t).u, .string (stdV st en (fnd st en sv) (n + 1) t).t, o]) ∧ (∀ N, VyP (fun b => W.heap.size ≤ b ∧ b < w'.heap.size) N (stdV st en (fnd st en sv) (n + 1) t).l w' o) ∧ Below W.heap.size W w' := by
      intro hk hz
      obtain ⟨a1, c1, a2, c2, a3, c3, rfl, rfl, rfl⟩ := hS.shape
      rw [hz]
      refine (std_flat k hk s a1 a2 a3 ad _ _ _ m c1 c2 c3 c W).mono ?_
      rintro e w' ⟨rfl, hb⟩
      exact ⟨_, rfl, fun N => VyP.nil _ N _, hb⟩
    cases t with
    | plain j =>
      obtain ⟨h1, _⟩ := hT
      injection h1 with _ h1
      have := ho.1
      have := ho.2
      exact flat ⟨by omega, by omega⟩ (by rw [stdV, if_neg (show ¬ kindM (fnd st en sv) _ = 10 by simp only [kindM, kindOf]; omega), if_neg (show ¬ kindM (fnd st en sv) _ = 9 by simp only [kindM, kindOf]; omega)])
    | list t =>
      obtain ⟨h1, _⟩ := hT
      injection h1 with _ h1
      exact flat ⟨by omega, by omega⟩ (by rw [stdV, if_neg (show ¬ kindM (fnd st en sv) _ = 10 by simp only [kindM, kindOf]; omega), if_neg (show ¬ kindM (fnd st en sv) _ = 9 by simp only [kindM, kindOf]; omega)])
    | opt t =>
      obtain ⟨h1, _⟩ := hT
      injection h1 with _ h1
      exact flat ⟨by omega, by omega⟩ (by rw [stdV, if_neg (show ¬ kindM (fnd st en sv) _ = 10 by simp only [kindM, kindOf]; omega), if_neg (show ¬ kindM (fnd st en sv) _ = 9 by simp only [kindM, kindOf]; omega)])
    | named x =>
      obtain ⟨h1, ⟨s', h2, h3⟩, ao, cp, h4⟩ := hT
      injection h1 with _ h1
      injection h2 with h2
      injection h4 with h4 h5 h6
      subst h1 h2 h4 h5 h6
      subst h3
      simp only [knP, Bool.or_eq_true, beq_iff_eq] at hkn
      by_cases hx : (fnd st en sv (bl s)).1 = 1
      · obtain ⟨i, a, hi, _, h3⟩ := fnd_one hx
        have hf : fnd st en sv (bl s) = (1, (i : Int)) := Prod.ext hx h3
        obtain ⟨a', ha', _, _, hfl⟩ := H.str _ hx
        have e : (fnd st en sv (bl s)).2.toNat = i := by rw [h3]; simp
        rw [e, hi] at ha'
        cases ha'
        have hm := List.mem_of_getElem? hi
        have hrk : rkT (fnd st en sv) r (.named (bl s)) = r (fnd st en sv (bl s)).2.toNat := by simp only [rkT, if_pos hx]
        have hz : stdV st en (fnd st en sv) (n + 1) (.named (bl s)) = .node 0 0 ⟨#[]⟩ (a.2.map fun d => stdV st en (fnd st en sv) n d.ty) := by
          rw [stdV]
          simp only [kindM, fldsM, if_pos hx, e, hi, Option.getD_some]
          simp
        rw [hz]
        refine (std_str (fun d => stdV st en (fnd st en sv) n d.ty) st en sv hC.len s1 s2 s3 s i a hi hf ?_ (h32 a hm) ad 0 c W hS).mono ?_
        · intro d hd k' s' ad' m' c' W' hS' hT'
          exact ih d.ty (hC.fld a hm d hd).1 (hC.fld a hm d hd).2 (by have := (hfl d hd).2; omega) k' s' ad' m' c' W' hS' hT'
        · rintro e w' ⟨o, rfl, hv, hb⟩
          exact ⟨o, rfl, hv, hb⟩
      · have hx2 : (fnd st en sv (bl s)).1 = 2 := by rcases hkn with h | h; exact absurd h hx; exact h
        obtain ⟨i, a, hi, h3⟩ := fnd_enum hx2
        have hf : fnd st en sv (bl s) = (2, (i : Int)) := Prod.ext hx2 h3
        have e : (fnd st en sv (bl s)).2.toNat = i := by rw [h3]; simp
        have hc : cassM en (fnd st en sv) (.named (bl s)) = a.2 := by
          simp only [cassM, if_neg hx, if_pos hx2, e, hi, Option.getD_some]
        have hne := H.enm _ hx2
        rw [hc] at hne
        cases hl : a.2 with
        | nil => exact absurd hl hne
        | cons d ds =>
          have hd : a.2[0]? = some d := by rw [hl]; rfl
          have hz : stdV st en (fnd st en sv) (n + 1) (.named (bl s)) = .node (d.num : Int) 0 ⟨#[]⟩ [] := by
            rw [stdV]
            simp only [kindM, if_neg hx, if_pos hx2, hc, hd]
            simp
          rw [hz]
          refine (std_enum st en sv hC.len s1 s2 s3 s i a hi hf d hd ad 0 c W hS).mono ?_
          rintro e w' ⟨rfl, hb⟩
          exact ⟨_, rfl, fun N => VyP.nil _ N _, hb⟩
end Go.Proofs.YtmiohekmpjiloaaGreatDoor

namespace Go.Proofs.YtmiohekmpjiloaaGreatDoor
open Go.RowKit
set_option maxRecDepth 20000

set_option maxHeartbeats 4000000 in
theorem defClo_bad (E : Int) (s1 s2 s3 k s o : Value) (p q : Nat) (w : World) (hp : Bx w p [s1, s2, s3] 65) (hq : Bx w q [k, s, o] 29)
    (h : Calls Tryz.prog 29 #[.agg #[s1, s2, s3], .agg #[k, s, o]] w fun e w' => Below w.heap.size w w' ∧ e = .panicked (errp E)) :
    Calls Tryz.prog 28 #[.pointer (some ⟨p, 0, none⟩), .pointer (some ⟨q, 0, none⟩)] w fun e w' => e = .panicked (errp E) ∧ Below w.heap.size w w' := by
  have y0 := hp.cell 0 rfl
  have y1 := hp.cell 1 rfl
  have y2 := hp.cell 2 rfl
  have z0 := hq.cell 0 rfl
  have z1 := hq.cell 1 rfl
  have z2 := hq.cell 2 rfl
  have H := hid h
  clear h hp hq
  go_enter Tryz.func28, Tryz.ntmps28
  go_wp2_with fail
  refine H.out.mono ?_
  rintro e w1 ⟨hb1, rfl⟩
  exact ⟨rfl, rfl, hb1⟩

set_option maxHeartbeats 8000000 in
/-- Default where the type has an error. -/
theorem Default_bad (E : Int) (hE : E ≠ 0) (s1 s2 s3 : Value) (hs : ∃ d1 l1 n1 d2 l2 n2 d3 l3 n3, s1 = .slice d1 l1 n1 ∧ s2 = .slice d2 l2 n2 ∧ s3 = .slice d3 l3 n3) (k : Int) (s : ByteArray) (ao : Option Addr) (mo co : Nat) (w : World)
    (hck : ∀ W, Below w.heap.size w W → Calls Tryz.prog 29 #[.agg #[s1, s2, s3], .agg #[.int .i64 k, .string s, .slice ao mo co]] W fun e w' => Below W.heap.size W w' ∧ e = .panicked (errp E)) :
    Calls Tryz.prog 9 #[.agg #[s1, s2, s3], .agg #[.int .i64 k, .string s, .slice ao mo co]] w fun e w' => e = .returned (.tuple #[.agg #[.int .i64 0, .int .u64 0, .string ⟨#[]⟩, .slice none 0 0], .int .i64 E]) ∧ Below w.heap.size w w' := by
  obtain ⟨a1, m1, c1, a2, m2, c2, a3, m3, c3, rfl, rfl, rfl⟩ := hs
  obtain ⟨w4, hw4⟩ : ∃ w4, w4 = (((w.alloc (.cells #[.slice a1 m1 c1, .slice a2 m2 c2, .slice a3 m3 c3] 26)).alloc (.cells #[.int .i64 k, .string s, .slice ao mo co] 29)).alloc (.cells #[.int .i64 0, .int .u64 0, .string ⟨#[]⟩, .slice none 0 0] 33)).alloc (.cells #[.slice a1 m1 c1, .slice a2 m2 c2, .slice a3 m3 c3] 65) := ⟨_, rfl⟩
  have hb4 : Below w.heap.size w w4 := by rw [hw4]; exact below_next (below_next (below_next (below_alloc w _) (below_alloc _ _)) (below_alloc _ _)) (below_alloc _ _)
  have hB2 : Bx w4 (w.heap.size + 1) [.int .i64 k, .string s, .slice ao mo co] 29 := by rw [hw4]; exact ((Bx.newAt (by simp) _ _).below (below_alloc _ _)).below (below_alloc _ _)
  have hB3 : Bx w4 (w.heap.size + 1 + 1) [.int .i64 0, .int .u64 0, .string ⟨#[]⟩, .slice none 0 0] 33 := by rw [hw4]; exact (Bx.newAt (by simp) _ _).below (below_alloc _ _)
  have hB4 : Bx w4 (w.heap.size + 1 + 1 + 1) [.slice a1 m1 c1, .slice a2 m2 c2, .slice a3 m3 c3] 65 := by rw [hw4]; exact Bx.newAt (by simp) _ _
  obtain ⟨w5, hw5⟩ : ∃ w5, w5 = w4.alloc (.cells #[.int .i64 0] 34) := ⟨_, rfl⟩
  have hb45 : Below w4.heap.size w4 w5 := by rw [hw5]; exact below_alloc w4 _
  have hBe : Bx w5 w4.heap.size [.int .i64 0] 34 := by rw [hw5]; exact Bx.new w4 _ _
  have hb5 := below_next hb4 hb45
  have hclo := defClo_bad E _ _ _ _ _ _ (w.heap.size + 1 + 1 + 1) (w.heap.size + 1) w5 (hB4.below hb45) (hB2.below hb45) (hck w5 hb5)
  have hcau : Calls Tryz.prog 27 #[.func (.func 28) #[] #[.pointer (some ⟨w.heap.size + 1 + 1 + 1, 0, none⟩), .pointer (some ⟨w.heap.size + 1, 0, none⟩)]] w4 fun e w' => e = .returned (.int .i64 E) ∧ Below w4.heap.size w4 w' := by
    refine (vcaught_bad _ _ (fun _ _ => rfl) w4 (fun er => er = E) (fun W => Below w5.heap.size w5 W) (fun W hW => hBe.below hW) ?_).mono ?_
    · rw [← hw5]
      exact hclo.mono fun e w' ⟨h1, h2⟩ => ⟨E, rfl, h1, h2⟩
    · rintro e w' ⟨er, rfl, rfl, W, hW, rfl⟩
      exact ⟨rfl, (below_next hb45 hW).setCell (by simp only; omega) _⟩
  have HCAU := hid hcau
  have HB3 := hid hB3
  have HB := hid hb4
  have HW4 := hid hw4
  have hmf : ∀ (fn : Fn) (first cap : Array Value) (w : World), (Instr.makeFunc fn first cap).run Tryz.prog w = .ok (.func fn first cap) w := fun _ _ _ _ => rfl
  have hq : (E == 0) = false := by simp [hE]
  clear hb4 hB2 hB3 hB4 hw4 hb45 hBe hb5 hck hclo hcau hw5
  go_enter Tryz.func9, Tryz.ntmps9
  go_wp2_with fail
  rw [← HW4.out]
  refine HCAU.out.mono ?_
  rintro e w6 ⟨rfl, hb6⟩
  have hY := HB3.out.below hb6
  have u0 := hY.cell 0 rfl
  have u1 := hY.cell 1 rfl
  have u2 := hY.cell 2 rfl
  have u3 := hY.cell 3 rfl
  have uf := hY.frozen
  have HR := hid ((((hY.set 0 (.int .i64 0)).set 1 (.int .u64 0)).set 2 (.string ⟨#[]⟩)).set 3 (.slice none 0 0))
  have hbn := below_next HB.out hb6
  have HBF := hid ((((hbn.setCell (p := ⟨w.heap.size + 1 + 1, 0, none⟩) (by simp only; omega) (.int .i64 0)).setCell (p := ⟨w.heap.size + 1 + 1, 1, none⟩) (by simp only; omega) (.int .u64 0)).setCell (p := ⟨w.heap.size + 1 + 1, 2, none⟩) (by simp only; omega) (.string ⟨#[]⟩)).setCell (p := ⟨w.heap.size + 1 + 1, 3, none⟩) (by simp only; omega) (.slice none 0 0))
  have HX : Hid (Bx w6 (w.heap.size + 1 + 1) [.int .i64 0, .int .u64 0, .string ⟨#[]⟩, .slice none 0 0] 33) := hid hY
  have HBN := hid hbn
  clear hb6 hbn hY HCAU HB HW4 HB3
  go_wp2_with fail
  exact bodyPost_ret (ret_def rfl rfl (HR.out.cell 0 rfl) (HR.out.cell 1 rfl) (HR.out.cell 2 rfl) (HR.out.cell 3 rfl)) rfl ⟨rfl, HBF.out⟩
set_option maxHeartbeats 8000000 in
/-- Default where the type has none. -/
theorem Default_good (g : Pl.GV) (s1 s2 s3 : Value) (hs : ∃ d1 l1 n1 d2 l2 n2 d3 l3 n3, s1 = .slice d1 l1 n1 ∧ s2 = .slice d2 l2 n2 ∧ s3 = .slice d3 l3 n3) (k : Int) (s : ByteArray) (ao : Option Addr) (mo co : Nat) (w : World)
    (hck : ∀ W, Below w.heap.size w W → Calls Tryz.prog 29 #[.agg #[s1, s2, s3], .agg #[.int .i64 k, .string s, .slice ao mo co]] W fun e w' => Below W.heap.size W w' ∧ e = .returned (.tuple #[]))
    (hst : ∀ W, Below w.heap.size w W → Calls Tryz.prog 30 #[.agg #[s1, s2, s3], .agg #[.int .i64 k, .string s, .slice ao mo co]] W fun e w' => ∃ o, e = .returned (.agg #[.int .i64 g.i, .int .u64 g.u, .string g.t, o]) ∧ (∀ N, VyP (fun b => W.heap.size ≤ b ∧ b < w'.heap.size) N g.l w' o) ∧ Below W.heap.size W w') :
    Calls Tryz.prog 9 #[.agg #[s1, s2, s3], .agg #[.int .i64 k, .string s, .slice ao mo co]] w fun e w' => ∃ o, e = .returned (.tuple #[.agg #[.int .i64 g.i, .int .u64 g.u, .string g.t, o], .int .i64 0]) ∧ (∀ N, VyP (fun b => w.heap.size ≤ b ∧ b < w'.heap.size) N g.l w' o) ∧ Below w.heap.size w w' := by
  obtain ⟨a1, m1, c1, a2, m2, c2, a3, m3, c3, rfl, rfl, rfl⟩ := hs
  obtain ⟨w4, hw4⟩ : ∃ w4, w4 = (((w.alloc (.cells #[.slice a1 m1 c1, .slice a2 m2 c2, .slice a3 m3 c3] 26)).alloc (.cells #[.int .i64 k, .string s, .slice ao mo co] 29)).alloc (.cells #[.int .i64 0, .int .u64 0, .string ⟨#[]⟩, .slice none 0 0] 33)).alloc (.cells #[.slice a1 m1 c1, .slice a2 m2 c2, .slice a3 m3 c3] 65) := ⟨_, rfl⟩
  have hb4 : Below w.heap.size w w4 := by rw [hw4]; exact below_next (below_next (below_next (below_alloc w _) (below_alloc _ _)) (below_alloc _ _)) (below_alloc _ _)
  have hB2 : Bx w4 (w.heap.size + 1) [.int .i64 k, .string s, .slice ao mo co] 29 := by rw [hw4]; exact ((Bx.newAt (by simp) _ _).below (below_alloc _ _)).below (below_alloc _ _)
  have hB3 : Bx w4 (w.heap.size + 1 + 1) [.int .i64 0, .int .u64 0, .string ⟨#[]⟩, .slice none 0 0] 33 := by rw [hw4]; exact (Bx.newAt (by simp) _ _).below (below_alloc _ _)
  have hB4 : Bx w4 (w.heap.size + 1 + 1 + 1) [.slice a1 m1 c1, .slice a2 m2 c2, .slice a3 m3 c3] 65 := by rw [hw4]; exact Bx.newAt (by simp) _ _
  obtain ⟨w5, hw5⟩ : ∃ w5, w5 = w4.alloc (.cells #[.int .i64 0] 34) := ⟨_, rfl⟩
  have hb45 : Below w4.heap.size w4 w5 := by rw [hw5]; exact below_alloc w4 _
  have hBe : Bx w5 w4.heap.size [.int .i64 0] 34 := by rw [hw5]; exact Bx.new w4 _ _
  have hb5 := below_next hb4 hb45
  have hclo := defClo_any _ _ _ _ _ _ (w.heap.size + 1 + 1 + 1) (w.heap.size + 1) w5 (hB4.below hb45) (hB2.below hb45) ((hck w5 hb5).mono fun e w' ⟨h1, h2⟩ => ⟨h2, h1⟩)
  have hcau : Calls Tryz.prog 27 #[.func (.func 28) #[] #[.pointer (some ⟨w.heap.size + 1 + 1 + 1, 0, none⟩), .pointer (some ⟨w.heap.size + 1, 0, none⟩)]] w4 fun e w' => e = .returned (.int .i64 0) ∧ Below w4.heap.size w4 w' := by
    refine (vcaught_ok _ _ (fun _ _ => rfl) w4 (fun W => Below w5.heap.size w5 W) (fun W hW => hBe.below hW) ?_).mono ?_
    · rw [← hw5]
      exact hclo
    · rintro e w' ⟨rfl, W, hW, rfl⟩
      exact ⟨rfl, (below_next hb45 hW).setCell (by simp only; omega) _⟩
  have HSTD := hid hst
  have HCAU := hid hcau
  have HB2 := hid hB2
  have HB3 := hid hB3
  have HB4 := hid hB4
  have HB := hid hb4
  have HW4 := hid hw4
  have hmf : ∀ (fn : Fn) (first cap : Array Value) (w : World), (Instr.makeFunc fn first cap).run Tryz.prog w = .ok (.func fn first cap) w := fun _ _ _ _ => rfl
  clear hb4 hB2 hB3 hB4 hw4 hb45 hBe hb5 hck hclo hcau hw5 hst
  obtain ⟨gl, hgl⟩ : ∃ l, l = g.l := ⟨_, rfl⟩
  obtain ⟨gi, hgi⟩ : ∃ l, l = g.i := ⟨_, rfl⟩
  obtain ⟨gu, hgu⟩ : ∃ l, l = g.u := ⟨_, rfl⟩
  obtain ⟨gt, hgt⟩ : ∃ l, l = g.t := ⟨_, rfl⟩
  rw [← hgl, ← hgi, ← hgu, ← hgt] at HSTD ⊢
  clear hgl hgi hgu hgt
  go_enter Tryz.func9, Tryz.ntmps9
  go_wp2_with fail
  rw [← HW4.out]
  refine HCAU.out.mono ?_
  rintro e w6 ⟨rfl, hb6⟩
  have HBW := hid (below_next HB.out hb6)
  have HSTD6 := hid (HSTD.out w6 HBW.out)
  have y0 := (HB4.out.below hb6).cell 0 rfl
  have y1 := (HB4.out.below hb6).cell 1 rfl
  have y2 := (HB4.out.below hb6).cell 2 rfl
  have z0 := (HB2.out.below hb6).cell 0 rfl
  have z1 := (HB2.out.below hb6).cell 1 rfl
  have z2 := (HB2.out.below hb6).cell 2 rfl
  have HB6 := hid hb6
  have hsz6 : w.heap.size ≤ w6.heap.size := HBW.out.size
  clear hb6 HCAU HSTD
  go_wp2_with fail
  refine HSTD6.out.mono ?_
  rintro e w7 ⟨o, rfl, hR, hb7⟩
  obtain ⟨ad, L, cp, rfl⟩ := (hR 0).shape
  have hY := (HB3.out.below HB6.out).below hb7
  have u0 := hY.cell 0 rfl
  have u1 := hY.cell 1 rfl
  have u2 := hY.cell 2 rfl
  have u3 := hY.cell 3 rfl
  have uf := hY.frozen
  have HR := hid ((((hY.set 0 (.int .i64 gi)).set 1 (.int .u64 gu)).set 2 (.string gt)).set 3 (.slice ad L cp))
  have hbn := below_next HBW.out hb7
  have HBF := hid ((((hbn.setCell (p := ⟨w.heap.size + 1 + 1, 0, none⟩) (by simp only; omega) (.int .i64 gi)).setCell (p := ⟨w.heap.size + 1 + 1, 1, none⟩) (by simp only; omega) (.int .u64 gu)).setCell (p := ⟨w.heap.size + 1 + 1, 2, none⟩) (by simp only; omega) (.string gt)).setCell (p := ⟨w.heap.size + 1 + 1, 3, none⟩) (by simp only; omega) (.slice ad L cp))
  have hcS : Ch (Xo (w.heap.size + 1 + 1)) w7 ((((w7.setCell ⟨w.heap.size + 1 + 1, 0, none⟩ (.int .i64 gi)).setCell ⟨w.heap.size + 1 + 1, 1, none⟩ (.int .u64 gu)).setCell ⟨w.heap.size + 1 + 1, 2, none⟩ (.string gt)).setCell ⟨w.heap.size + 1 + 1, 3, none⟩ (.slice ad L cp)) :=
    (((Ch.set hY rfl _).trans (Ch.set (hY.set 0 _) rfl _)).trans (Ch.set ((hY.set 0 _).set 1 _) rfl _)).trans (Ch.set (((hY.set 0 _).set 1 _).set 2 _) rfl _)
  have hlt3 : w.heap.size + 1 + 1 < w6.heap.size := (HB3.out.below HB6.out).lt
  have hszS := hcS.size
  have HRS := hid (fun N => VyP.keep (Q := fun b => w.heap.size ≤ b ∧ b < ((((w7.setCell ⟨w.heap.size + 1 + 1, 0, none⟩ (.int .i64 gi)).setCell ⟨w.heap.size + 1 + 1, 1, none⟩ (.int .u64 gu)).setCell ⟨w.heap.size + 1 + 1, 2, none⟩ (.string gt)).setCell ⟨w.heap.size + 1 + 1, 3, none⟩ (.slice ad L cp)).heap.size) (fun b hp => ⟨Nat.le_trans hsz6 hp.1, Nat.lt_of_lt_of_le hp.2 hszS⟩) (fun b hp p => hcS.cellX hp.2 (by have := hp.1; omega) p) N _ _ (hR N))
  clear hR hY hbn hcS hb7 y0 y1 y2 z0 z1 z2 hszS
  go_wp2_with fail
  exact bodyPost_ret (ret_def rfl rfl (HR.out.cell 0 rfl) (HR.out.cell 1 rfl) (HR.out.cell 2 rfl) (HR.out.cell 3 rfl)) rfl ⟨_, rfl, HRS.out, HBF.out⟩

/-- What Default answers. -/
def DfE (E : Int) (D : Option Sc) (gt : Pl.GT) (R : Int) (g : Pl.GV) : Prop :=
  (R ≠ 0 ∧ g = zeroV) ∨ (R = 0 ∧ E = 0 ∧ ∃ st en sv t, D = some (st, en, sv) ∧ gt = Pl.emb t ∧ Pl.okTy t ∧ Pl.tyD t ≤ 8 ∧ kindM (fnd st en sv) (inmost t) ≠ 8 ∧ g = stdV st en (fnd st en sv) 9 t)
theorem std_of {st : List (List Nat × List Pl.Fld)} {en : List (List Nat × List Pl.Cas)} {sv : List (List Nat × List Pl.Mth)} {s1 s2 s3 : Value} {w : World} (hS : ScOk w s1 s2 s3 0 (some (st, en, sv))) (t : Pl.Ty) (ho : Pl.okTy t) (hd : Pl.tyD t ≤ 8) (hk : kindM (fnd st en sv) (inmost t) ≠ 8) (k : Int) (s : ByteArray) (ao : Option Addr) (mo co : Nat) (hT : TyG w t (.int .i64 k) (.string s) (.slice ao mo co)) :
    CkE 0 (some (st, en, sv)) (Pl.emb t) (stdV st en (fnd st en sv) 9 t) 0 ∧ ∀ W, Below w.heap.size w W → Calls Tryz.prog 30 #[.agg #[s1, s2, s3], .agg #[.int .i64 k, .string s, .slice ao mo co]] W fun e w' => ∃ o, e = .returned (.agg #[.int .i64 (stdV st en (fnd st en sv) 9 t).i, .int .u64 (stdV st en (fnd st en sv) 9 t).u, .string (stdV st en (fnd st en sv) 9 t).t, o]) ∧ (∀ N, VyP (fun b => W.heap.size ≤ b ∧ b < w'.heap.size) N (stdV st en (fnd st en sv) 9 t).l w' o) ∧ Below W.heap.size W w' := by
  have hC : Closed st en sv := closed_of hS.2.2.2.2.symm hS.2.2.1 hS.2.2.2.1
  have hG : SchG st en sv s1 s2 s3 w := SchL.g (Nat.le_refl _) (by omega) hS.1 hS.2.2.1
  obtain ⟨r, H⟩ := stdok_of hS.2.2.2.2.symm hS.2.2.1
  have hok := hS.2.2.1
  have h32 : ∀ a ∈ st, a.2.length ≤ 32 := fun a ha => (hok (Pl.mkSt a) (List.mem_append_left _ (List.mem_append_left _ (List.mem_map_of_mem ha)))).2.1
  have hkn : knP (fnd st en sv) t = true := by rw [knP_inmost _ t ho]; simpa using hk
  have hr : rkT (fnd st en sv) r t < 9 := by
    cases t with
    | named x =>
      simp only [rkT]
      split
      · obtain ⟨a, _, _, h8, _⟩ := H.str x (by assumption); omega
      · omega
    | _ => simp [rkT]
  exact ⟨std_is H t ho hd hk, fun W hW => std_any H hC h32 s1 s2 s3 9 t ho hkn hr k s ao mo co W (hG.below hW) (TyG.below hW _ _ _ _ hT)⟩
theorem Default_any (E : Int) (D : Option Sc) (gt : Pl.GT) (s1 s2 s3 : Value) (k : Int) (s : ByteArray) (ao : Option Addr) (mo co : Nat) (w : World) (hS : ScOk w s1 s2 s3 E D) (ht : Tab w.heap.size w) (hL : Ly w.heap.size 99 gt w (.int .i64 k) (.string s) (.slice ao mo co)) :
    Calls Tryz.prog 9 #[.agg #[s1, s2, s3], .agg #[.int .i64 k, .string s, .slice ao mo co]] w fun e w' => ∃ R g o, DfE E D gt R g ∧ e = .returned (.tuple #[.agg #[.int .i64 g.i, .int .u64 g.u, .string g.t, o], .int .i64 R]) ∧ (∀ N, VyP (fun b => w.heap.size ≤ b ∧ b < w'.heap.size) N g.l w' o) ∧ Below w.heap.size w w' := by
  have hsh0 := hS.shape
  have bad : ∀ R : Int, R ≠ 0 → (∀ W, Below w.heap.size w W → Calls Tryz.prog 29 #[.agg #[s1, s2, s3], .agg #[.int .i64 k, .string s, .slice ao mo co]] W fun e w' => Below W.heap.size W w' ∧ e = .panicked (errp R)) → Calls Tryz.prog 9 #[.agg #[s1, s2, s3], .agg #[.int .i64 k, .string s, .slice ao mo co]] w fun e w' => ∃ R g o, DfE E D gt R g ∧ e = .returned (.tuple #[.agg #[.int .i64 g.i, .int .u64 g.u, .string g.t, o], .int .i64 R]) ∧ (∀ N, VyP (fun b => w.heap.size ≤ b ∧ b < w'.heap.size) N g.l w' o) ∧ Below w.heap.size w w' := by
    intro R hR hc
    refine (Default_bad R hR s1 s2 s3 hsh0 k s ao mo co w hc).mono ?_
    rintro e w' ⟨rfl, hb⟩
    exact ⟨R, zeroV, _, .inl ⟨hR, rfl⟩, rfl, fun N => VyP.nil _ N _, hb⟩
  by_cases hE : E = 0
  · by_cases hsh : Pl.shapeP gt = 0
    · obtain ⟨t, rfl, ho, hd⟩ := Pl.shape_of gt hsh
      match D, hS with
      | none, hS => obtain ⟨_, _, _, er, _, _, _, hne, he⟩ := hS; exact absurd (he.symm.trans hE) (by omega)
      | some (st, en, sv), hS =>
        subst hE
        have hT := Ly.tyG (Nat.le_refl _) t 99 _ _ _ (by omega) hL
        by_cases hk : kindM (fnd st en sv) (inmost t) = 8
        · exact bad 41 (by decide) fun W hW => checkType_bad st en sv t ho hd hk _ _ _ k s ao mo co W (hS.below hW) ((ht.below hW).up2 hW.size) ((hL.bel hW).mono hW.size) (TyG.below hW _ _ _ _ hT)
        · refine (Default_good _ s1 s2 s3 hsh0 k s ao mo co w (fun W hW => checkType_good st en sv t ho hd hk _ _ _ k s ao mo co W (hS.below hW) ((ht.below hW).up2 hW.size) ((hL.bel hW).mono hW.size) (TyG.below hW _ _ _ _ hT)) (std_of hS t ho hd hk k s ao mo co hT).2).mono ?_
          rintro e w' ⟨o, rfl, hv, hb⟩
          exact ⟨0, _, o, .inr ⟨rfl, rfl, st, en, sv, t, rfl, rfl, ho, hd, hk, rfl⟩, rfl, hv, hb⟩
    · exact bad (Pl.shapeP gt : Int) (by omega) fun W hW => by
        subst hE
        exact checkType_shape gt hsh D _ _ _ k s ao mo co W (hS.below hW) ((ht.below hW).up2 hW.size) ((hL.bel hW).mono hW.size)
  · exact bad E hE fun W hW => checkType_sch E hE D _ _ _ k s ao mo co W (hS.below hW) ((ht.below hW).up2 hW.size)
end Go.Proofs.YtmiohekmpjiloaaGreatDoor

namespace Go.Proofs.YtmiohekmpjiloaaGreatDoor
open Go.RowKit
set_option maxRecDepth 20000

set_option maxHeartbeats 8000000 in
theorem Is_good (g : Pl.GV) (B : Nat) (s1 s2 s3 : Value) (hs : ∃ d1 l1 n1 d2 l2 n2 d3 l3 n3, s1 = .slice d1 l1 n1 ∧ s2 = .slice d2 l2 n2 ∧ s3 = .slice d3 l3 n3) (k : Int) (s : ByteArray) (ao : Option Addr) (mo co : Nat) (a1 : Option Addr) (m1 c1 : Nat) (w : World) (hV : VyS B 65536 g.l w (.slice a1 m1 c1)) (hB : B ≤ w.heap.size)
    (hck : ∀ W, Below w.heap.size w W → Calls Tryz.prog 20 #[.agg #[s1, s2, s3], .agg #[.int .i64 k, .string s, .slice ao mo co], .agg #[.int .i64 g.i, .int .u64 g.u, .string g.t, .slice a1 m1 c1]] W fun e w' => e = .returned (.int .i64 0) ∧ Below W.heap.size W w')
    (hst : ∀ W, Below w.heap.size w W → Calls Tryz.prog 30 #[.agg #[s1, s2, s3], .agg #[.int .i64 k, .string s, .slice ao mo co]] W fun e w' => ∃ o, e = .returned (.agg #[.int .i64 g.i, .int .u64 g.u, .string g.t, o]) ∧ (∀ N, VyP (fun b => W.heap.size ≤ b ∧ b < w'.heap.size) N g.l w' o) ∧ Below W.heap.size W w') :
    Calls Tryz.prog 11 #[.agg #[s1, s2, s3], .agg #[.int .i64 k, .string s, .slice ao mo co], .agg #[.int .i64 g.i, .int .u64 g.u, .string g.t, .slice a1 m1 c1]] w fun e w' => e = .returned (.tuple #[.bool true, .int .i64 0]) ∧ Below w.heap.size w w' := by
  obtain ⟨d1, l1, n1, d2, l2, n2, d3, l3, n3, rfl, rfl, rfl⟩ := hs
  obtain ⟨w3, hw3⟩ : ∃ w3, w3 = ((w.alloc (.cells #[.slice d1 l1 n1, .slice d2 l2 n2, .slice d3 l3 n3] 26)).alloc (.cells #[.int .i64 k, .string s, .slice ao mo co] 29)).alloc (.cells #[.int .i64 g.i, .int .u64 g.u, .string g.t, .slice a1 m1 c1] 33) := ⟨_, rfl⟩
  have hb3 : Below w.heap.size w w3 := by rw [hw3]; exact below_next (below_next (below_alloc w _) (below_alloc _ _)) (below_alloc _ _)
  have hBa : Bx w3 w.heap.size [.slice d1 l1 n1, .slice d2 l2 n2, .slice d3 l3 n3] 26 := by rw [hw3]; exact ((Bx.new w _ _).below (below_alloc _ _)).below (below_alloc _ _)
  have hBb : Bx w3 (w.heap.size + 1) [.int .i64 k, .string s, .slice ao mo co] 29 := by rw [hw3]; exact (Bx.newAt (by simp) _ _).below (below_alloc _ _)
  have hBc : Bx w3 (w.heap.size + 1 + 1) [.int .i64 g.i, .int .u64 g.u, .string g.t, .slice a1 m1 c1] 33 := by rw [hw3]; exact Bx.newAt (by simp) _ _
  have HW3 := hid hw3
  have HB3 := hid hb3
  have HBA := hid hBa
  have HBB := hid hBb
  have HBC := hid hBc
  have HCK := hid hck
  have HST := hid hst
  have HV := hid hV
  have HSE := hid (ord_val 65536).self
  clear hw3 hb3 hBa hBb hBc hck hst hV
  go_enter Tryz.func11, Tryz.ntmps11
  go_wp2_with fail
  rw [← HW3.out]
  refine (HCK.out _ HB3.out).mono ?_
  rintro e w4 ⟨rfl, hb4⟩
  have hb4' := below_next HB3.out hb4
  have p0 := (HBA.out.below hb4).cell 0 rfl
  have p1 := (HBA.out.below hb4).cell 1 rfl
  have p2 := (HBA.out.below hb4).cell 2 rfl
  obtain ⟨w5, hw5⟩ : ∃ w5, w5 = w4.alloc (.cells #[.slice d1 l1 n1, .slice d2 l2 n2, .slice d3 l3 n3] 65) := ⟨_, rfl⟩
  have hb45 : Below w4.heap.size w4 w5 := by rw [hw5]; exact below_alloc w4 _
  have HBT : Hid (Bx w5 w4.heap.size [.slice d1 l1 n1, .slice d2 l2 n2, .slice d3 l3 n3] 65) := by rw [hw5]; exact Bx.new w4 _ _
  have hb35 := below_next hb4 hb45
  have hb5 := below_next hb4' hb45
  have HB5 := hid hb5
  have HT5 := hid (HBB.out.below hb35)
  have HV5 := hid (HBC.out.below hb35)
  have HVY5 := hid (VyS.bel (hb5.mono hB) _ _ _ HV.out)
  have hB5 := Nat.le_trans hB hb5.size
  have HST5 := hid (fun W (hW : Below w5.heap.size w5 W) => HST.out W (below_next HB5.out hW))
  have HW5 := hid hw5
  clear hb4 hb4' HCK hw5 hb45 hb35 hb5 HST HV HBA HBB HBC HB3 HW3
  go_wp2_with fail
  rw [← HW5.out]
  have q0 := HT5.out.cell 0 rfl
  have q1 := HT5.out.cell 1 rfl
  have q2 := HT5.out.cell 2 rfl
  have r0 := HV5.out.cell 0 rfl
  have r1 := HV5.out.cell 1 rfl
  have r2 := HV5.out.cell 2 rfl
  have r3 := HV5.out.cell 3 rfl
  have t0 := HBT.out.cell 0 rfl
  have t1 := HBT.out.cell 1 rfl
  have t2 := HBT.out.cell 2 rfl
  clear p0 p1 p2
  go_region_law (first
    | (refine step_call2 (v := .agg #[.slice d1 l1 n1, .slice d2 l2 n2, .slice d3 l3 n3]) (u := .agg #[.int .i64 k, .string s, .slice ao mo co]) (o := { dst := some 22, op := .call { callee := .value (.func 30), args := #[.tmp 20, .tmp 21], argTypes := #[65, 29] }, type := _, pos := _, after := _, guard := none }) 30 (fun _ _ => rfl) rfl 20 21 _ rfl (by simp) (by simp) ?_; refine (HST5.out _ (Below.refl _ _).drew).mono ?_; rintro e w6 ⟨o6, rfl, hvy, hb6⟩; obtain ⟨a6, m6, c6, rfl⟩ := (hvy 0).shape; refine ⟨_, rfl, ?_⟩; have hb56 : Below w5.heap.size w5 w6 := (Below.refl _ _).drew.trans hb6; have x0 := (HV5.out.below hb56).cell 0 rfl; have x1 := (HV5.out.below hb56).cell 1 rfl; have x2 := (HV5.out.below hb56).cell 2 rfl; have x3 := (HV5.out.below hb56).cell 3 rfl; have hv1 := VyS.mono (Nat.le_trans hB5 hb56.size) _ _ _ _ (VyS.bel (hb56.mono hB5) _ _ _ HVY5.out); have hv2 := VyP.vys (B := w6.heap.size) (fun b hb => hb.2) 65536 _ _ (hvy 65536); have HSM : Hid (Calls Tryz.prog 15 #[.agg #[.int .i64 g.i, .int .u64 g.u, .string g.t, .slice a1 m1 c1], .agg #[.int .i64 g.i, .int .u64 g.u, .string g.t, .slice a6 m6 c6]] w6 fun e w' => e = .returned (.bool true) ∧ Below w6.heap.size w6 w') := hid ((Same_any w6.heap.size g g _ _ w6 hv1 hv2 (Nat.le_refl _)).mono fun e w' h => ⟨by rw [h.1, HSE.out]; rfl, h.2⟩); have HB6 := hid (below_next HB5.out hb56); clear hvy hb6 hb56 hv1 hv2)
    | (refine step_call2 (v := .agg #[.int .i64 g.i, .int .u64 g.u, .string g.t, .slice a1 m1 c1]) (u := .agg #[.int .i64 g.i, .int .u64 g.u, .string g.t, .slice a6 m6 c6]) (o := { dst := some 23, op := .call { callee := .value (.func 15), args := #[.tmp 19, .tmp 22], argTypes := #[33, 33] }, type := _, pos := _, after := _, guard := none }) 15 (fun _ _ => rfl) rfl 19 22 _ rfl (by simp) (by simp) ?_; refine HSM.out.mono ?_; rintro e w7 ⟨rfl, hb7⟩; refine ⟨_, rfl, ?_⟩; have HL := hid (below_next HB6.out hb7); clear hb7))
  all_goals
    go_wp2
    go_ret2
    exact ⟨rfl, HL.out⟩
end Go.Proofs.YtmiohekmpjiloaaGreatDoor

namespace Go.Proofs.YtmiohekmpjiloaaGreatDoor
open Go.RowKit
set_option maxRecDepth 20000

set_option maxHeartbeats 16000000 in
theorem default_walk (E : Int) (D : Option Sc) (gt : Pl.GT) (s1 s2 s3 : Value) (k : Int) (s : ByteArray) (ao : Option Addr) (mo co : Nat) (w : World) (hS : ScOk w s1 s2 s3 E D) (ht : Tab w.heap.size w) (hL : Ly w.heap.size 99 gt w (.int .i64 k) (.string s) (.slice ao mo co)) :
    Calls Tryz.prog 4 #[.agg #[s1, s2, s3], .agg #[.int .i64 k, .string s, .slice ao mo co]] w fun e w' => e = .returned (.bool true) ∧ Below w.heap.size w w' := by
  obtain ⟨d1, l1, n1, d2, l2, n2, d3, l3, n3, rfl, rfl, rfl⟩ := hS.shape
  obtain ⟨w3, hw3⟩ : ∃ w3, w3 = ((w.alloc (.cells #[.slice d1 l1 n1, .slice d2 l2 n2, .slice d3 l3 n3] 26)).alloc (.cells #[.int .i64 k, .string s, .slice ao mo co] 29)) := ⟨_, rfl⟩
  have hb3 : Below w.heap.size w w3 := by rw [hw3]; exact below_next (below_alloc w _) (below_alloc _ _)
  have hBa : Bx w3 w.heap.size [.slice d1 l1 n1, .slice d2 l2 n2, .slice d3 l3 n3] 26 := by rw [hw3]; exact (Bx.new w _ _).below (below_alloc _ _)
  have hBb : Bx w3 (w.heap.size + 1) [.int .i64 k, .string s, .slice ao mo co] 29 := by rw [hw3]; exact Bx.newAt (by simp) _ _
  have hS3 := hS.below hb3
  have ht3 := (ht.below hb3).up2 hb3.size
  have hL3 := (hL.bel hb3).mono hb3.size
  have HAL := hid (alive7_any w3 ht3)
  have HDF := hid (fun W (hW : Below w3.heap.size w3 W) => Default_any E D gt _ _ _ k s ao mo co W (hS3.below hW) ((ht3.below hW).up2 hW.size) ((hL3.bel hW).mono hW.size))
  have HW3 := hid hw3
  have HB3 := hid hb3
  have HBA := hid hBa
  have HBB := hid hBb
  have HS3 := hid hS3
  have HT3 := hid ht3
  have HL3 := hid hL3
  clear hw3 hb3 hBa hBb hS3 ht3 hL3 hS ht hL
  go_enter Tryz.func4, Tryz.ntmps4
  go_wp2_with fail
  rw [← HW3.out]
  refine HAL.out.mono ?_
  rintro e w4 ⟨rfl, hb4⟩
  have HB4 := hid hb4
  have p0 := (HBA.out.below hb4).cell 0 rfl
  have p1 := (HBA.out.below hb4).cell 1 rfl
  have p2 := (HBA.out.below hb4).cell 2 rfl
  have q0 := (HBB.out.below hb4).cell 0 rfl
  have q1 := (HBB.out.below hb4).cell 1 rfl
  have q2 := (HBB.out.below hb4).cell 2 rfl
  clear hb4 HAL
  go_wp2_with fail
  refine (HDF.out _ HB4.out).mono ?_
  rintro e w5 ⟨R, g, o, hdf, rfl, hvy, hb5⟩
  obtain ⟨a1, m1, c1, rfl⟩ := (hvy 0).shape
  have hb5' := below_next HB4.out hb5
  have HB5 := hid hb5'
  have HVY := hid hvy
  have HDE := hid hdf
  have HNM := hid (num7_any R)
  clear p0 p1 p2 q0 q1 q2 hb5 hb5' hvy hdf HDF HB4
  go_wp2_with fail
  obtain ⟨w6, hw6⟩ : ∃ w6, w6 = w5.alloc (.cells #[.int .i64 g.i, .int .u64 g.u, .string g.t, .slice a1 m1 c1] 33) := ⟨_, rfl⟩
  rw [← hw6]
  have hb56 : Below w5.heap.size w5 w6 := by rw [hw6]; exact below_alloc w5 _
  have HBV : Hid (Bx w6 w5.heap.size [.int .i64 g.i, .int .u64 g.u, .string g.t, .slice a1 m1 c1] 33) := by rw [hw6]; exact Bx.new w5 _ _
  have hb6 := below_next HB5.out hb56
  have HB6 := hid hb6
  have HVS := hid (fun N => VyS.bel hb56 _ _ _ (VyP.vys (B := w5.heap.size) (fun b hb => hb.2) N _ _ (HVY.out N)))
  have HSZ := hid hb56.size
  refine (HNM.out w6).mono ?_
  rintro e w7 ⟨rfl, rfl⟩
  generalize w5.heap.size = n5 at *
  clear hw6 hb56 hb6 HNM HVY HB5
  have v0 := HBV.out.cell 0 rfl
  have v1 := HBV.out.cell 1 rfl
  have v2 := HBV.out.cell 2 rfl
  have v3 := HBV.out.cell 3 rfl
  rcases HDE.out with ⟨hR, rfl⟩ | ⟨rfl, hE, st, en, sv, t, hD, hgt, ho, hd, hk, hg⟩
  · have hq : (R == 0) = false := by simp [hR]
    have HSM : Hid (Calls Tryz.prog 15 #[.agg #[.int .i64 zeroV.i, .int .u64 zeroV.u, .string zeroV.t, .slice a1 m1 c1], .agg #[.int .i64 0, .int .u64 0, .string ⟨#[]⟩, .slice none 0 0]] w7 fun e w' => e = .returned (.bool true) ∧ Below w7.heap.size w7 w') := hid ((Same_any w7.heap.size zeroV zeroV _ _ w7 (VyS.mono HSZ.out _ _ _ _ (HVS.out 65536)) (VyP.vys (P := fun _ => False) (fun _ h => h.elim) 65536 _ _ (VyP.nil _ 65536 w7)) (Nat.le_refl _)).mono fun e w' h => ⟨by rw [h.1, (ord_val 65536).self]; rfl, h.2⟩)
    clear HDE HS3 HT3 HL3
    go_wp2_with fail
    refine HSM.out.mono ?_
    rintro e w8 ⟨rfl, hb8⟩
    have HL := hid (below_next HB3.out (below_next HB6.out hb8))
    clear hb8 HSM
    go_wp2
    go_ret
    exact ⟨rfl, HL.out⟩
  · subst hE hD hgt
    have hT := Ly.tyG (Nat.le_refl _) t 99 _ _ _ (by omega) HL3.out
    obtain ⟨hck, hst⟩ := std_of HS3.out t ho hd hk k s ao mo co hT
    rw [← hg] at hck hst
    have HCK : Hid (∀ W, Below w7.heap.size w7 W → Calls Tryz.prog 20 #[.agg #[.slice d1 l1 n1, .slice d2 l2 n2, .slice d3 l3 n3], .agg #[.int .i64 k, .string s, .slice ao mo co], .agg #[.int .i64 g.i, .int .u64 g.u, .string g.t, .slice a1 m1 c1]] W fun e w' => e = .returned (.int .i64 0) ∧ Below W.heap.size W w') := hid (fun W hW => by
      have h3W := below_next HB6.out hW
      exact Check_is hck w7.heap.size _ _ _ k s ao mo co a1 m1 c1 W (HS3.out.below h3W) ((HT3.out.below h3W).up2 h3W.size) ((HL3.out.bel h3W).mono h3W.size) (VyS.bel hW _ _ _ (VyS.mono HSZ.out _ _ _ _ (HVS.out 65552))) hW.size)
    have HIS := hid (Is_good g w7.heap.size _ _ _ ⟨_, _, _, _, _, _, _, _, _, rfl, rfl, rfl⟩ k s ao mo co a1 m1 c1 w7 (VyS.mono HSZ.out _ _ _ _ (HVS.out 65536)) (Nat.le_refl _) HCK.out (fun W hW => hst W (below_next HB6.out hW)))
    have p0 := (HBA.out.below HB6.out).cell 0 rfl
    have p1 := (HBA.out.below HB6.out).cell 1 rfl
    have p2 := (HBA.out.below HB6.out).cell 2 rfl
    have q0 := (HBB.out.below HB6.out).cell 0 rfl
    have q1 := (HBB.out.below HB6.out).cell 1 rfl
    have q2 := (HBB.out.below HB6.out).cell 2 rfl
    have HBL := hid (below_next HB3.out HB6.out)
    have HBA7 := hid (HBA.out.below HB6.out)
    have HBB7 := hid (HBB.out.below HB6.out)
    clear HDE HS3 HT3 HL3 HVS HSZ hg hck hst hT ho hd hk HBA HBB HW3 HB3 HB6
    go_wp2_with fail
    refine HIS.out.mono ?_
    rintro e w8 ⟨rfl, hb8⟩
    clear p0 p1 p2 q0 q1 q2 v0 v1 v2 v3 HIS
    have p0 := (HBA7.out.below hb8).cell 0 rfl
    have p1 := (HBA7.out.below hb8).cell 1 rfl
    have p2 := (HBA7.out.below hb8).cell 2 rfl
    have q0 := (HBB7.out.below hb8).cell 0 rfl
    have q1 := (HBB7.out.below hb8).cell 1 rfl
    have q2 := (HBB7.out.below hb8).cell 2 rfl
    have v0 := (HBV.out.below hb8).cell 0 rfl
    have v1 := (HBV.out.below hb8).cell 1 rfl
    have v2 := (HBV.out.below hb8).cell 2 rfl
    have v3 := (HBV.out.below hb8).cell 3 rfl
    have HB8 := hid hb8
    clear hb8
    go_wp2_with fail
    refine (HCK.out _ HB8.out).mono ?_
    rintro e w9 ⟨rfl, hb9⟩
    have HL := hid (below_next HBL.out (below_next HB8.out hb9))
    clear hb9 HCK p0 p1 p2 q0 q1 q2 v0 v1 v2 v3
    go_wp2_with fail
    refine (num7_any 0 _).mono ?_
    rintro e w10 ⟨rfl, rfl⟩
    go_wp2_with fail
    refine (num7_any 0 _).mono ?_
    rintro e w11 ⟨rfl, rfl⟩
    go_wp2
    go_ret
    exact ⟨rfl, HL.out⟩
end Go.Proofs.YtmiohekmpjiloaaGreatDoor

