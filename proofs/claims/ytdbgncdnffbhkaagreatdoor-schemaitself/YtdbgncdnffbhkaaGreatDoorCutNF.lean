/- The reference's Print, of a schema that may be. -/
import Derived.Test.YtdbgncdnffbhkaaGreatDoorCutNE
namespace Go.Proofs.YtdbgncdnffbhkaaGreatDoor
open Go.RowKit
set_option maxRecDepth 20000

set_option maxHeartbeats 64000000 in
theorem rPrint_ok (st : List (List Nat × List Pl.Fld)) (en : List (List Nat × List Pl.Cas)) (sv : List (List Nat × List Pl.Mth)) (hok : ∀ d ∈ Pl.inOrder st en sv, Pl.okDecl d) (hl : st.length + en.length + sv.length ≤ 64) (s1 s2 s3 : Value) (w : World) (hS : SchG st en sv s1 s2 s3 w) :
    Calls Tryz.prog 25 #[.agg #[s1, s2, s3]] w fun e w' => ∃ t, e = .returned (.tuple #[.string t, .int .i64 0]) ∧ bl t = ((Pl.inOrder st en sv).map Pl.declX).flatten ∧ Below w.heap.size w w' := by
  obtain ⟨a1, c1, a2, c2, a3, c3, rfl, rfl, rfl⟩ := hS.shape
  obtain ⟨M1, hM1⟩ : ∃ M, M = st.length := ⟨_, rfl⟩
  obtain ⟨M2, hM2⟩ : ∃ M, M = en.length := ⟨_, rfl⟩
  obtain ⟨M3, hM3⟩ : ∃ M, M = sv.length := ⟨_, rfl⟩
  rw [← hM1, ← hM2, ← hM3] at hl hS ⊢
  obtain ⟨w1, hw1⟩ : ∃ w1, w1 = w.alloc (.cells #[.slice a1 M1 c1, .slice a2 M2 c2, .slice a3 M3 c3] 26) := ⟨_, rfl⟩
  obtain ⟨w2, hw2⟩ : ∃ w2, w2 = w1.alloc (.cells #[.string ⟨#[]⟩, .int .i64 0] 105) := ⟨_, rfl⟩
  have hz1 : w1.heap.size = w.heap.size + 1 := by rw [hw1]; simp
  have hb1 : Below w.heap.size w w1 := by rw [hw1]; exact below_alloc w _
  have hb12 : Below w1.heap.size w1 w2 := by rw [hw2]; exact below_alloc w1 _
  have hb2 := below_next hb1 hb12
  have hBs : Bx w2 w.heap.size [.slice a1 M1 c1, .slice a2 M2 c2, .slice a3 M3 c3] 26 := Bx.below (by rw [hw1]; exact Bx.new w _ _) hb12
  have hBw : Bx w2 (w.heap.size + 1) [.string ⟨#[]⟩, .int .i64 0] 105 := by rw [hw2]; exact Bx.newAt hz1.symm _ _
  have hbel : ∀ W, Ch (Xo (w.heap.size + 1)) w2 W → Below w.heap.size w W := fun W hW => hb2.trans (Xo.bel hW (by omega) hb2.size)
  have hbox : ∀ W, Ch (Xo (w.heap.size + 1)) w2 W → Bx W w.heap.size [.slice a1 M1 c1, .slice a2 M2 c2, .slice a3 M3 c3] 26 := fun W hW => hBs.ch hW (fun e => by have : w.heap.size = w.heap.size + 1 := e; omega)
  obtain ⟨ps1, hps1⟩ : ∃ ps, ps = st.map fun x => Pl.declX (Pl.mkSt x) := ⟨_, rfl⟩
  obtain ⟨ps2, hps2⟩ : ∃ ps, ps = en.map fun x => Pl.declX (Pl.mkEn x) := ⟨_, rfl⟩
  obtain ⟨ps3, hps3⟩ : ∃ ps, ps = sv.map fun x => Pl.declX (Pl.mkSv x) := ⟨_, rfl⟩
  have hD1 : ∀ x ∈ st, Pl.okDecl (Pl.mkSt x) := fun x hx => hok _ (List.mem_append_left _ (List.mem_append_left _ (List.mem_map_of_mem hx)))
  have hD2 : ∀ x ∈ en, Pl.okDecl (Pl.mkEn x) := fun x hx => hok _ (List.mem_append_left _ (List.mem_append_right _ (List.mem_map_of_mem hx)))
  have hD3 : ∀ x ∈ sv, Pl.okDecl (Pl.mkSv x) := fun x hx => hok _ (List.mem_append_right _ (List.mem_map_of_mem hx))
  have hL1 : ∀ k, (ps1.take k).flatten.length ≤ 320000 := fun k => by
    have := flat_len 5000 ps1 (by rw [hps1]; intro p hp; obtain ⟨x, hx, rfl⟩ := List.mem_map.1 hp; exact decl_len _ (hD1 x hx)) k
    have h2 : ps1.length = M1 := by rw [hps1, List.length_map, hM1]
    rw [h2] at this
    omega
  have hL2 : ∀ k, (ps2.take k).flatten.length ≤ 320000 := fun k => by
    have := flat_len 5000 ps2 (by rw [hps2]; intro p hp; obtain ⟨x, hx, rfl⟩ := List.mem_map.1 hp; exact decl_len _ (hD2 x hx)) k
    have h2 : ps2.length = M2 := by rw [hps2, List.length_map, hM2]
    rw [h2] at this
    omega
  have hL3 : ∀ k, (ps3.take k).flatten.length ≤ 320000 := fun k => by
    have := flat_len 5000 ps3 (by rw [hps3]; intro p hp; obtain ⟨x, hx, rfl⟩ := List.mem_map.1 hp; exact decl_len _ (hD3 x hx)) k
    have h2 : ps3.length = M3 := by rw [hps3, List.length_map, hM3]
    rw [h2] at this
    omega
  have hfin : ((Pl.inOrder st en sv).map Pl.declX).flatten = ps1.flatten ++ ps2.flatten ++ ps3.flatten := by
    rw [hps1, hps2, hps3]
    simp [Pl.inOrder, Function.comp_def]
  rw [hfin]
  have hall1 : ∀ k, ¬ k < M1 → k ≤ M1 → ps1.take k = ps1 := fun k h1 h2 => List.take_of_length_le (by rw [hps1, List.length_map, ← hM1]; omega)
  have hall2 : ∀ k, ¬ k < M2 → k ≤ M2 → ps2.take k = ps2 := fun k h1 h2 => List.take_of_length_le (by rw [hps2, List.length_map, ← hM2]; omega)
  have hall3 : ∀ k, ¬ k < M3 → k ≤ M3 → ps3.take k = ps3 := fun k h1 h2 => List.take_of_length_le (by rw [hps3, List.length_map, ← hM3]; omega)
  have HBEL := hid hbel
  have HBOX := hid hbox
  have HPS1 := hid hps1
  have HPS2 := hid hps2
  have HPS3 := hid hps3
  have HD1 := hid hD1
  have HD2 := hid hD2
  have HD3 := hid hD3
  have HL1 := hid hL1
  have HL2 := hid hL2
  have HL3 := hid hL3
  have HALL1 := hid hall1
  have HALL2 := hid hall2
  have HALL3 := hid hall3
  have HM1 := hid hM1
  have HM2 := hid hM2
  have HM3 := hid hM3
  have HS := hid hS
  have HW1 := hid hw1
  have HW2 := hid hw2
  have HBW := hid hBw
  have q1 : (M1 : Int) ≤ 64 := by omega
  have q2 : (M2 : Int) ≤ 64 := by omega
  have q3 : (M3 : Int) ≤ 64 := by omega
  have q4 : (M1 : Int) + (M2 : Int) + (M3 : Int) ≤ 64 := by omega
  clear hbel hbox hps1 hps2 hps3 hD1 hD2 hD3 hL1 hL2 hL3 hall1 hall2 hall3 hM1 hM2 hM3 hS hw1 hw2 hBw hBs hb1 hb12 hb2 hz1 hfin hok hl
  go_enter Tryz.func25, Tryz.ntmps25
  go_wp2_with fail
  rw [← HW1.out, ← HW2.out]
  refine (rneed_true (w.heap.size + 1) 3 w2).mono ?_
  rintro e w3 ⟨rfl, hw3⟩
  subst w3
  go_wp2_with fail
  go_loopw [5] (fun i wr => PrI (w.heap.size + 1) [] ps1 M1 w2 i wr) (fun i _ => M1 - (intOf i).toNat)
  case atStart => exact ⟨0, Nat.zero_le _, rfl, ⟨_, HBW.out, by simp [bl]⟩, Ch.refl _ _⟩
  case round =>
   obtain ⟨k, hk, rfl, ⟨s, hB, hs⟩, hc⟩ := hrel.all
   clear hrel
   have HB := hid hB
   have HS0 := hid hs
   have HC := hid hc
   have hlen0 : ([] ++ (ps1.take k).flatten).length ≤ 990000 := by
     have h1 := HL1.out k
     simp only [List.length_append, List.length_nil]
     omega
   have hsz : s.size ≤ 990000 := by rw [← bl_length, hs]; exact hlen0
   clear hB hs hc
   have x0 := HB.out.cell 0 rfl
   have x1 := HB.out.cell 1 rfl
   have xf := HB.out.frozen
   by_cases hlt : k < M1
   · as_aux_lemma =>
      obtain ⟨x, hx⟩ : ∃ x, st[k]? = some x := ⟨st[k]'(by rw [← HM1.out]; exact hlt), by simp⟩
      obtain ⟨g1, o1, cap1, c, hv, hg, ⟨nm, af, mf, cf, rfl, hnm, hrw⟩, hcell⟩ := Rw.at HS.out.1 hx
      injection hv with e1 e2 e3
      subst e1 e3
      clear e2
      have hn0 := hcell 0 _ rfl
      have hn1 := hcell 1 _ rfl
      simp only [Nat.add_zero] at hn0
      have HN0 := hid hn0
      have HN1 := hid hn1
      obtain ⟨hxn, hxl, hxf⟩ : Pl.okName x.1 ∧ x.2.length ≤ 32 ∧ ∀ f ∈ x.2, Pl.okFld f := HD1.out x (List.mem_of_getElem? hx)
      have hmf : mf = x.2.length := by obtain ⟨_, _, hsh⟩ := hrw.shape; injection hsh
      have hm32 : mf ≤ 32 := by omega
      have HMF := hid hmf
      have HRW := hid hrw
      have HXF := hid hxf
      have HXN := hid hxn
      have HNM := hid hnm
      have HX := hid hx
      have hnl := Pl.name_len hxn
      rw [← hnm, bl_length] at hnl
      clear hcell hn0 hn1 hrw hxf hxn hnm hmf hxl hx
      have hltI : (k : Int) < (M1 : Int) := by omega
      have hmI : (mf : Int) ≤ 32 := by omega
      have zw := HBEL.out _ HC.out
      have za0 := (HBOX.out _ HC.out).cell 0 rfl
      have zal := (HBOX.out _ HC.out).lt
      have zan := (zw.cell hg).trans HN0.out
      have zap := (zw.cell hg).trans HN1.out
      have zag := Nat.lt_of_lt_of_le hg zw.size
      clear zw
      have zb0 := fun v => (HBOX.out _ (HC.out.trans (WSt.ch HB.out v))).cell 0 rfl
      have zbl := fun v => (HBOX.out _ (HC.out.trans (WSt.ch HB.out v))).lt
      have zbn := fun v => ((HBEL.out _ (HC.out.trans (WSt.ch HB.out v))).cell hg).trans HN0.out
      have zbp := fun v => ((HBEL.out _ (HC.out.trans (WSt.ch HB.out v))).cell hg).trans HN1.out
      have zbg := fun v => Nat.lt_of_lt_of_le hg (HBEL.out _ (HC.out.trans (WSt.ch HB.out v))).size
      have hlen1 : ([] ++ (ps1.take k).flatten ++ [115, 116, 114, 117, 99, 116, 32]).length ≤ 1000000 := by
        have h4 : ([115, 116, 114, 117, 99, 116, 32] : List Nat).length = 7 := rfl
        rw [List.length_append, h4]
        omega
      have hput := WSt.putL HB.out HS0.out [115, 116, 114, 117, 99, 116, 32]
      have hcall := fun (t : ByteArray) (ht : bl t = [115, 116, 114, 117, 99, 116, 32]) => rwname_ok (w.heap.size + 1) _ nm (by rw [HNM.out]; exact HXN.out) (wr.setCell ⟨w.heap.size + 1, 0, none⟩ (.string (s ++ t))) ⟨_, (hput t ht).1, (hput t ht).2⟩ (by omega)
      have HCALL := hid hcall
      have HC1 := hid (fun v => HC.out.trans (WSt.ch HB.out v))
      have HLEN1 := hid hlen1
      clear hcall hput HC HS0 HB hlen1 hlen0
      go_wp2_with fail
      refine (rneed_true (w.heap.size + 1) 3 wr).mono ?_
      rintro e w3 ⟨rfl, hw3⟩
      subst w3
      go_wp2_with fail
      refine Calls.mono (HCALL.out _ ?_) ?_
      · rfl
      rintro e wb ⟨rfl, ⟨sb, hBb, hsb⟩, hcb⟩
      clear x0 x1 xf za0 zal zan zap zag zb0 zbl zbn zbp zbg
      have hcB := (HC1.out _).trans hcb
      have hszb : sb.size ≤ 1000100 := by
        have h1 := HLEN1.out
        rw [← bl_length, hsb, List.length_append, bl_length nm]
        omega
      have HPUT2 := hid (WSt.putL hBb hsb [32, 123, 10])
      have HBb := hid hBb
      have HC2 := hid (fun v => hcB.trans (WSt.ch HBb.out v))
      clear HCALL HC1 hcb hcB hBb hsb hsz
      have z0 := HBb.out.cell 0 rfl
      have z1 := HBb.out.cell 1 rfl
      have zf := HBb.out.frozen
      obtain ⟨AC, hAC⟩ : ∃ A, A = [] ++ (ps1.take k).flatten ++ [115, 116, 114, 117, 99, 116, 32] ++ bl nm ++ [32, 123, 10] := ⟨_, rfl⟩
      have hACl : AC.length ≤ 1000103 := by
        have h1 := HLEN1.out
        rw [hAC]
        have h5 : ([32, 123, 10] : List Nat).length = 3 := rfl
        rw [List.length_append, List.length_append, bl_length nm, h5]
        omega
      rw [← hAC] at HPUT2
      have HAC := hid hAC
      have HACL := hid hACl
      clear hAC HLEN1 hACl
      obtain ⟨qs, hqs⟩ : ∃ q, q = x.2.map Pl.fldX := ⟨_, rfl⟩
      have hQL : ∀ j, (qs.take j).flatten.length ≤ 5000 := fun j => by
        have h1 := flat_len 153 qs (by rw [hqs]; exact part_lens _ _ fld_len x.2 HXF.out) j
        have h2 : qs.length = mf := by rw [hqs, List.length_map, ← HMF.out]
        rw [h2] at h1
        omega
      have HQS := hid hqs
      have HQL := hid hQL
      clear hqs hQL
      go_wp2_with fail
      go_loopw [6] (fun i wr => PrI (w.heap.size + 1) AC qs mf w2 i wr) (fun i _ => mf - (intOf i).toNat)
      case atStart =>
        refine ⟨0, Nat.zero_le _, rfl, ⟨_, (HPUT2.out _ ?_).1, ?_⟩, HC2.out _⟩
        · rfl
        · rw [(HPUT2.out _ rfl).2]; simp
      case round =>
       clear z0 z1 zf
       clear HPUT2 HC2 HBb hszb
       obtain ⟨j, hj, rfl, ⟨s2, hB, hs⟩, hc⟩ := hrel.all
       clear hrel
       have HB := hid hB
       have HS1 := hid hs
       have HC := hid hc
       have hblt := hB.lt
       have hlenA : (AC ++ (qs.take j).flatten).length ≤ 1010000 := by
         have h1 := HQL.out j
         have h2 := HACL.out
         rw [List.length_append]
         omega
       have hsz2 : s2.size ≤ 1010000 := by rw [← bl_length, hs]; exact hlenA
       have HLENA := hid hlenA
       clear hB hs hc hlenA
       have x0 := HB.out.cell 0 rfl
       have x1 := HB.out.cell 1 rfl
       have xf := HB.out.frozen
       have zw := HBEL.out _ HC.out
       have za0 := (HBOX.out _ HC.out).cell 0 rfl
       have zal := (HBOX.out _ HC.out).lt
       have zan := (zw.cell hg).trans HN0.out
       have zap := (zw.cell hg).trans HN1.out
       have zag := Nat.lt_of_lt_of_le hg zw.size
       clear zw
       by_cases hjl : j < mf
       · as_aux_lemma =>
          obtain ⟨f, hf⟩ : ∃ f, x.2[j]? = some f := ⟨x.2[j]'(by rw [← HMF.out]; exact hjl), by simp⟩
          obtain ⟨g2, o2, cap2, c, hv, hg2, ⟨fn, fk, fs, fa, fm, fc, rfl, hfn, hty⟩, hcell⟩ := Rw.at HRW.out hf
          injection hv with e1 e2 e3
          subst e1 e3
          clear e2
          have HC0 := hid (hcell 0 _ rfl)
          have HC1 := hid (hcell 1 _ rfl)
          have HC2 := hid (hcell 2 _ rfl)
          have HC3 := hid (hcell 3 _ rfl)
          have HC4 := hid (hcell 4 _ rfl)
          simp only [Nat.add_zero] at HC0
          obtain ⟨hf1, hf2, hf3, hf4⟩ : Pl.okFld f := HXF.out f (List.mem_of_getElem? hf)
          have hqj : qs[j]? = some (Pl.fldX f) := by rw [HQS.out, List.getElem?_map, hf]; rfl
          have HQJ := hid hqj
          have HFN := hid hfn
          have hfl := Pl.name_len hf2
          rw [← hfn, bl_length] at hfl
          have hjI : (j : Int) < (mf : Int) := by omega
          have HF1 := hid hf1
          have HF2 := hid hf2
          have HF3 := hid hf3
          have HF4 := hid hf4
          have HTY := hid hty
          clear hcell hqj hfn hf hf1 hf2 hf3 hf4 hty
          have zw := HBEL.out _ HC.out
          have zbc0 := (zw.cell hg2).trans HC0.out
          have zbc1 := (zw.cell hg2).trans HC1.out
          have zbc2 := (zw.cell hg2).trans HC2.out
          have zbc3 := (zw.cell hg2).trans HC3.out
          have zbc4 := (zw.cell hg2).trans HC4.out
          have zbh := Nat.lt_of_lt_of_le hg2 zw.size
          clear zw
          have hne : wr.heap.size ≠ w.heap.size + 1 := by omega
          have hput1 := WSt.putL HB.out HS1.out [9]
          have hFS1 : ∀ v, Bx ((wr.setCell ⟨w.heap.size + 1, 0, none⟩ v).alloc (.cells #[.string fn, .int .i64 (f.num : Int), .int .i64 fk, .string fs, .slice fa fm fc] 83)) wr.heap.size [.string fn, .int .i64 (f.num : Int), .int .i64 fk, .string fs, .slice fa fm fc] 83 := fun v => Bx.newAt (by simp) _ _
          have hcS1 : ∀ v, Ch (Xo (w.heap.size + 1)) w2 ((wr.setCell ⟨w.heap.size + 1, 0, none⟩ v).alloc (.cells #[.string fn, .int .i64 (f.num : Int), .int .i64 fk, .string fs, .slice fa fm fc] 83)) := fun v => (HC.out.trans (WSt.ch HB.out v)).trans (Ch.alloc _ _)
          have zpf1 := fun v => (hFS1 v).cell 1 rfl
          have HCALL1 := hid fun (t : ByteArray) (ht : bl t = [9]) => rwnumber_ok (w.heap.size + 1) _ f.num HF1.out ((wr.setCell ⟨w.heap.size + 1, 0, none⟩ (.string (s2 ++ t))).alloc (.cells #[.string fn, .int .i64 (f.num : Int), .int .i64 fk, .string fs, .slice fa fm fc] 83)) ⟨_, ((hput1 t ht).1.alloc _), (hput1 t ht).2⟩ (by have h1 := HLENA.out; have h6 : ([9] : List Nat).length = 1 := rfl; rw [List.length_append, h6]; omega)
          have HCS1 := hid hcS1
          have HFS1 := hid hFS1
          clear hcS1 hput1 hFS1
          go_wp2_with fail
          refine Calls.mono (HCALL1.out _ ?_) ?_
          · rfl
          rintro e u1 ⟨rfl, ⟨t1, hBU1, hsU1⟩, hcU⟩
          clear x0 x1 xf za0 zal zan zap zag zbc0 zbc1 zbc2 zbc3 zbc4 zbh zpf1
          have hcU1 := (HCS1.out _).trans hcU
          have HFU1 := hid ((HFS1.out _).ch hcU fun e => hne e)
          have hlen1 : (bl t1).length ≤ 1010010 := by
            have h7 := HLENA.out
            have h6 : ([9] : List Nat).length = 1 := rfl
            have h8 := (show (Pl.dec f.num).length ≤ 9 from Pl.decS_len 20 f.num 9 (by have := HF1.out; omega) (by omega))
            rw [hsU1, List.length_append, List.length_append, h6]
            omega
          have hszt1 : t1.size ≤ 1010010 := by rw [← bl_length]; exact hlen1
          have HSU1 := hid hsU1
          have HBU1 := hid hBU1
          have HCU1 := hid hcU1
          rw [hsU1] at hlen1
          have HLEN1 := hid hlen1
          clear HCALL1 HCS1 hcU hcU1 hBU1 hsU1 hlen1 HFS1 hsz2
          have v10 := HBU1.out.cell 0 rfl
          have v11 := HBU1.out.cell 1 rfl
          have v1f := HBU1.out.frozen
          have hput2 := WSt.putL HBU1.out HSU1.out [32]
          have hcS2 := fun v => HCU1.out.trans (WSt.ch HBU1.out v)
          have hFS2 := fun v => Bx.other (k := 0) HFU1.out hne v
          have zqf0 := fun v => (hFS2 v).cell 0 rfl
          have HCALL2 := hid fun (t : ByteArray) (ht : bl t = [32]) => rwname_ok (w.heap.size + 1) _ fn (by rw [HFN.out]; exact HF2.out) (u1.setCell ⟨w.heap.size + 1, 0, none⟩ (.string (t1 ++ t))) ⟨_, (hput2 t ht).1, (hput2 t ht).2⟩ (by have h1 := HLEN1.out; have h6 : ([32] : List Nat).length = 1 := rfl; rw [List.length_append, h6]; omega)
          have HCS2 := hid hcS2
          have HFS2 := hid hFS2
          clear hcS2 hput2 hFS2
          clear HBU1 HCU1 HFU1
          go_wp2_with fail
          refine Calls.mono (HCALL2.out _ ?_) ?_
          · rfl
          rintro e u2 ⟨rfl, ⟨t2, hBU2, hsU2⟩, hcU⟩
          clear v10 v11 v1f zqf0
          have hcU2 := (HCS2.out _).trans hcU
          have HFU2 := hid ((HFS2.out _).ch hcU fun e => hne e)
          have hlen2 : (bl t2).length ≤ 1010043 := by
            have h7 := HLEN1.out
            have h6 : ([32] : List Nat).length = 1 := rfl
            have h8 := (show (bl fn).length ≤ 32 by rw [bl_length]; exact hfl)
            rw [hsU2, List.length_append, List.length_append, h6]
            omega
          have hszt2 : t2.size ≤ 1010043 := by rw [← bl_length]; exact hlen2
          have HSU2 := hid hsU2
          have HBU2 := hid hBU2
          have HCU2 := hid hcU2
          rw [hsU2] at hlen2
          have HLEN2 := hid hlen2
          clear HCALL2 HCS2 hcU hcU2 hBU2 hsU2 hlen2 HFS2 hszt1
          have v20 := HBU2.out.cell 0 rfl
          have v21 := HBU2.out.cell 1 rfl
          have v2f := HBU2.out.frozen
          have hput3 := WSt.putL HBU2.out HSU2.out [58, 32]
          have hcS3 := fun v => HCU2.out.trans (WSt.ch HBU2.out v)
          have hFS3 := fun v => Bx.other (k := 0) HFU2.out hne v
          have zrf2 := fun v => (hFS3 v).cell 2 rfl
          have zrf3 := fun v => (hFS3 v).cell 3 rfl
          have zrf4 := fun v => (hFS3 v).cell 4 rfl
          have HCALL3 := hid fun (t : ByteArray) (ht : bl t = [58, 32]) => rwkind_ok (w.heap.size + 1) _ f.ty HF4.out HF3.out _ _ _ (u2.setCell ⟨w.heap.size + 1, 0, none⟩ (.string (t2 ++ t))) (TyG.below (HBEL.out _ (hcS3 _)) _ _ _ _ HTY.out) ⟨_, (hput3 t ht).1, (hput3 t ht).2⟩ (by have h1 := HLEN2.out; have h6 : ([58, 32] : List Nat).length = 2 := rfl; rw [List.length_append, h6]; omega)
          have HCS3 := hid hcS3
          have HFS3 := hid hFS3
          clear hcS3 hput3 hFS3
          clear HBU2 HCU2 HFU2
          go_wp2_with fail
          refine Calls.mono (HCALL3.out _ ?_) ?_
          · rfl
          rintro e u3 ⟨rfl, ⟨t3, hBU3, hsU3⟩, hcU⟩
          clear v20 v21 v2f zrf2 zrf3 zrf4
          have hcU3 := (HCS3.out _).trans hcU
          have HFU3 := hid ((HFS3.out _).ch hcU fun e => hne e)
          have hlen3 : (bl t3).length ≤ 1010093 := by
            have h7 := HLEN2.out
            have h6 : ([58, 32] : List Nat).length = 2 := rfl
            have h8 : (Pl.tyX f.ty).length ≤ 48 := by have h1 := Pl.ty_len f.ty HF3.out; have h2 := HF4.out; omega
            rw [hsU3, List.length_append, List.length_append, h6]
            omega
          have hszt3 : t3.size ≤ 1010093 := by rw [← bl_length]; exact hlen3
          have HSU3 := hid hsU3
          have HBU3 := hid hBU3
          have HCU3 := hid hcU3
          rw [hsU3] at hlen3
          have HLEN3 := hid hlen3
          clear HCALL3 HCS3 hcU hcU3 hBU3 hsU3 hlen3 HFS3 hszt2
          have v30 := HBU3.out.cell 0 rfl
          have v31 := HBU3.out.cell 1 rfl
          have v3f := HBU3.out.frozen
          have HPE := hid (WSt.putL HBU3.out HSU3.out [59, 10])
          have HCE := hid (fun v => HCU3.out.trans (WSt.ch HBU3.out v))
          clear HBU3 HCU3
          go_wp2_with fail
          refine ⟨⟨j + 1, by omega, by go_num, ⟨_, (HPE.out _ ?_).1, ?_⟩, HCE.out _⟩, by simp [intOf]; omega⟩
          · rfl
          rw [(HPE.out _ rfl).2, flat_step qs j _ HQJ.out, HFN.out]
          simp [Pl.fldX]
       · have hjI : ¬ (j : Int) < (mf : Int) := by omega
         have hje : qs.take j = qs := List.take_of_length_le (by rw [HQS.out, List.length_map, ← HMF.out]; omega)
         have hsE := HS1.out
         rw [hje] at hsE
         have HPE := hid (WSt.putL HB.out hsE [125, 10])
         have HCE := hid (fun v => HC.out.trans (WSt.ch HB.out v))
         clear hsE hje
         go_wp2_with fail
         refine ⟨⟨k + 1, by omega, by go_num, ⟨_, (HPE.out _ ?_).1, ?_⟩, HCE.out _⟩, by simp [intOf]; omega⟩
         · rfl
         rw [(HPE.out _ rfl).2, flat_step ps1 k (Pl.declX (Pl.mkSt x)) (by rw [HPS1.out, List.getElem?_map, HX.out]; rfl), HAC.out, HNM.out, HQS.out]
         simp [Pl.declX, Pl.mkSt, Pl.bodyX, Pl.wStruct]
   · as_aux_lemma =>
      have hltI : ¬ (k : Int) < (M1 : Int) := by omega
      have ye := HALL1.out k (by omega) hk
      rw [ye] at HS0
      clear ye
      have y0 := (HBOX.out _ HC.out).cell 0 rfl
      clear hlen0
      go_wp2_with fail
      clear y0 x0 x1 xf
      go_loopw [8] (fun i wr => PrI (w.heap.size + 1) ps1.flatten ps2 M2 w2 i wr) (fun i _ => M2 - (intOf i).toNat)
      case atStart => exact ⟨0, Nat.zero_le _, rfl, ⟨_, HB.out, by rw [HS0.out]; simp⟩, HC.out⟩
      case round =>
       clear HB HS0 HC
       obtain ⟨k, hk, rfl, ⟨s, hB, hs⟩, hc⟩ := hrel.all
       clear hrel
       have HB := hid hB
       have HS0 := hid hs
       have HC := hid hc
       have hlen0 : (ps1.flatten ++ (ps2.take k).flatten).length ≤ 990000 := by
         have h1 := HL2.out k
         have h2 := HL1.out M1
         rw [HALL1.out M1 (by omega) (Nat.le_refl _)] at h2
         simp only [List.length_append]
         omega
       have hsz : s.size ≤ 990000 := by rw [← bl_length, hs]; exact hlen0
       clear hB hs hc
       have x0 := HB.out.cell 0 rfl
       have x1 := HB.out.cell 1 rfl
       have xf := HB.out.frozen
       by_cases hlt : k < M2
       · as_aux_lemma =>
          obtain ⟨x, hx⟩ : ∃ x, en[k]? = some x := ⟨en[k]'(by rw [← HM2.out]; exact hlt), by simp⟩
          obtain ⟨g1, o1, cap1, c, hv, hg, ⟨nm, af, mf, cf, rfl, hnm, hrw⟩, hcell⟩ := Rw.at HS.out.2.1 hx
          injection hv with e1 e2 e3
          subst e1 e3
          clear e2
          have hn0 := hcell 0 _ rfl
          have hn1 := hcell 1 _ rfl
          simp only [Nat.add_zero] at hn0
          have HN0 := hid hn0
          have HN1 := hid hn1
          obtain ⟨hxn, hxl, hxf⟩ : Pl.okName x.1 ∧ x.2.length ≤ 32 ∧ ∀ f ∈ x.2, Pl.okCas f := HD2.out x (List.mem_of_getElem? hx)
          have hmf : mf = x.2.length := by obtain ⟨_, _, hsh⟩ := hrw.shape; injection hsh
          have hm32 : mf ≤ 32 := by omega
          have HMF := hid hmf
          have HRW := hid hrw
          have HXF := hid hxf
          have HXN := hid hxn
          have HNM := hid hnm
          have HX := hid hx
          have hnl := Pl.name_len hxn
          rw [← hnm, bl_length] at hnl
          clear hcell hn0 hn1 hrw hxf hxn hnm hmf hxl hx
          have hltI : (k : Int) < (M2 : Int) := by omega
          have hmI : (mf : Int) ≤ 32 := by omega
          have zw := HBEL.out _ HC.out
          have za0 := (HBOX.out _ HC.out).cell 1 rfl
          have zal := (HBOX.out _ HC.out).lt
          have zan := (zw.cell hg).trans HN0.out
          have zap := (zw.cell hg).trans HN1.out
          have zag := Nat.lt_of_lt_of_le hg zw.size
          clear zw
          have zb0 := fun v => (HBOX.out _ (HC.out.trans (WSt.ch HB.out v))).cell 1 rfl
          have zbl := fun v => (HBOX.out _ (HC.out.trans (WSt.ch HB.out v))).lt
          have zbn := fun v => ((HBEL.out _ (HC.out.trans (WSt.ch HB.out v))).cell hg).trans HN0.out
          have zbp := fun v => ((HBEL.out _ (HC.out.trans (WSt.ch HB.out v))).cell hg).trans HN1.out
          have zbg := fun v => Nat.lt_of_lt_of_le hg (HBEL.out _ (HC.out.trans (WSt.ch HB.out v))).size
          have hlen1 : (ps1.flatten ++ (ps2.take k).flatten ++ [101, 110, 117, 109, 32]).length ≤ 1000000 := by
            have h4 : ([101, 110, 117, 109, 32] : List Nat).length = 5 := rfl
            rw [List.length_append, h4]
            omega
          have hput := WSt.putL HB.out HS0.out [101, 110, 117, 109, 32]
          have hcall := fun (t : ByteArray) (ht : bl t = [101, 110, 117, 109, 32]) => rwname_ok (w.heap.size + 1) _ nm (by rw [HNM.out]; exact HXN.out) (wr.setCell ⟨w.heap.size + 1, 0, none⟩ (.string (s ++ t))) ⟨_, (hput t ht).1, (hput t ht).2⟩ (by omega)
          have HCALL := hid hcall
          have HC1 := hid (fun v => HC.out.trans (WSt.ch HB.out v))
          have HLEN1 := hid hlen1
          clear hcall hput HC HS0 HB hlen1 hlen0
          go_wp2_with fail
          refine (rneed_true (w.heap.size + 1) 3 wr).mono ?_
          rintro e w3 ⟨rfl, hw3⟩
          subst w3
          go_wp2_with fail
          refine Calls.mono (HCALL.out _ ?_) ?_
          · rfl
          rintro e wb ⟨rfl, ⟨sb, hBb, hsb⟩, hcb⟩
          clear x0 x1 xf za0 zal zan zap zag zb0 zbl zbn zbp zbg
          have hcB := (HC1.out _).trans hcb
          have hszb : sb.size ≤ 1000100 := by
            have h1 := HLEN1.out
            rw [← bl_length, hsb, List.length_append, bl_length nm]
            omega
          have HPUT2 := hid (WSt.putL hBb hsb [32, 123, 10])
          have HBb := hid hBb
          have HC2 := hid (fun v => hcB.trans (WSt.ch HBb.out v))
          clear HCALL HC1 hcb hcB hBb hsb hsz
          have z0 := HBb.out.cell 0 rfl
          have z1 := HBb.out.cell 1 rfl
          have zf := HBb.out.frozen
          obtain ⟨AC, hAC⟩ : ∃ A, A = ps1.flatten ++ (ps2.take k).flatten ++ [101, 110, 117, 109, 32] ++ bl nm ++ [32, 123, 10] := ⟨_, rfl⟩
          have hACl : AC.length ≤ 1000103 := by
            have h1 := HLEN1.out
            rw [hAC]
            have h5 : ([32, 123, 10] : List Nat).length = 3 := rfl
            rw [List.length_append, List.length_append, bl_length nm, h5]
            omega
          rw [← hAC] at HPUT2
          have HAC := hid hAC
          have HACL := hid hACl
          clear hAC HLEN1 hACl
          obtain ⟨qs, hqs⟩ : ∃ q, q = x.2.map Pl.casX := ⟨_, rfl⟩
          have hQL : ∀ j, (qs.take j).flatten.length ≤ 5000 := fun j => by
            have h1 := flat_len 153 qs (by rw [hqs]; exact part_lens _ _ cas_len x.2 HXF.out) j
            have h2 : qs.length = mf := by rw [hqs, List.length_map, ← HMF.out]
            rw [h2] at h1
            omega
          have HQS := hid hqs
          have HQL := hid hQL
          clear hqs hQL
          go_wp2_with fail
          go_loopw [9] (fun i wr => PrI (w.heap.size + 1) AC qs mf w2 i wr) (fun i _ => mf - (intOf i).toNat)
          case atStart =>
            refine ⟨0, Nat.zero_le _, rfl, ⟨_, (HPUT2.out _ ?_).1, ?_⟩, HC2.out _⟩
            · rfl
            · rw [(HPUT2.out _ rfl).2]; simp
          case round =>
           clear z0 z1 zf
           clear HPUT2 HC2 HBb hszb
           obtain ⟨j, hj, rfl, ⟨s2, hB, hs⟩, hc⟩ := hrel.all
           clear hrel
           have HB := hid hB
           have HS1 := hid hs
           have HC := hid hc
           have hblt := hB.lt
           have hlenA : (AC ++ (qs.take j).flatten).length ≤ 1010000 := by
             have h1 := HQL.out j
             have h2 := HACL.out
             rw [List.length_append]
             omega
           have hsz2 : s2.size ≤ 1010000 := by rw [← bl_length, hs]; exact hlenA
           have HLENA := hid hlenA
           clear hB hs hc hlenA
           have x0 := HB.out.cell 0 rfl
           have x1 := HB.out.cell 1 rfl
           have xf := HB.out.frozen
           have zw := HBEL.out _ HC.out
           have za0 := (HBOX.out _ HC.out).cell 1 rfl
           have zal := (HBOX.out _ HC.out).lt
           have zan := (zw.cell hg).trans HN0.out
           have zap := (zw.cell hg).trans HN1.out
           have zag := Nat.lt_of_lt_of_le hg zw.size
           clear zw
           by_cases hjl : j < mf
           · as_aux_lemma =>
              obtain ⟨f, hf⟩ : ∃ f, x.2[j]? = some f := ⟨x.2[j]'(by rw [← HMF.out]; exact hjl), by simp⟩
              obtain ⟨g2, o2, cap2, c, hv, hg2, ⟨fn, rfl, hfn⟩, hcell⟩ := Rw.at HRW.out hf
              injection hv with e1 e2 e3
              subst e1 e3
              clear e2
              have HC0 := hid (hcell 0 _ rfl)
              have HC1 := hid (hcell 1 _ rfl)
              simp only [Nat.add_zero] at HC0
              obtain ⟨hf1, hf2⟩ : Pl.okCas f := HXF.out f (List.mem_of_getElem? hf)
              have hqj : qs[j]? = some (Pl.casX f) := by rw [HQS.out, List.getElem?_map, hf]; rfl
              have HQJ := hid hqj
              have HFN := hid hfn
              have hfl := Pl.name_len hf2
              rw [← hfn, bl_length] at hfl
              have hjI : (j : Int) < (mf : Int) := by omega
              have HF1 := hid hf1
              have HF2 := hid hf2
              clear hcell hqj hfn hf hf1 hf2
              have zw := HBEL.out _ HC.out
              have zbc0 := (zw.cell hg2).trans HC0.out
              have zbc1 := (zw.cell hg2).trans HC1.out
              have zbh := Nat.lt_of_lt_of_le hg2 zw.size
              clear zw
              have hput1 := WSt.putL HB.out HS1.out [9]
              have hcS1 := fun v => HC.out.trans (WSt.ch HB.out v)
              have zp0 := fun v => (HBOX.out _ (HC.out.trans (WSt.ch HB.out v))).cell 1 rfl
              have zpl := fun v => (HBOX.out _ (HC.out.trans (WSt.ch HB.out v))).lt
              have zpn := fun v => ((HBEL.out _ (HC.out.trans (WSt.ch HB.out v))).cell hg).trans HN0.out
              have zpp := fun v => ((HBEL.out _ (HC.out.trans (WSt.ch HB.out v))).cell hg).trans HN1.out
              have zpg := fun v => Nat.lt_of_lt_of_le hg (HBEL.out _ (HC.out.trans (WSt.ch HB.out v))).size
              have zpc0 := fun v => ((HBEL.out _ (HC.out.trans (WSt.ch HB.out v))).cell hg2).trans HC0.out
              have zpc1 := fun v => ((HBEL.out _ (HC.out.trans (WSt.ch HB.out v))).cell hg2).trans HC1.out
              have zph := fun v => Nat.lt_of_lt_of_le hg2 (HBEL.out _ (HC.out.trans (WSt.ch HB.out v))).size
              have HCALL1 := hid fun (t : ByteArray) (ht : bl t = [9]) => rwnumber_ok (w.heap.size + 1) _ f.num HF1.out (wr.setCell ⟨w.heap.size + 1, 0, none⟩ (.string (s2 ++ t))) ⟨_, (hput1 t ht).1, (hput1 t ht).2⟩ (by have h1 := HLENA.out; have h6 : ([9] : List Nat).length = 1 := rfl; rw [List.length_append, h6]; omega)
              have HCS1 := hid hcS1
              clear hcS1 hput1
              go_wp2_with fail
              refine Calls.mono (HCALL1.out _ ?_) ?_
              · rfl
              rintro e u1 ⟨rfl, ⟨t1, hBU1, hsU1⟩, hcU⟩
              clear x0 x1 xf za0 zal zan zap zag zbc0 zbc1 zbh zp0 zpl zpn zpp zpg zpc0 zpc1 zph
              have hcU1 := (HCS1.out _).trans hcU
              have hlen1 : (bl t1).length ≤ 1010010 := by
                have h7 := HLENA.out
                have h6 : ([9] : List Nat).length = 1 := rfl
                have h8 := (show (Pl.dec f.num).length ≤ 9 from Pl.decS_len 20 f.num 9 (by have := HF1.out; omega) (by omega))
                rw [hsU1, List.length_append, List.length_append, h6]
                omega
              have hszt1 : t1.size ≤ 1010010 := by rw [← bl_length]; exact hlen1
              have HSU1 := hid hsU1
              have HBU1 := hid hBU1
              have HCU1 := hid hcU1
              rw [hsU1] at hlen1
              have HLEN1 := hid hlen1
              clear HCALL1 HCS1 hcU hcU1 hBU1 hsU1 hlen1 hsz2
              have v10 := HBU1.out.cell 0 rfl
              have v11 := HBU1.out.cell 1 rfl
              have v1f := HBU1.out.frozen
              have hput2 := WSt.putL HBU1.out HSU1.out [32]
              have hcS2 := fun v => HCU1.out.trans (WSt.ch HBU1.out v)
              have zq0 := fun v => (HBOX.out _ (HCU1.out.trans (WSt.ch HBU1.out v))).cell 1 rfl
              have zql := fun v => (HBOX.out _ (HCU1.out.trans (WSt.ch HBU1.out v))).lt
              have zqn := fun v => ((HBEL.out _ (HCU1.out.trans (WSt.ch HBU1.out v))).cell hg).trans HN0.out
              have zqp := fun v => ((HBEL.out _ (HCU1.out.trans (WSt.ch HBU1.out v))).cell hg).trans HN1.out
              have zqg := fun v => Nat.lt_of_lt_of_le hg (HBEL.out _ (HCU1.out.trans (WSt.ch HBU1.out v))).size
              have zqc0 := fun v => ((HBEL.out _ (HCU1.out.trans (WSt.ch HBU1.out v))).cell hg2).trans HC0.out
              have zqc1 := fun v => ((HBEL.out _ (HCU1.out.trans (WSt.ch HBU1.out v))).cell hg2).trans HC1.out
              have zqh := fun v => Nat.lt_of_lt_of_le hg2 (HBEL.out _ (HCU1.out.trans (WSt.ch HBU1.out v))).size
              have HCALL2 := hid fun (t : ByteArray) (ht : bl t = [32]) => rwname_ok (w.heap.size + 1) _ fn (by rw [HFN.out]; exact HF2.out) (u1.setCell ⟨w.heap.size + 1, 0, none⟩ (.string (t1 ++ t))) ⟨_, (hput2 t ht).1, (hput2 t ht).2⟩ (by have h1 := HLEN1.out; have h6 : ([32] : List Nat).length = 1 := rfl; rw [List.length_append, h6]; omega)
              have HCS2 := hid hcS2
              clear hcS2 hput2
              clear HBU1 HCU1
              go_wp2_with fail
              refine Calls.mono (HCALL2.out _ ?_) ?_
              · rfl
              rintro e u2 ⟨rfl, ⟨t2, hBU2, hsU2⟩, hcU⟩
              clear v10 v11 v1f zq0 zql zqn zqp zqg zqc0 zqc1 zqh
              have hcU2 := (HCS2.out _).trans hcU
              have hlen2 : (bl t2).length ≤ 1010043 := by
                have h7 := HLEN1.out
                have h6 : ([32] : List Nat).length = 1 := rfl
                have h8 := (show (bl fn).length ≤ 32 by rw [bl_length]; exact hfl)
                rw [hsU2, List.length_append, List.length_append, h6]
                omega
              have hszt2 : t2.size ≤ 1010043 := by rw [← bl_length]; exact hlen2
              have HSU2 := hid hsU2
              have HBU2 := hid hBU2
              have HCU2 := hid hcU2
              rw [hsU2] at hlen2
              have HLEN2 := hid hlen2
              clear HCALL2 HCS2 hcU hcU2 hBU2 hsU2 hlen2 hszt1
              have v20 := HBU2.out.cell 0 rfl
              have v21 := HBU2.out.cell 1 rfl
              have v2f := HBU2.out.frozen
              have HPE := hid (WSt.putL HBU2.out HSU2.out [59, 10])
              have HCE := hid (fun v => HCU2.out.trans (WSt.ch HBU2.out v))
              clear HBU2 HCU2
              go_wp2_with fail
              refine ⟨⟨j + 1, by omega, by go_num, ⟨_, (HPE.out _ ?_).1, ?_⟩, HCE.out _⟩, by simp [intOf]; omega⟩
              · rfl
              rw [(HPE.out _ rfl).2, flat_step qs j _ HQJ.out, HFN.out]
              simp [Pl.casX]
           · have hjI : ¬ (j : Int) < (mf : Int) := by omega
             have hje : qs.take j = qs := List.take_of_length_le (by rw [HQS.out, List.length_map, ← HMF.out]; omega)
             have hsE := HS1.out
             rw [hje] at hsE
             have HPE := hid (WSt.putL HB.out hsE [125, 10])
             have HCE := hid (fun v => HC.out.trans (WSt.ch HB.out v))
             clear hsE hje
             go_wp2_with fail
             refine ⟨⟨k + 1, by omega, by go_num, ⟨_, (HPE.out _ ?_).1, ?_⟩, HCE.out _⟩, by simp [intOf]; omega⟩
             · rfl
             rw [(HPE.out _ rfl).2, flat_step ps2 k (Pl.declX (Pl.mkEn x)) (by rw [HPS2.out, List.getElem?_map, HX.out]; rfl), HAC.out, HNM.out, HQS.out]
             simp [Pl.declX, Pl.mkEn, Pl.bodyX, Pl.wEnum]
       · as_aux_lemma =>
          have hltI : ¬ (k : Int) < (M2 : Int) := by omega
          have ye := HALL2.out k (by omega) hk
          rw [ye] at HS0
          clear ye
          have y0 := (HBOX.out _ HC.out).cell 1 rfl
          clear hlen0
          go_wp2_with fail
          clear y0 x0 x1 xf
          go_loopw [10] (fun i wr => PrI (w.heap.size + 1) (ps1.flatten ++ ps2.flatten) ps3 M3 w2 i wr) (fun i _ => M3 - (intOf i).toNat)
          case atStart => exact ⟨0, Nat.zero_le _, rfl, ⟨_, HB.out, by rw [HS0.out]; simp⟩, HC.out⟩
          case round =>
           clear HB HS0 HC
           obtain ⟨k, hk, rfl, ⟨s, hB, hs⟩, hc⟩ := hrel.all
           clear hrel
           have HB := hid hB
           have HS0 := hid hs
           have HC := hid hc
           have hlen0 : ((ps1.flatten ++ ps2.flatten) ++ (ps3.take k).flatten).length ≤ 990000 := by
             have h1 := HL3.out k
             have h2 := HL1.out M1
             rw [HALL1.out M1 (by omega) (Nat.le_refl _)] at h2
             have h3 := HL2.out M2
             rw [HALL2.out M2 (by omega) (Nat.le_refl _)] at h3
             simp only [List.length_append]
             omega
           have hsz : s.size ≤ 990000 := by rw [← bl_length, hs]; exact hlen0
           clear hB hs hc
           have x0 := HB.out.cell 0 rfl
           have x1 := HB.out.cell 1 rfl
           have xf := HB.out.frozen
           by_cases hlt : k < M3
           · as_aux_lemma =>
              obtain ⟨x, hx⟩ : ∃ x, sv[k]? = some x := ⟨sv[k]'(by rw [← HM3.out]; exact hlt), by simp⟩
              obtain ⟨g1, o1, cap1, c, hv, hg, ⟨nm, af, mf, cf, rfl, hnm, hrw⟩, hcell⟩ := Rw.at HS.out.2.2 hx
              injection hv with e1 e2 e3
              subst e1 e3
              clear e2
              have hn0 := hcell 0 _ rfl
              have hn1 := hcell 1 _ rfl
              simp only [Nat.add_zero] at hn0
              have HN0 := hid hn0
              have HN1 := hid hn1
              obtain ⟨hxn, hxl, hxf⟩ : Pl.okName x.1 ∧ x.2.length ≤ 32 ∧ ∀ f ∈ x.2, Pl.okMth f := HD3.out x (List.mem_of_getElem? hx)
              have hmf : mf = x.2.length := by obtain ⟨_, _, hsh⟩ := hrw.shape; injection hsh
              have hm32 : mf ≤ 32 := by omega
              have HMF := hid hmf
              have HRW := hid hrw
              have HXF := hid hxf
              have HXN := hid hxn
              have HNM := hid hnm
              have HX := hid hx
              have hnl := Pl.name_len hxn
              rw [← hnm, bl_length] at hnl
              clear hcell hn0 hn1 hrw hxf hxn hnm hmf hxl hx
              have hltI : (k : Int) < (M3 : Int) := by omega
              have hmI : (mf : Int) ≤ 32 := by omega
              have zw := HBEL.out _ HC.out
              have za0 := (HBOX.out _ HC.out).cell 2 rfl
              have zal := (HBOX.out _ HC.out).lt
              have zan := (zw.cell hg).trans HN0.out
              have zap := (zw.cell hg).trans HN1.out
              have zag := Nat.lt_of_lt_of_le hg zw.size
              clear zw
              have zb0 := fun v => (HBOX.out _ (HC.out.trans (WSt.ch HB.out v))).cell 2 rfl
              have zbl := fun v => (HBOX.out _ (HC.out.trans (WSt.ch HB.out v))).lt
              have zbn := fun v => ((HBEL.out _ (HC.out.trans (WSt.ch HB.out v))).cell hg).trans HN0.out
              have zbp := fun v => ((HBEL.out _ (HC.out.trans (WSt.ch HB.out v))).cell hg).trans HN1.out
              have zbg := fun v => Nat.lt_of_lt_of_le hg (HBEL.out _ (HC.out.trans (WSt.ch HB.out v))).size
              have hlen1 : ((ps1.flatten ++ ps2.flatten) ++ (ps3.take k).flatten ++ [115, 101, 114, 118, 105, 99, 101, 32]).length ≤ 1000000 := by
                have h4 : ([115, 101, 114, 118, 105, 99, 101, 32] : List Nat).length = 8 := rfl
                rw [List.length_append, h4]
                omega
              have hput := WSt.putL HB.out HS0.out [115, 101, 114, 118, 105, 99, 101, 32]
              have hcall := fun (t : ByteArray) (ht : bl t = [115, 101, 114, 118, 105, 99, 101, 32]) => rwname_ok (w.heap.size + 1) _ nm (by rw [HNM.out]; exact HXN.out) (wr.setCell ⟨w.heap.size + 1, 0, none⟩ (.string (s ++ t))) ⟨_, (hput t ht).1, (hput t ht).2⟩ (by omega)
              have HCALL := hid hcall
              have HC1 := hid (fun v => HC.out.trans (WSt.ch HB.out v))
              have HLEN1 := hid hlen1
              clear hcall hput HC HS0 HB hlen1 hlen0
              go_wp2_with fail
              refine (rneed_true (w.heap.size + 1) 3 wr).mono ?_
              rintro e w3 ⟨rfl, hw3⟩
              subst w3
              go_wp2_with fail
              refine Calls.mono (HCALL.out _ ?_) ?_
              · rfl
              rintro e wb ⟨rfl, ⟨sb, hBb, hsb⟩, hcb⟩
              clear x0 x1 xf za0 zal zan zap zag zb0 zbl zbn zbp zbg
              have hcB := (HC1.out _).trans hcb
              have hszb : sb.size ≤ 1000100 := by
                have h1 := HLEN1.out
                rw [← bl_length, hsb, List.length_append, bl_length nm]
                omega
              have HPUT2 := hid (WSt.putL hBb hsb [32, 123, 10])
              have HBb := hid hBb
              have HC2 := hid (fun v => hcB.trans (WSt.ch HBb.out v))
              clear HCALL HC1 hcb hcB hBb hsb hsz
              have z0 := HBb.out.cell 0 rfl
              have z1 := HBb.out.cell 1 rfl
              have zf := HBb.out.frozen
              obtain ⟨AC, hAC⟩ : ∃ A, A = (ps1.flatten ++ ps2.flatten) ++ (ps3.take k).flatten ++ [115, 101, 114, 118, 105, 99, 101, 32] ++ bl nm ++ [32, 123, 10] := ⟨_, rfl⟩
              have hACl : AC.length ≤ 1000103 := by
                have h1 := HLEN1.out
                rw [hAC]
                have h5 : ([32, 123, 10] : List Nat).length = 3 := rfl
                rw [List.length_append, List.length_append, bl_length nm, h5]
                omega
              rw [← hAC] at HPUT2
              have HAC := hid hAC
              have HACL := hid hACl
              clear hAC HLEN1 hACl
              obtain ⟨qs, hqs⟩ : ∃ q, q = x.2.map Pl.mthX := ⟨_, rfl⟩
              have hQL : ∀ j, (qs.take j).flatten.length ≤ 5000 := fun j => by
                have h1 := flat_len 153 qs (by rw [hqs]; exact part_lens _ _ mth_len x.2 HXF.out) j
                have h2 : qs.length = mf := by rw [hqs, List.length_map, ← HMF.out]
                rw [h2] at h1
                omega
              have HQS := hid hqs
              have HQL := hid hQL
              clear hqs hQL
              go_wp2_with fail
              go_loopw [11] (fun i wr => PrI (w.heap.size + 1) AC qs mf w2 i wr) (fun i _ => mf - (intOf i).toNat)
              case atStart =>
                refine ⟨0, Nat.zero_le _, rfl, ⟨_, (HPUT2.out _ ?_).1, ?_⟩, HC2.out _⟩
                · rfl
                · rw [(HPUT2.out _ rfl).2]; simp
              case round =>
               clear z0 z1 zf
               clear HPUT2 HC2 HBb hszb
               obtain ⟨j, hj, rfl, ⟨s2, hB, hs⟩, hc⟩ := hrel.all
               clear hrel
               have HB := hid hB
               have HS1 := hid hs
               have HC := hid hc
               have hblt := hB.lt
               have hlenA : (AC ++ (qs.take j).flatten).length ≤ 1010000 := by
                 have h1 := HQL.out j
                 have h2 := HACL.out
                 rw [List.length_append]
                 omega
               have hsz2 : s2.size ≤ 1010000 := by rw [← bl_length, hs]; exact hlenA
               have HLENA := hid hlenA
               clear hB hs hc hlenA
               have x0 := HB.out.cell 0 rfl
               have x1 := HB.out.cell 1 rfl
               have xf := HB.out.frozen
               have zw := HBEL.out _ HC.out
               have za0 := (HBOX.out _ HC.out).cell 2 rfl
               have zal := (HBOX.out _ HC.out).lt
               have zan := (zw.cell hg).trans HN0.out
               have zap := (zw.cell hg).trans HN1.out
               have zag := Nat.lt_of_lt_of_le hg zw.size
               clear zw
               by_cases hjl : j < mf
               · as_aux_lemma =>
                  obtain ⟨f, hf⟩ : ∃ f, x.2[j]? = some f := ⟨x.2[j]'(by rw [← HMF.out]; exact hjl), by simp⟩
                  obtain ⟨g2, o2, cap2, c, hv, hg2, ⟨fn, fk, fs, fa, fm, fc, gk, gs, ga, gm, gc, rfl, hfn, hty, hty2⟩, hcell⟩ := Rw.at HRW.out hf
                  injection hv with e1 e2 e3
                  subst e1 e3
                  clear e2
                  obtain ⟨on, hon⟩ : ∃ b, b = f.once := ⟨_, rfl⟩
                  have HON := hid hon
                  rw [← hon] at hcell
                  clear hon
                  have HC0 := hid (hcell 0 _ rfl)
                  have HC1 := hid (hcell 1 _ rfl)
                  have HC2 := hid (hcell 2 _ rfl)
                  have HC3 := hid (hcell 3 _ rfl)
                  have HC4 := hid (hcell 4 _ rfl)
                  have HC5 := hid (hcell 5 _ rfl)
                  have HC6 := hid (hcell 6 _ rfl)
                  have HC7 := hid (hcell 7 _ rfl)
                  simp only [Nat.add_zero] at HC0
                  obtain ⟨hf2, hf3, hf4, hf5, hf6⟩ : Pl.okMth f := HXF.out f (List.mem_of_getElem? hf)
                  have hqj : qs[j]? = some (Pl.mthX f) := by rw [HQS.out, List.getElem?_map, hf]; rfl
                  have HQJ := hid hqj
                  have HFN := hid hfn
                  have hfl := Pl.name_len hf2
                  rw [← hfn, bl_length] at hfl
                  have hjI : (j : Int) < (mf : Int) := by omega
                  have HF2 := hid hf2
                  have HF3 := hid hf3
                  have HF4 := hid hf4
                  have HF5 := hid hf5
                  have HF6 := hid hf6
                  have HTY := hid hty
                  have HTY2 := hid hty2
                  clear hcell hqj hfn hf hf2 hf3 hf4 hf5 hf6 hty hty2
                  have zw := HBEL.out _ HC.out
                  have zbc0 := (zw.cell hg2).trans HC0.out
                  have zbc1 := (zw.cell hg2).trans HC1.out
                  have zbc2 := (zw.cell hg2).trans HC2.out
                  have zbc3 := (zw.cell hg2).trans HC3.out
                  have zbc4 := (zw.cell hg2).trans HC4.out
                  have zbc5 := (zw.cell hg2).trans HC5.out
                  have zbc6 := (zw.cell hg2).trans HC6.out
                  have zbc7 := (zw.cell hg2).trans HC7.out
                  have zbh := Nat.lt_of_lt_of_le hg2 zw.size
                  clear zw
                  have hne : wr.heap.size ≠ w.heap.size + 1 := by omega
                  cases on
                  all_goals
                   have hput1 := WSt.putL HB.out HS1.out ([9] ++ ((if f.once then Pl.wOnce else Pl.wRead) ++ [32]))
                   have hFS1 : ∀ q v, Bx ((wr.setCell ⟨w.heap.size + 1, 0, none⟩ v).alloc (.cells #[.string fn, .bool q, .int .i64 fk, .string fs, .slice fa fm fc, .int .i64 gk, .string gs, .slice ga gm gc] 36)) wr.heap.size [.string fn, .bool q, .int .i64 fk, .string fs, .slice fa fm fc, .int .i64 gk, .string gs, .slice ga gm gc] 36 := fun q v => Bx.newAt (by simp) _ _
                   have hcS1 : ∀ q v, Ch (Xo (w.heap.size + 1)) w2 ((wr.setCell ⟨w.heap.size + 1, 0, none⟩ v).alloc (.cells #[.string fn, .bool q, .int .i64 fk, .string fs, .slice fa fm fc, .int .i64 gk, .string gs, .slice ga gm gc] 36)) := fun q v => (HC.out.trans (WSt.ch HB.out v)).trans (Ch.alloc _ _)
                   have zpf0 := fun q v => (hFS1 q v).cell 0 rfl
                   have zpf1 := fun q v => (hFS1 q v).cell 1 rfl
                   have hF0 : ∀ q, Bx (wr.alloc (.cells #[.string fn, .bool q, .int .i64 fk, .string fs, .slice fa fm fc, .int .i64 gk, .string gs, .slice ga gm gc] 36)) wr.heap.size [.string fn, .bool q, .int .i64 fk, .string fs, .slice fa fm fc, .int .i64 gk, .string gs, .slice ga gm gc] 36 := fun q => Bx.new wr _ _
                   have zo1 := fun q => (hF0 q).cell 1 rfl
                   have HCALL1 := hid fun (q : Bool) (t : ByteArray) (ht : bl t = ([9] ++ ((if f.once then Pl.wOnce else Pl.wRead) ++ [32]))) => rwname_ok (w.heap.size + 1) _ fn (by rw [HFN.out]; exact HF2.out) ((wr.setCell ⟨w.heap.size + 1, 0, none⟩ (.string (s2 ++ t))).alloc (.cells #[.string fn, .bool q, .int .i64 fk, .string fs, .slice fa fm fc, .int .i64 gk, .string gs, .slice ga gm gc] 36)) ⟨_, ((hput1 t ht).1.alloc _), (hput1 t ht).2⟩ (by have h1 := HLENA.out; have h6 : (([9] ++ ((if f.once then Pl.wOnce else Pl.wRead) ++ [32])) : List Nat).length = 6 := (by cases f.once <;> rfl); rw [List.length_append, h6]; omega)
                   have HCS1 := hid hcS1
                   have HFS1 := hid hFS1
                   clear hcS1 hput1 hFS1 hF0
                   go_wp2_with fail
                   refine Calls.mono (HCALL1.out _ _ ?_) ?_
                   · first | rfl | (rw [← HON.out]; rfl)
                   rintro e u1 ⟨rfl, ⟨t1, hBU1, hsU1⟩, hcU⟩
                   clear x0 x1 xf za0 zal zan zap zag zbc0 zbc1 zbc2 zbc3 zbc4 zbc5 zbc6 zbc7 zbh zpf0 zpf1 zo1
                   have hcU1 := (HCS1.out _ _).trans hcU
                   have HFU1 := hid ((HFS1.out _ _).ch hcU fun e => hne e)
                   have hlen1 : (bl t1).length ≤ 1010038 := by
                     have h7 := HLENA.out
                     have h6 : (([9] ++ ((if f.once then Pl.wOnce else Pl.wRead) ++ [32])) : List Nat).length = 6 := (by cases f.once <;> rfl)
                     have h8 := (show (bl fn).length ≤ 32 by rw [bl_length]; exact hfl)
                     rw [hsU1, List.length_append, List.length_append, h6]
                     omega
                   have hszt1 : t1.size ≤ 1010038 := by rw [← bl_length]; exact hlen1
                   have HSU1 := hid hsU1
                   have HBU1 := hid hBU1
                   have HCU1 := hid hcU1
                   rw [hsU1] at hlen1
                   have HLEN1 := hid hlen1
                   clear HCALL1 HCS1 hcU hcU1 hBU1 hsU1 hlen1 HFS1 hsz2
                   have v10 := HBU1.out.cell 0 rfl
                   have v11 := HBU1.out.cell 1 rfl
                   have v1f := HBU1.out.frozen
                   have hput2 := WSt.putL HBU1.out HSU1.out [40]
                   have hcS2 := fun v => HCU1.out.trans (WSt.ch HBU1.out v)
                   have hFS2 := fun v => Bx.other (k := 0) HFU1.out hne v
                   have zqf2 := fun v => (hFS2 v).cell 2 rfl
                   have zqf3 := fun v => (hFS2 v).cell 3 rfl
                   have zqf4 := fun v => (hFS2 v).cell 4 rfl
                   have HCALL2 := hid fun (t : ByteArray) (ht : bl t = [40]) => rwkind_ok (w.heap.size + 1) _ f.arg HF4.out HF3.out _ _ _ (u1.setCell ⟨w.heap.size + 1, 0, none⟩ (.string (t1 ++ t))) (TyG.below (HBEL.out _ (hcS2 _)) _ _ _ _ HTY.out) ⟨_, (hput2 t ht).1, (hput2 t ht).2⟩ (by have h1 := HLEN1.out; have h6 : ([40] : List Nat).length = 1 := rfl; rw [List.length_append, h6]; omega)
                   have HCS2 := hid hcS2
                   have HFS2 := hid hFS2
                   clear hcS2 hput2 hFS2
                   clear HBU1 HCU1 HFU1
                   go_wp2_with fail
                   refine Calls.mono (HCALL2.out _ ?_) ?_
                   · first | rfl | (rw [← HON.out]; rfl)
                   rintro e u2 ⟨rfl, ⟨t2, hBU2, hsU2⟩, hcU⟩
                   clear v10 v11 v1f zqf2 zqf3 zqf4
                   have hcU2 := (HCS2.out _).trans hcU
                   have HFU2 := hid ((HFS2.out _).ch hcU fun e => hne e)
                   have hlen2 : (bl t2).length ≤ 1010087 := by
                     have h7 := HLEN1.out
                     have h6 : ([40] : List Nat).length = 1 := rfl
                     have h8 : (Pl.tyX f.arg).length ≤ 48 := by have h1 := Pl.ty_len f.arg HF3.out; have h2 := HF4.out; omega
                     rw [hsU2, List.length_append, List.length_append, h6]
                     omega
                   have hszt2 : t2.size ≤ 1010087 := by rw [← bl_length]; exact hlen2
                   have HSU2 := hid hsU2
                   have HBU2 := hid hBU2
                   have HCU2 := hid hcU2
                   rw [hsU2] at hlen2
                   have HLEN2 := hid hlen2
                   clear HCALL2 HCS2 hcU hcU2 hBU2 hsU2 hlen2 HFS2 hszt1
                   have v20 := HBU2.out.cell 0 rfl
                   have v21 := HBU2.out.cell 1 rfl
                   have v2f := HBU2.out.frozen
                   have hput3 := WSt.putL HBU2.out HSU2.out [41, 32]
                   have hcS3 := fun v => HCU2.out.trans (WSt.ch HBU2.out v)
                   have hFS3 := fun v => Bx.other (k := 0) HFU2.out hne v
                   have zrf5 := fun v => (hFS3 v).cell 5 rfl
                   have zrf6 := fun v => (hFS3 v).cell 6 rfl
                   have zrf7 := fun v => (hFS3 v).cell 7 rfl
                   have HCALL3 := hid fun (t : ByteArray) (ht : bl t = [41, 32]) => rwkind_ok (w.heap.size + 1) _ f.res HF6.out HF5.out _ _ _ (u2.setCell ⟨w.heap.size + 1, 0, none⟩ (.string (t2 ++ t))) (TyG.below (HBEL.out _ (hcS3 _)) _ _ _ _ HTY2.out) ⟨_, (hput3 t ht).1, (hput3 t ht).2⟩ (by have h1 := HLEN2.out; have h6 : ([41, 32] : List Nat).length = 2 := rfl; rw [List.length_append, h6]; omega)
                   have HCS3 := hid hcS3
                   have HFS3 := hid hFS3
                   clear hcS3 hput3 hFS3
                   clear HBU2 HCU2 HFU2
                   go_wp2_with fail
                   refine Calls.mono (HCALL3.out _ ?_) ?_
                   · first | rfl | (rw [← HON.out]; rfl)
                   rintro e u3 ⟨rfl, ⟨t3, hBU3, hsU3⟩, hcU⟩
                   clear v20 v21 v2f zrf5 zrf6 zrf7
                   have hcU3 := (HCS3.out _).trans hcU
                   have HFU3 := hid ((HFS3.out _).ch hcU fun e => hne e)
                   have hlen3 : (bl t3).length ≤ 1010137 := by
                     have h7 := HLEN2.out
                     have h6 : ([41, 32] : List Nat).length = 2 := rfl
                     have h8 : (Pl.tyX f.res).length ≤ 48 := by have h1 := Pl.ty_len f.res HF5.out; have h2 := HF6.out; omega
                     rw [hsU3, List.length_append, List.length_append, h6]
                     omega
                   have hszt3 : t3.size ≤ 1010137 := by rw [← bl_length]; exact hlen3
                   have HSU3 := hid hsU3
                   have HBU3 := hid hBU3
                   have HCU3 := hid hcU3
                   rw [hsU3] at hlen3
                   have HLEN3 := hid hlen3
                   clear HCALL3 HCS3 hcU hcU3 hBU3 hsU3 hlen3 HFS3 hszt2
                   have v30 := HBU3.out.cell 0 rfl
                   have v31 := HBU3.out.cell 1 rfl
                   have v3f := HBU3.out.frozen
                   have HPE := hid (WSt.putL HBU3.out HSU3.out [59, 10])
                   have HCE := hid (fun v => HCU3.out.trans (WSt.ch HBU3.out v))
                   clear HBU3 HCU3
                   go_wp2_with fail
                   refine ⟨⟨j + 1, by omega, by go_num, ⟨_, (HPE.out _ ?_).1, ?_⟩, HCE.out _⟩, by simp [intOf]; omega⟩
                   · rfl
                   rw [(HPE.out _ rfl).2, flat_step qs j _ HQJ.out, HFN.out]
                   simp [Pl.mthX]
               · have hjI : ¬ (j : Int) < (mf : Int) := by omega
                 have hje : qs.take j = qs := List.take_of_length_le (by rw [HQS.out, List.length_map, ← HMF.out]; omega)
                 have hsE := HS1.out
                 rw [hje] at hsE
                 have HPE := hid (WSt.putL HB.out hsE [125, 10])
                 have HCE := hid (fun v => HC.out.trans (WSt.ch HB.out v))
                 clear hsE hje
                 go_wp2_with fail
                 refine ⟨⟨k + 1, by omega, by go_num, ⟨_, (HPE.out _ ?_).1, ?_⟩, HCE.out _⟩, by simp [intOf]; omega⟩
                 · rfl
                 rw [(HPE.out _ rfl).2, flat_step ps3 k (Pl.declX (Pl.mkSv x)) (by rw [HPS3.out, List.getElem?_map, HX.out]; rfl), HAC.out, HNM.out, HQS.out]
                 simp [Pl.declX, Pl.mkSv, Pl.bodyX, Pl.wService]
           · as_aux_lemma =>
              have hltI : ¬ (k : Int) < (M3 : Int) := by omega
              have ye := HALL3.out k (by omega) hk
              rw [ye] at HS0
              clear ye
              have y0 := (HBOX.out _ HC.out).cell 2 rfl
              clear hlen0
              go_wp2_with fail
              go_returns
              exact ⟨s, rfl, by rw [HS0.out]; simp, HBEL.out _ HC.out⟩
end Go.Proofs.YtdbgncdnffbhkaaGreatDoor
