/- value: standard of types that name nothing, and of structs of such. value: Default of a struct of plain fields. value: deepest, Deep. value: parts, Size of a value whose parts have none. -/
import Derived.Test.YtmiohekmpjiloaaGreatDoorCutPut24
import Derived.Test.YtmiohekmpjiloaaGreatDoorCutPut26
import Derived.Test.YtmiohekmpjiloaaGreatDoorCutPut28
import Derived.Deep.RegionLaw
import Derived.Deep.AppendLies
import Derived.Test.YtmiohekmpjiloaaGreatDoorCutPut17
namespace Go.Proofs.YtmiohekmpjiloaaGreatDoor
open Go.RowKit
set_option maxRecDepth 20000

theorem ret_std {W : World} {tmps : Array Value} {b : Nat} {x y z p : Value} (ht : tmps.getD 4 undef = .pointer (some ⟨b, 0, none⟩)) (h0 : W.cell? ⟨b, 0, none⟩ = some x) (h1 : W.cell? ⟨b, 1, none⟩ = some y) (h2 : W.cell? ⟨b, 2, none⟩ = some z) (h3 : W.cell? ⟨b, 3, none⟩ = some p) :
    (results Tryz.f30 tmps).run Tryz.prog W = .ok (.agg #[x, y, z, p]) W := by
  have ht' : tmps[4]?.getD undef = .pointer (some ⟨b, 0, none⟩) := by rw [← Array.getD_eq_getD_getElem?]; exact ht
  simp [results, Tryz.results30]
  go_simp
def zeroV : Pl.GV := .node 0 0 ⟨#[]⟩ []

set_option maxHeartbeats 8000000 in
theorem std_flat (K : Int) (hK : 1 ≤ K ∧ K ≤ 7) (sn : ByteArray) (a1 a2 a3 ao : Option Addr) (m1 m2 m3 mo c1 c2 c3 co : Nat) (w : World) :
    Calls Tryz.prog 30 #[.agg #[.slice a1 m1 c1, .slice a2 m2 c2, .slice a3 m3 c3], .agg #[.int .i64 K, .string sn, .slice ao mo co]] w fun e w' => e = .returned (gvA zeroV (.slice none 0 0)) ∧ Below w.heap.size w w' := by
  have hq9 : (K == 9) = false := by simp; omega
  have hq10 : (K == 10) = false := by simp; omega
  have hb1 := below_alloc w (.cells #[.slice a1 m1 c1, .slice a2 m2 c2, .slice a3 m3 c3] 65)
  have hb2 := below_next hb1 (below_alloc _ (.cells #[.int .i64 K, .string sn, .slice ao mo co] 29))
  have hb3 := below_next hb2 (below_alloc _ (.cells #[.int .i64 0, .int .u64 0, .string ⟨#[]⟩, .slice none 0 0] 33))
  have hb4 := below_next hb3 (below_alloc _ (.cells #[.int .i64 0, .int .u64 0, .string ⟨#[]⟩, .slice none 0 0] 33))
  obtain ⟨w4, hw4⟩ : ∃ w4, w4 = (((w.alloc (.cells #[.slice a1 m1 c1, .slice a2 m2 c2, .slice a3 m3 c3] 65)).alloc (.cells #[.int .i64 K, .string sn, .slice ao mo co] 29)).alloc (.cells #[.int .i64 0, .int .u64 0, .string ⟨#[]⟩, .slice none 0 0] 33)).alloc (.cells #[.int .i64 0, .int .u64 0, .string ⟨#[]⟩, .slice none 0 0] 33) := ⟨_, rfl⟩
  have hB3 : Bx w4 (w.heap.size + 1 + 1) [.int .i64 0, .int .u64 0, .string ⟨#[]⟩, .slice none 0 0] 33 := by rw [hw4]; exact (Bx.newAt (by simp) _ _).below (below_alloc _ _)
  have hB4 : Bx w4 (w.heap.size + 1 + 1 + 1) [.int .i64 0, .int .u64 0, .string ⟨#[]⟩, .slice none 0 0] 33 := by rw [hw4]; exact Bx.newAt (by simp) _ _
  rw [← hw4] at hb4
  have HM := hid (mean_plain K (by omega) sn a1 a2 a3 ao m1 m2 m3 mo c1 c2 c3 co w4)
  have HB3 := hid hB3
  have HB4 := hid hB4
  have HB := hid hb4
  have HW4 := hid hw4
  clear hb1 hb2 hb3 hb4 hB3 hB4 hw4
  go_enter Tryz.func30, Tryz.ntmps30
  go_wp2_with fail
  rw [← HW4.out]
  refine HM.out.mono ?_
  rintro e w5 ⟨rfl, hb5⟩
  have hb6 := below_next hb5 (below_alloc w5 (.cells #[.int .i64 K, .string sn, .slice ao mo co, .slice none 0 0, .slice none 0 0] 97))
  have hX := HB4.out.below hb6
  have hY := HB3.out.below hb6
  have z0 := hX.cell 0 rfl
  have z1 := hX.cell 1 rfl
  have z2 := hX.cell 2 rfl
  have z3 := hX.cell 3 rfl
  have u0 := hY.cell 0 rfl
  have u1 := hY.cell 1 rfl
  have u2 := hY.cell 2 rfl
  have u3 := hY.cell 3 rfl
  have uf := hY.frozen
  have HR := hid ((((hY.set 0 (.int .i64 0)).set 1 (.int .u64 0)).set 2 (.string ⟨#[]⟩)).set 3 (.slice none 0 0))
  have hbn := below_next HB.out hb6
  have HBF := hid ((((hbn.setCell (p := ⟨w.heap.size + 1 + 1, 0, none⟩) (by simp only; omega) (.int .i64 0)).setCell (p := ⟨w.heap.size + 1 + 1, 1, none⟩) (by simp only; omega) (.int .u64 0)).setCell (p := ⟨w.heap.size + 1 + 1, 2, none⟩) (by simp only; omega) (.string ⟨#[]⟩)).setCell (p := ⟨w.heap.size + 1 + 1, 3, none⟩) (by simp only; omega) (.slice none 0 0))
  clear hX hY hbn hb6 hb5 HM
  go_wp2_with fail
  exact bodyPost_ret (ret_std rfl (HR.out.cell 0 rfl) (HR.out.cell 1 rfl) (HR.out.cell 2 rfl) (HR.out.cell 3 rfl)) rfl ⟨rfl, HBF.out⟩

theorem step_call2 {P : Program} {w : World} {ops : Array Oper} {o : Oper} {a : Act} {K : Act → World → Prop} {Q : Exit → Act → World → Prop} {E : Prop} {v u : Value} (f : Nat) (eg : ∀ args w, (callFunc f args).run P w = .ok (.enter f args) w) (hg : o.guard = none) (s t : Nat) (ts : Array TypeId) (hop : o.op = .call { callee := .value (.func f), args := #[.tmp s, .tmp t], argTypes := ts }) (hs : a.tmps.getD s undef = v) (ht : a.tmps.getD t undef = u)
    (h : Calls P f #[v, u] w fun e w' => ∃ u, e = .returned u ∧ K (a.put o.dst u) w') : if Region.wanted o (yielded ops a.tmps) = true then Oper.wp P o a w K Q else E := by
  have hw : Region.wanted o (yielded ops a.tmps) = true := by simp [Region.wanted, hg]
  rw [if_pos hw]
  unfold Oper.wp
  have hs' : a.eval (.tmp s) = v := hs
  have ht' : a.eval (.tmp t) = u := ht
  have hrun : (execOp a.eval o).run P w = .ok (.enter f #[v, u]) w := by
    simp [execOp, hop, hs', ht', resolve, invoke, show a.eval (.func f) = .func (.func f) #[] #[] from rfl, Deferred.ofValue, eg]
  rw [hrun]
  refine h.mono ?_
  rintro e w' ⟨u, rfl, hk⟩
  exact hk

theorem infoV : (Tryz.prog.info? 33).map (fun i => (i.zero, i.size, i.bytes)) = some (some (.agg #[.int .i64 0, .int .u64 0, .string ⟨#[]⟩, .slice none 0 0]), 4, 56) := by kernel_rfl
/-- The cells of a value that is nothing. -/
def ZR (_ : Unit) (c : List Value) (_ : World) : Prop := c = [.int .i64 0, .int .u64 0, .string ⟨#[]⟩, .slice none 0 0]
theorem flat_kind {f : Pl.Fld} {w : World} {k : Int} {b c : Value} (h : Pl.okFld f ∧ flatT f.ty) (ht : TyG w f.ty (.int .i64 k) b c) : 1 ≤ k ∧ k ≤ 7 := by
  obtain ⟨⟨_, _, hok, _⟩, hfl⟩ := h
  have h1 := (TyG.parts ht).1
  injection h1 with _ h1
  subst h1
  revert hfl hok
  cases f.ty with
  | plain q => intro _ h2; have := h2.1; have := h2.2; simp only [kindOf]; omega
  | named x => intro hfl _; exact hfl.elim
  | list t => intro _ _; simp [kindOf]
  | opt t => intro _ _; simp [kindOf]

theorem fld_not {w : World} {b p : Nat} {s fn : ByteArray} {ad : Option Addr} {m cp : Nat} {i n : Int} {T : TypeId} (h : Bx w b [.int .i64 i, .int .u64 n, .string s, .slice ad m cp] T) {q : Int} (h0 : w.cell? ⟨b, p, none⟩ = some (.string fn)) (h1 : w.cell? ⟨b, p + 1, none⟩ = some (.int .i64 q)) : False := by
  rw [cell_of_row w b p _ T (0, 0) h] at h0
  rw [cell_of_row w b (p + 1) _ T (0, 0) h] at h1
  rcases p with _ | _ | _ | _ | p <;> simp at h0 h1
theorem Ch.cellX {b : Nat} {w w' : World} (h : Ch (Xo b) w w') {g : Nat} (hg : g < w.heap.size) (hne : g ≠ b) (p : Nat) : w'.cell? ⟨g, p, none⟩ = w.cell? ⟨g, p, none⟩ := by
  have h1 : w.heap[g]? = some w.heap[g] := by simp [hg]
  have h2 := h.block g _ h1 (fun _ _ _ _ hx => hne hx)
  unfold World.cell?
  rw [h1, h2]
/-- The loop over a struct's fields. -/
structure StdI (b : Nat) (M : Nat) (w6 : World) (i : Value) (wr : World) : Prop where
  all : ∃ (k : Nat) (ad : Option Addr) (cp : Nat), k ≤ M ∧ i = .int .i64 k ∧ Bx wr b [.int .i64 0, .int .u64 0, .string ⟨#[]⟩, .slice ad k cp] 33 ∧ Rows 33 4 ZR w6.heap.size wr (.slice ad k cp) (List.replicate k ()) ∧ Ch (Xo b) w6 wr

set_option maxHeartbeats 16000000 in
theorem std_struct (st : List (List Nat × List Pl.Fld)) (en : List (List Nat × List Pl.Cas)) (sv : List (List Nat × List Pl.Mth)) (hl : st.length ≤ 1000 ∧ en.length ≤ 1000 ∧ sv.length ≤ 1000) (s1 s2 s3 : Value) (x : ByteArray) (i : Nat) (a : List Nat × List Pl.Fld) (hi : st[i]? = some a) (hf : fnd st en sv (bl x) = (1, (i : Int))) (hfl : ∀ f ∈ a.2, Pl.okFld f ∧ flatT f.ty) (hm : a.2.length ≤ 32) (ao : Option Addr) (mo co : Nat) (w : World) (hS : SchG st en sv s1 s2 s3 w) :
    Calls Tryz.prog 30 #[.agg #[s1, s2, s3], .agg #[.int .i64 8, .string x, .slice ao mo co]] w fun e w' => ∃ o, e = .returned (.agg #[.int .i64 0, .int .u64 0, .string ⟨#[]⟩, o]) ∧ Rows 33 4 ZR w.heap.size w' o (List.replicate a.2.length ()) ∧ Below w.heap.size w w' := by
  obtain ⟨a1, c1, a2, c2, a3, c3, rfl, rfl, rfl⟩ := hS.shape
  obtain ⟨w4, hw4⟩ : ∃ w4, w4 = (((w.alloc (.cells #[.slice a1 st.length c1, .slice a2 en.length c2, .slice a3 sv.length c3] 65)).alloc (.cells #[.int .i64 8, .string x, .slice ao mo co] 29)).alloc (.cells #[.int .i64 0, .int .u64 0, .string ⟨#[]⟩, .slice none 0 0] 33)).alloc (.cells #[.int .i64 0, .int .u64 0, .string ⟨#[]⟩, .slice none 0 0] 33) := ⟨_, rfl⟩
  have hb1 := below_alloc w (.cells #[.slice a1 st.length c1, .slice a2 en.length c2, .slice a3 sv.length c3] 65)
  have hb2 := below_next hb1 (below_alloc _ (.cells #[.int .i64 8, .string x, .slice ao mo co] 29))
  have hb3 := below_next hb2 (below_alloc _ (.cells #[.int .i64 0, .int .u64 0, .string ⟨#[]⟩, .slice none 0 0] 33))
  have hb4 := below_next hb3 (below_alloc _ (.cells #[.int .i64 0, .int .u64 0, .string ⟨#[]⟩, .slice none 0 0] 33))
  have hB1 : Bx w4 w.heap.size [.slice a1 st.length c1, .slice a2 en.length c2, .slice a3 sv.length c3] 65 := by rw [hw4]; exact (((Bx.new w _ _).below (below_alloc _ _)).below (below_alloc _ _)).below (below_alloc _ _)
  have hB3 : Bx w4 (w.heap.size + 1 + 1) [.int .i64 0, .int .u64 0, .string ⟨#[]⟩, .slice none 0 0] 33 := by rw [hw4]; exact (Bx.newAt (by simp) _ _).below (below_alloc _ _)
  have hB4 : Bx w4 (w.heap.size + 1 + 1 + 1) [.int .i64 0, .int .u64 0, .string ⟨#[]⟩, .slice none 0 0] 33 := by rw [hw4]; exact Bx.newAt (by simp) _ _
  rw [← hw4] at hb4
  have HM := hid (mean_named st en sv hl _ _ _ x ao mo co w4 (hS.below hb4))
  have HB1 := hid hB1
  have HB3 := hid hB3
  have HB4 := hid hB4
  have HB := hid hb4
  have HW4 := hid hw4
  have HFL := hid hfl
  have HF := hid hf
  have HI := hid hi
  obtain ⟨M, hM⟩ : ∃ M, M = a.2.length := ⟨_, rfl⟩
  rw [← hM] at hm
  have HMM := hid hM
  clear hb1 hb2 hb3 hb4 hB1 hB3 hB4 hw4 hfl hf hi hS hl
  generalize st.length = l1 at *
  generalize en.length = l2 at *
  generalize sv.length = l3 at *
  rw [← hM]
  clear hM
  go_enter Tryz.func30, Tryz.ntmps30
  go_wp2_with fail
  rw [← HW4.out]
  refine HM.out.mono ?_
  rintro e w5 ⟨k, f, c, rfl, hmn, hb5⟩
  unfold MeanN at hmn
  rw [if_pos (by rw [HF.out])] at hmn
  obtain ⟨i', a', hi', _, hfi, rfl, rfl, hr⟩ := hmn
  rw [HF.out] at hfi
  obtain rfl : i = i' := by simp only at hfi; omega
  rw [HI.out] at hi'
  cases hi'
  obtain ⟨af, cf, rfl⟩ := hr.shape
  rw [← HMM.out] at hr ⊢
  obtain ⟨w6, hw6⟩ : ∃ w6, w6 = w5.alloc (.cells #[.int .i64 9, .string x, .slice ao mo co, .slice af M cf, .slice none 0 0] 97) := ⟨_, rfl⟩
  obtain ⟨bv, hbv⟩ : ∃ b, b = w.heap.size + 1 + 1 + 1 := ⟨_, rfl⟩
  have hb56 : Below w5.heap.size w5 w6 := by rw [hw6]; exact below_alloc w5 _
  have hb6 := below_next hb5 hb56
  have HRW := hid (hr.below hb56 (fun _ _ h => FldG.below hb56 _ _ h))
  have HX4 : Hid (Bx w6 bv [.int .i64 0, .int .u64 0, .string ⟨#[]⟩, .slice none 0 0] 33) := by rw [hbv]; exact HB4.out.below hb6
  have HX3 := hid (HB3.out.below hb6)
  have HX1 := hid (HB1.out.below hb6)
  have HB6 := hid (below_next HB.out hb6)
  have HW6 := hid hw6
  have hbvw : w.heap.size < bv := by omega
  have HBV := hid hbv
  have hn3 : w.heap.size + 1 + 1 ≠ bv := by omega
  clear hr hb56 hb6 hb5 HM hw6
  go_wp2_with fail
  rw [← HW6.out, ← HBV.out]
  clear hbv
  have hb5lt : bv < w6.heap.size := HX4.out.lt
  go_loopw [28] (fun i wr => StdI bv M w6 i wr) (fun i _ => M - (intOf i).toNat)
  case atStart => exact ⟨0, none, 0, Nat.zero_le _, rfl, HX4.out, Rows.nil _ _ _ _ _, Ch.refl _ _⟩
  case round =>
    obtain ⟨k, ad, cp, hk, rfl, hBv, hRv, hcv⟩ := hrel.all
    clear hrel
    by_cases hlt : k < M
    · obtain ⟨f, hf⟩ : ∃ f, a.2[k]? = some f := ⟨a.2[k]'(by rw [← HMM.out]; exact hlt), by simp⟩
      obtain ⟨g, off, cap, c, hv, hg, ⟨fn, fk, fs', fa, fm, fc, rfl, hfn, hty⟩, hcell⟩ := Rw.at HRW.out hf
      injection hv with e1 e2 e3
      subst e1
      clear e2 e3
      have hc0 := hcell 0 _ rfl
      have hc1 := hcell 1 _ rfl
      have hc2 := hcell 2 _ rfl
      have hc3 := hcell 3 _ rfl
      have hc4 := hcell 4 _ rfl
      simp only [Nat.add_zero] at hc0
      have hne : g ≠ bv := fun h => by
        subst h
        exact fld_not HX4.out hc0 hc1
      have hgr : g < wr.heap.size := Nat.lt_of_lt_of_le hg hcv.size
      have d0 := (hcv.cellX hg hne _).trans hc0
      have d1 := (hcv.cellX hg hne _).trans hc1
      have d2 := (hcv.cellX hg hne _).trans hc2
      have d3 := (hcv.cellX hg hne _).trans hc3
      have d4 := (hcv.cellX hg hne _).trans hc4
      obtain ⟨w7, hw7⟩ : ∃ w7, w7 = wr.alloc (.cells #[.string fn, .int .i64 (f.num : Int), .int .i64 fk, .string fs', .slice fa fm fc] 61) := ⟨_, rfl⟩
      have hb7 : Below wr.heap.size wr w7 := by rw [hw7]; exact below_alloc wr _
      have hB8 : Bx w7 wr.heap.size [.string fn, .int .i64 (f.num : Int), .int .i64 fk, .string fs', .slice fa fm fc] 61 := by rw [hw7]; exact Bx.new wr _ _
      have hX1 := (HX1.out.ch hcv (show ¬ w.heap.size = bv by omega)).below hb7
      have hV7 := hBv.below hb7
      have y0 := hX1.cell 0 rfl
      have y1 := hX1.cell 1 rfl
      have y2 := hX1.cell 2 rfl
      have v3 := hV7.cell 3 rfl
      have f2 := hB8.cell 2 rfl
      have f3 := hB8.cell 3 rfl
      have f4 := hB8.cell 4 rfl
      have hkd := flat_kind (HFL.out f (List.mem_of_getElem? hf)) hty
      have HSTD : Hid (∀ W, Calls Tryz.prog 30 #[.agg #[.slice a1 l1 c1, .slice a2 l2 c2, .slice a3 l3 c3], .agg #[.int .i64 fk, .string fs', .slice fa fm fc]] W fun e w' => e = .returned (.agg #[.int .i64 0, .int .u64 0, .string ⟨#[]⟩, .slice none 0 0]) ∧ Below W.heap.size W w') := fun W => std_flat fk hkd fs' a1 a2 a3 fa l1 l2 l3 fm c1 c2 c3 fc W
      have HV7 := hid hV7
      have HB7 := hid hb7
      have HRV := hid hRv
      have HCV := hid hcv
      have HW7 := hid hw7
      have hltV := hV7.lt
      clear hc0 hc1 hc2 hc3 hc4 hf hty hfn hcell hBv hRv hcv hw7 hb7 hB8 hX1 hV7 hkd
      obtain ⟨i0, hi0, hz0, hz1, hz2⟩ := info_parts infoV
      go_wp2_with fail
      rw [← HW7.out]
      go_region_law (first
        | (refine step_call2 (v := .agg #[.slice a1 l1 c1, .slice a2 l2 c2, .slice a3 l3 c3]) (u := .agg #[.int .i64 fk, .string fs', .slice fa fm fc]) (o := { dst := some 37, op := .call { callee := .value (.func 30), args := #[.tmp 34, .tmp 36], argTypes := #[65, 29] }, type := _, pos := _, after := _, guard := none }) 30 (fun _ _ => rfl) rfl 34 36 _ rfl (by simp) (by simp) ?_; refine (HSTD.out _).mono ?_; rintro e w8 ⟨rfl, hb8⟩; refine ⟨_, rfl, ?_⟩; have hb78 : Below wr.heap.size wr w8 := below_next HB7.out.drew hb8; have hV8 := HV7.out.below ((Below.refl _ _).drew.trans hb8); have g3 := hV8.cell 3 rfl; have g4 := (hV8.below (below_alloc w8 (.cells #[.int .i64 0, .int .u64 0, .string ⟨#[]⟩, .slice none 0 0] 33))).cell 3 rfl; have HV8 := hid hV8; have HB8 := hid hb78; have hR8 := HRV.out.ch (X := fun _ _ => False) (Ch.below hb78) (fun _ _ h => h) (fun _ _ hx => hx); obtain ⟨ps, hps, hRp, hown⟩ := hR8; have hpl : ps.length = k := (by have := congrArg List.length hps; simpa using this); rw [hpl] at hown; have HPS := hid hps; have HRP := hid hRp; have HOWN := hid hown; have HPL := hid hpl; have hsz8 : w6.heap.size ≤ w8.heap.size := Nat.le_trans HCV.out.size hb78.size; clear hb8 hb78 hV8 hps hRp hown hpl)
        | (refine step_append_lies (o := { dst := some 39, op := .call { callee := .builtin .append, args := #[.tmp 33, .tmp 38], argTypes := #[31, 31] }, type := _, pos := _, after := _, guard := none }) _ rfl (.tmp 33) (.tmp 38) 31 rfl w6.heap.size 33 i0 _ 4 56 Tryz.underlying31 hi0 hz0 hz1 hz2 rfl (by decide) (.slice ad k cp) k (ps.flatMap Prod.snd) rfl (own_ch (X := fun _ _ => False) HOWN.out (Ch.alloc _ _) (fun _ _ hx => hx)) ⟨w8.heap.size, 0, none⟩ 1 1 [.int .i64 0, .int .u64 0, .string ⟨#[]⟩, .slice none 0 0] rfl rfl (World.news_of_block (heap_alloc_new w8 _)) (fun u hu => by simp at hu; rcases hu with rfl | rfl | rfl | rfl <;> rfl) (by decide) (by unfold maxLen; omega) (by omega) (by simp; omega) _ rfl ?_; intro gn capn w9 hown9 hgr9 hat9 hlt9; have hV9 := (HV8.out.below (below_alloc w8 (.cells #[.int .i64 0, .int .u64 0, .string ⟨#[]⟩, .slice none 0 0] 33))); have hrowne : ∀ j, (Value.slice ad k cp).ownBlock = some j → w6.heap.size ≤ j := fun j hj => (own_block HOWN.out hj).1; have hV9' := hV9.ch (Ch.grown (X := fun g _ => w6.heap.size ≤ g) hgr9 (fun g' _ _ _ hr _ => hrowne g' hr) (fun g' o hr ho => by (obtain ⟨_, cur, hq⟩ := own_block (own_ch (X := fun _ _ => False) HOWN.out (Ch.alloc w8 (.cells #[.int .i64 0, .int .u64 0, .string ⟨#[]⟩, .slice none 0 0] 33)) (fun _ _ hx => hx)) hr; rw [hq] at ho; cases ho; exact ⟨_, _, _, rfl⟩))) (show ¬ w6.heap.size ≤ bv by omega); have x3 := hV9'.cell 3 rfl; have xf := hV9'.frozen; have HV9 := hid hV9'; clear hV9 hV9'))
      all_goals
        have hcR := ch_grown_new ((HCV.out.trans (Ch.below HB8.out)).trans (Ch.alloc w8 (.cells #[.int .i64 0, .int .u64 0, .string ⟨#[]⟩, .slice none 0 0] 33))) hgr9 (fun j hj => (own_block HOWN.out hj).1)
        have hRow : Rows 33 4 ZR w6.heap.size w9 (.slice (some ⟨gn, 0, none⟩) (k + 1) capn) (ps.map Prod.fst ++ [()]) := Rows.more (w := w8) (w' := w9) HRP.out (fun _ _ h => h) () _ rfl rfl (by rw [HPL.out]; exact hown9)
        rw [HPS.out] at hRow
        have hrep : List.replicate k () ++ [()] = List.replicate (k + 1) () := by rw [← List.replicate_succ']
        rw [hrep] at hRow
        have hcS : Ch (Xo bv) w9 (w9.setCell ⟨bv, 3, none⟩ (.slice (some ⟨gn, 0, none⟩) (k + 1) capn)) := Ch.set HV9.out rfl _
        have hRow2 := hRow.ch hcS (fun _ _ h => h) (fun j hj hx => by have h2 : j = bv := hx; omega)
        have HFIN : Hid (StdI bv M w6 (.int .i64 ((k + 1 : Nat) : Int)) (w9.setCell ⟨bv, 3, none⟩ (.slice (some ⟨gn, 0, none⟩) (k + 1) capn))) := ⟨k + 1, _, _, by omega, rfl, HV9.out.set 3 _, hRow2, hcR.trans hcS⟩
        clear hcR hRow hcS hRow2 hrep
        go_wp2
        refine ⟨?_, by simp [intOf]; omega⟩
        exact HFIN.out
    · obtain rfl : k = M := by omega
      have hkI : ¬ (k : Int) < (k : Int) := by omega
      have hY := HX3.out.ch hcv (show ¬ w.heap.size + 1 + 1 = bv from hn3)
      have z0 := hBv.cell 0 rfl
      have z1 := hBv.cell 1 rfl
      have z2 := hBv.cell 2 rfl
      have z3 := hBv.cell 3 rfl
      have u0 := hY.cell 0 rfl
      have u1 := hY.cell 1 rfl
      have u2 := hY.cell 2 rfl
      have u3 := hY.cell 3 rfl
      have uf := hY.frozen
      have HR := hid ((((hY.set 0 (.int .i64 0)).set 1 (.int .u64 0)).set 2 (.string ⟨#[]⟩)).set 3 (.slice ad k cp))
      have hbn := HB6.out.trans (Xo.bel hcv (B := w.heap.size) (by omega) HB6.out.size)
      have HBF := hid ((((hbn.setCell (p := ⟨w.heap.size + 1 + 1, 0, none⟩) (by simp only; omega) (.int .i64 0)).setCell (p := ⟨w.heap.size + 1 + 1, 1, none⟩) (by simp only; omega) (.int .u64 0)).setCell (p := ⟨w.heap.size + 1 + 1, 2, none⟩) (by simp only; omega) (.string ⟨#[]⟩)).setCell (p := ⟨w.heap.size + 1 + 1, 3, none⟩) (by simp only; omega) (.slice ad k cp))
      have hcS : Ch (Xo (w.heap.size + 1 + 1)) wr ((((wr.setCell ⟨w.heap.size + 1 + 1, 0, none⟩ (.int .i64 0)).setCell ⟨w.heap.size + 1 + 1, 1, none⟩ (.int .u64 0)).setCell ⟨w.heap.size + 1 + 1, 2, none⟩ (.string ⟨#[]⟩)).setCell ⟨w.heap.size + 1 + 1, 3, none⟩ (.slice ad k cp)) :=
        (((Ch.set hY rfl _).trans (Ch.set (hY.set 0 _) rfl _)).trans (Ch.set ((hY.set 0 _).set 1 _) rfl _)).trans (Ch.set (((hY.set 0 _).set 1 _).set 2 _) rfl _)
      have hlt3 : w.heap.size + 1 + 1 < w6.heap.size := HX3.out.lt
      have HRS := hid ((hRv.ch hcS (fun _ _ h => h) (fun j hj hx => by have h2 : j = w.heap.size + 1 + 1 := hx; omega)).mono HB6.out.size (fun _ _ h => h))
      clear hBv hRv hcv hY hbn hcS
      go_wp2_with fail
      exact bodyPost_ret (ret_std rfl (HR.out.cell 0 rfl) (HR.out.cell 1 rfl) (HR.out.cell 2 rfl) (HR.out.cell 3 rfl)) rfl ⟨_, rfl, HRS.out, HBF.out⟩
end Go.Proofs.YtmiohekmpjiloaaGreatDoor

namespace Go.Proofs.YtmiohekmpjiloaaGreatDoor
open Go.RowKit
set_option maxRecDepth 20000

theorem ret_def {W : World} {tmps : Array Value} {b : Nat} {x y z p q : Value} (ht : tmps.getD 4 undef = .pointer (some ⟨b, 0, none⟩)) (h5 : tmps.getD 5 undef = q) (h0 : W.cell? ⟨b, 0, none⟩ = some x) (h1 : W.cell? ⟨b, 1, none⟩ = some y) (h2 : W.cell? ⟨b, 2, none⟩ = some z) (h3 : W.cell? ⟨b, 3, none⟩ = some p) :
    (results Tryz.f9 tmps).run Tryz.prog W = .ok (.tuple #[.agg #[x, y, z, p], q]) W := by
  have ht' : tmps[4]?.getD undef = .pointer (some ⟨b, 0, none⟩) := by rw [← Array.getD_eq_getD_getElem?]; exact ht
  have h5' : tmps[5]?.getD undef = q := by rw [← Array.getD_eq_getD_getElem?]; exact h5
  simp [results, Tryz.results9]
  go_simp

set_option maxHeartbeats 4000000 in
theorem defClo_any (s1 s2 s3 k s o : Value) (p q : Nat) (w : World) (hp : Bx w p [s1, s2, s3] 65) (hq : Bx w q [k, s, o] 29)
    (h : Calls Tryz.prog 29 #[.agg #[s1, s2, s3], .agg #[k, s, o]] w fun e w' => e = .returned (.tuple #[]) ∧ Below w.heap.size w w') :
    Calls Tryz.prog 28 #[.pointer (some ⟨p, 0, none⟩), .pointer (some ⟨q, 0, none⟩)] w fun e w' => e = .returned (.tuple #[]) ∧ Below w.heap.size w w' := by
  have y0 := hp.cell 0 rfl
  have y1 := hp.cell 1 rfl
  have y2 := hp.cell 2 rfl
  have z0 := hq.cell 0 rfl
  have z1 := hq.cell 1 rfl
  have z2 := hq.cell 2 rfl
  have H := hid h
  clear h hp hq
  go_enter Tryz.func28, Tryz.ntmps28
  go_wp2_with fail
  refine H.out.mono ?_
  rintro e w1 ⟨rfl, hb1⟩
  go_wp2
  go_end0
  exact ⟨rfl, hb1⟩

set_option maxHeartbeats 8000000 in
theorem Default_struct (st : List (List Nat × List Pl.Fld)) (en : List (List Nat × List Pl.Cas)) (sv : List (List Nat × List Pl.Mth)) (s1 s2 s3 : Value) (x : ByteArray) (i : Nat) (a : List Nat × List Pl.Fld) (hi : st[i]? = some a) (hf : fnd st en sv (bl x) = (1, (i : Int))) (hx : Pl.okName (bl x)) (hfl : ∀ f ∈ a.2, Pl.okFld f ∧ flatT f.ty) (hm : a.2.length ≤ 32) (ao : Option Addr) (co : Nat) (w : World) (hS : ScOk w s1 s2 s3 0 (some (st, en, sv))) (ht : Tab w.heap.size w) :
    Calls Tryz.prog 9 #[.agg #[s1, s2, s3], .agg #[.int .i64 8, .string x, .slice ao 0 co]] w fun e w' => ∃ o, e = .returned (.tuple #[.agg #[.int .i64 0, .int .u64 0, .string ⟨#[]⟩, o], .int .i64 0]) ∧ Rows 33 4 ZR w.heap.size w' o (List.replicate a.2.length ()) ∧ Below w.heap.size w w' := by
  obtain ⟨a1, m1, c1, a2, m2, c2, a3, m3, c3, rfl, rfl, rfl⟩ := hS.shape
  obtain ⟨w4, hw4⟩ : ∃ w4, w4 = (((w.alloc (.cells #[.slice a1 m1 c1, .slice a2 m2 c2, .slice a3 m3 c3] 26)).alloc (.cells #[.int .i64 8, .string x, .slice ao 0 co] 29)).alloc (.cells #[.int .i64 0, .int .u64 0, .string ⟨#[]⟩, .slice none 0 0] 33)).alloc (.cells #[.slice a1 m1 c1, .slice a2 m2 c2, .slice a3 m3 c3] 65) := ⟨_, rfl⟩
  have hb1 := below_alloc w (.cells #[.slice a1 m1 c1, .slice a2 m2 c2, .slice a3 m3 c3] 26)
  have hb2 := below_next hb1 (below_alloc _ (.cells #[.int .i64 8, .string x, .slice ao 0 co] 29))
  have hb3 := below_next hb2 (below_alloc _ (.cells #[.int .i64 0, .int .u64 0, .string ⟨#[]⟩, .slice none 0 0] 33))
  have hb4 := below_next hb3 (below_alloc _ (.cells #[.slice a1 m1 c1, .slice a2 m2 c2, .slice a3 m3 c3] 65))
  have hB2 : Bx w4 (w.heap.size + 1) [.int .i64 8, .string x, .slice ao 0 co] 29 := by rw [hw4]; exact ((Bx.newAt (by simp) _ _).below (below_alloc _ _)).below (below_alloc _ _)
  have hB3 : Bx w4 (w.heap.size + 1 + 1) [.int .i64 0, .int .u64 0, .string ⟨#[]⟩, .slice none 0 0] 33 := by rw [hw4]; exact (Bx.newAt (by simp) _ _).below (below_alloc _ _)
  have hB4 : Bx w4 (w.heap.size + 1 + 1 + 1) [.slice a1 m1 c1, .slice a2 m2 c2, .slice a3 m3 c3] 65 := by rw [hw4]; exact Bx.newAt (by simp) _ _
  rw [← hw4] at hb4
  obtain ⟨w5, hw5⟩ : ∃ w5, w5 = w4.alloc (.cells #[.int .i64 0] 34) := ⟨_, rfl⟩
  have hb45 : Below w4.heap.size w4 w5 := by rw [hw5]; exact below_alloc w4 _
  have hBe : Bx w5 w4.heap.size [.int .i64 0] 34 := by rw [hw5]; exact Bx.new w4 _ _
  have hb5 := below_next hb4 hb45
  have hG : SchG st en sv (.slice a1 m1 c1) (.slice a2 m2 c2) (.slice a3 m3 c3) w := SchL.g (Nat.le_refl _) (by omega) hS.1 hS.2.2.1
  have hlen := hS.2.2.2.1
  have hck := checkType_named st en sv _ _ _ x ao co w5 (hS.below hb5) ((ht.below hb5).up2 hb5.size) hx (.inl (by rw [hf]))
  have hclo := defClo_any _ _ _ _ _ _ (w.heap.size + 1 + 1 + 1) (w.heap.size + 1) w5 (hB4.below hb45) (hB2.below hb45) hck
  have hcau : Calls Tryz.prog 27 #[.func (.func 28) #[] #[.pointer (some ⟨w.heap.size + 1 + 1 + 1, 0, none⟩), .pointer (some ⟨w.heap.size + 1, 0, none⟩)]] w4 fun e w' => e = .returned (.int .i64 0) ∧ Below w4.heap.size w4 w' := by
    refine (vcaught_ok _ _ (fun _ _ => rfl) w4 (fun W => Below w5.heap.size w5 W) (fun W hW => hBe.below hW) ?_).mono ?_
    · rw [hw5] at hclo
      rw [hw5]
      exact hclo
    · rintro e w' ⟨rfl, W, hW, rfl⟩
      exact ⟨rfl, (below_next hb45 hW).setCell (by simp only; omega) _⟩
  have HSTD := hid (fun W (hW : Below w.heap.size w W) => std_struct st en sv (by omega) _ _ _ x i a hi hf hfl hm ao 0 co W (hG.below hW))
  have HCAU := hid hcau
  have HB2 := hid hB2
  have HB3 := hid hB3
  have HB4 := hid hB4
  have HB := hid hb4
  have HW4 := hid hw4
  have hmf : ∀ (fn : Fn) (first cap : Array Value) (w : World), (Instr.makeFunc fn first cap).run Tryz.prog w = .ok (.func fn first cap) w := fun _ _ _ _ => rfl
  clear hb1 hb2 hb3 hb4 hB2 hB3 hB4 hw4 hb45 hBe hb5 hG hlen hck hclo hcau hS ht hi hf hfl hx hw5
  go_enter Tryz.func9, Tryz.ntmps9
  go_wp2_with fail
  rw [← HW4.out]
  refine HCAU.out.mono ?_
  rintro e w6 ⟨rfl, hb6⟩
  have HBW := hid (below_next HB.out hb6)
  have HSTD6 := hid (HSTD.out w6 HBW.out)
  have y0 := (HB4.out.below hb6).cell 0 rfl
  have y1 := (HB4.out.below hb6).cell 1 rfl
  have y2 := (HB4.out.below hb6).cell 2 rfl
  have z0 := (HB2.out.below hb6).cell 0 rfl
  have z1 := (HB2.out.below hb6).cell 1 rfl
  have z2 := (HB2.out.below hb6).cell 2 rfl
  have HB6 := hid hb6
  have hsz6 : w.heap.size ≤ w6.heap.size := HBW.out.size
  clear hb6 HCAU HSTD
  go_wp2_with fail
  refine HSTD6.out.mono ?_
  rintro e w7 ⟨o, rfl, hR, hb7⟩
  obtain ⟨ad, cp, rfl⟩ := hR.shape
  have hY := (HB3.out.below HB6.out).below hb7
  have u0 := hY.cell 0 rfl
  have u1 := hY.cell 1 rfl
  have u2 := hY.cell 2 rfl
  have u3 := hY.cell 3 rfl
  have uf := hY.frozen
  generalize (List.replicate a.2.length ()).length = L at *
  have HR := hid ((((hY.set 0 (.int .i64 0)).set 1 (.int .u64 0)).set 2 (.string ⟨#[]⟩)).set 3 (.slice ad L cp))
  have hbn := below_next HBW.out hb7
  have HBF := hid ((((hbn.setCell (p := ⟨w.heap.size + 1 + 1, 0, none⟩) (by simp only; omega) (.int .i64 0)).setCell (p := ⟨w.heap.size + 1 + 1, 1, none⟩) (by simp only; omega) (.int .u64 0)).setCell (p := ⟨w.heap.size + 1 + 1, 2, none⟩) (by simp only; omega) (.string ⟨#[]⟩)).setCell (p := ⟨w.heap.size + 1 + 1, 3, none⟩) (by simp only; omega) (.slice ad L cp))
  have hcS : Ch (Xo (w.heap.size + 1 + 1)) w7 ((((w7.setCell ⟨w.heap.size + 1 + 1, 0, none⟩ (.int .i64 0)).setCell ⟨w.heap.size + 1 + 1, 1, none⟩ (.int .u64 0)).setCell ⟨w.heap.size + 1 + 1, 2, none⟩ (.string ⟨#[]⟩)).setCell ⟨w.heap.size + 1 + 1, 3, none⟩ (.slice ad L cp)) :=
    (((Ch.set hY rfl _).trans (Ch.set (hY.set 0 _) rfl _)).trans (Ch.set ((hY.set 0 _).set 1 _) rfl _)).trans (Ch.set (((hY.set 0 _).set 1 _).set 2 _) rfl _)
  have hlt3 : w.heap.size + 1 + 1 < w6.heap.size := (HB3.out.below HB6.out).lt
  have HRS := hid ((hR.ch hcS (fun _ _ h => h) (fun j hj hx => by have h2 : j = w.heap.size + 1 + 1 := hx; omega)).mono hsz6 (fun _ _ h => h))
  clear hR hY hbn hcS hb7 y0 y1 y2 z0 z1 z2
  go_wp2_with fail
  exact bodyPost_ret (ret_def rfl rfl (HR.out.cell 0 rfl) (HR.out.cell 1 rfl) (HR.out.cell 2 rfl) (HR.out.cell 3 rfl)) rfl ⟨_, rfl, HRS.out, HBF.out⟩
end Go.Proofs.YtmiohekmpjiloaaGreatDoor

namespace Go.Proofs.YtmiohekmpjiloaaGreatDoor
open Go.RowKit
set_option maxRecDepth 20000

/-- How deep values are nested, counted no further than m. -/
def deepV : Nat → List Pl.GV → Nat
  | 0, _ => 0
  | m + 1, l => l.foldl (fun d g => if d < m + 1 then max d (1 + deepV m g.l) else d) 0
def deepVF (m : Nat) (d : Nat) (g : Pl.GV) : Nat := if d < m + 1 then max d (1 + deepV m g.l) else d
theorem deepV_succ (m : Nat) (l : List Pl.GV) : deepV (m + 1) l = l.foldl (deepVF m) 0 := rfl
theorem deepVF_stay (m d : Nat) (l : List Pl.GV) (h : ¬ d < m + 1) : l.foldl (deepVF m) d = d := by
  induction l with
  | nil => rfl
  | cons g l ih => rw [List.foldl_cons, deepVF, if_neg h, ih]
theorem deepV_le (m : Nat) : ∀ l, deepV m l ≤ m := by
  induction m with
  | zero => intro l; exact Nat.le_refl _
  | succ m ih =>
    intro l
    rw [deepV_succ]
    suffices H : ∀ d, d ≤ m + 1 → l.foldl (deepVF m) d ≤ m + 1 from H 0 (by omega)
    induction l with
    | nil => intro d hd; exact hd
    | cons g l ihl =>
      intro d hd
      rw [List.foldl_cons]
      refine ihl _ ?_
      unfold deepVF
      have := ih g.l
      split <;> omega

structure DeepVI (M m : Nat) (l : List Pl.GV) (w : World) (d i : Value) (wr : World) : Prop where
  all : ∃ k : Nat, k ≤ M ∧ i = .int .i64 k ∧ d = .int .i64 (((l.take k).foldl (deepVF m) 0 : Nat) : Int) ∧ Below w.heap.size w wr

set_option maxHeartbeats 8000000 in
theorem deepestV_any (m : Nat) : ∀ (B : Nat) (l : List Pl.GV) (w : World) (v : Value), m ≤ 1000 → VyS B m l w v → B ≤ w.heap.size →
    Calls Tryz.prog 33 #[.int .i64 (m : Int), v] w fun e w' => e = .returned (.int .i64 (deepV m l : Int)) ∧ Below w.heap.size w w' := by
  induction m with
  | zero =>
    intro B l w v _ h hB
    obtain ⟨ad, n, cp, rfl⟩ := h
    rw [show deepV 0 l = 0 from rfl]
    go_enter Tryz.func33, Tryz.ntmps33
    go_wp2_with fail
    by_cases hn : 0 < n
    · go_rounds 1
      go_ret
      exact ⟨rfl, Below.refl _ _⟩
    · go_rounds 1
      go_ret
      exact ⟨rfl, Below.refl _ _⟩
  | succ m ih =>
    intro B l w v hm h hB
    obtain ⟨ad, cp, rfl, hlen, hcells⟩ := h
    obtain ⟨M, hM⟩ : ∃ M, M = l.length := ⟨_, rfl⟩
    obtain ⟨D, hD⟩ : ∃ D, D = deepV (m + 1) l := ⟨_, rfl⟩
    rw [← hM, ← hD]
    have HM : Hid (M = l.length) := hM
    have HD : Hid (D = l.foldl (deepVF m) 0) := hD
    have HC := hid hcells
    have HI := hid ih
    rw [← hM] at hlen
    clear hM hD hcells ih
    go_enter Tryz.func33, Tryz.ntmps33
    go_wp2_with fail
    go_loopw [5, 6] (fun d i wr => DeepVI M m l w d i wr) (fun _ i _ => M - (intOf i).toNat)
    case atStart => exact ⟨0, Nat.zero_le _, rfl, rfl, Below.refl _ _⟩
    case round =>
      obtain ⟨k, hk, rfl, rfl, hbw⟩ := hrel.all
      clear hrel
      obtain ⟨d, hd⟩ : ∃ d, d = (l.take k).foldl (deepVF m) 0 := ⟨_, rfl⟩
      rw [← hd]
      have Hd : Hid (d = (l.take k).foldl (deepVF m) 0) := hd
      clear hd
      by_cases hlt : k < M
      · by_cases hdm : d < m + 1
        · obtain ⟨g, hg⟩ : ∃ g, l[k]? = some g := ⟨l[k]'(by rw [← HM.out]; exact hlt), by simp⟩
          obtain ⟨blk, off, o, rfl, q2, q3, q4, q5, q6, q7⟩ := HC.out k g hg
          obtain ⟨oa, om, oc, rfl⟩ := q7.shape
          have hB' : blk < w.heap.size := Nat.lt_of_lt_of_le q2 hB
          have c3 := (hbw.cell hB').trans q6
          have hnext : (l.take (k + 1)).foldl (deepVF m) 0 = max d (1 + deepV m g.l) := by
            rw [fold_take _ _ _ _ _ hg, ← Hd.out, deepVF, if_pos hdm]
          have hle := deepV_le m g.l
          have hr := HI.out B g.l wr _ (by omega) (VyS.bel (hbw.mono hB) _ _ _ q7) (Nat.le_trans hB hbw.size)
          have Hn := hid hnext
          have HW := hid hbw
          clear hnext q3 q4 q5 q6 hg q7 hbw
          generalize deepV m g.l = R at *
          go_wp2_with fail
          refine hr.mono ?_
          rintro e w2 ⟨rfl, hb2⟩
          have HB2 := hid (below_next HW.out hb2)
          clear hr hb2
          go_wp2
          refine ⟨?_, ?_⟩
          · (repeat apply Exists.intro)
            refine ⟨⟨k + 1, by omega, by go_num, ?_, HB2.out⟩, rfl⟩
            rw [Hn.out]
            congr 1
            omega
          · simp [intOf]; omega
        · have hst : l.foldl (deepVF m) 0 = d := by
            have h1 : l = l.take k ++ l.drop k := (List.take_append_drop k l).symm
            rw [h1, List.foldl_append, ← Hd.out, deepVF_stay m d _ hdm]
          have hDd : D = d := HD.out.trans hst
          subst hDd
          have HW := hid hbw
          clear hst hbw
          go_wp2
          go_ret
          exact ⟨rfl, HW.out⟩
      · obtain rfl : k = M := by omega
        have hDd : D = d := by rw [HD.out, Hd.out, List.take_of_length_le (by rw [← HM.out]; omega)]
        subst hDd
        have hkI : ¬ (k : Int) < (k : Int) := by omega
        have HW := hid hbw
        clear hbw
        go_wp2
        go_ret
        exact ⟨rfl, HW.out⟩

theorem VyS.one {B n : Nat} {g : Pl.GV} {w : World} {o : Value} (h : VyS B n g.l w o) {b : Nat} (hb : b < B) (hB : Bx w b [.int .i64 g.i, .int .u64 g.u, .string g.t, o] 33) : VyS B (n + 1) [g] w (.slice (some ⟨b, 0, none⟩) 1 1) := by
  refine ⟨some ⟨b, 0, none⟩, 1, rfl, show 1 ≤ 9223372036854775807 by omega, fun i x hx => ?_⟩
  match i, hx with
  | 0, hx =>
    simp at hx
    subst hx
    exact ⟨b, 0, o, rfl, hb, hB.cell 0 rfl, hB.cell 1 rfl, hB.cell 2 rfl, hB.cell 3 rfl, h⟩
  | i + 1, hx => simp at hx

set_option maxHeartbeats 4000000 in
theorem DeepV_any (B : Nat) (g : Pl.GV) (o : Value) (w : World) (h : VyS B 99 g.l w o) (hB : B ≤ w.heap.size) :
    Calls Tryz.prog 16 #[gvA g o] w fun e w' => e = .returned (.int .i64 (deepV 100 [g] : Int)) ∧ Below w.heap.size w w' := by
  obtain ⟨a1, m1, c1, rfl⟩ := h.shape
  have hb1 := below_alloc w (.cells #[.int .i64 g.i, .int .u64 g.u, .string g.t, .slice a1 m1 c1] 33)
  have hb2 := below_alloc (w.alloc (.cells #[.int .i64 g.i, .int .u64 g.u, .string g.t, .slice a1 m1 c1] 33)) (.cells #[.int .i64 g.i, .int .u64 g.u, .string g.t, .slice a1 m1 c1] 33)
  have hb := below_next hb1 hb2
  have hz : (w.alloc (.cells #[.int .i64 g.i, .int .u64 g.u, .string g.t, .slice a1 m1 c1] 33)).heap.size = w.heap.size + 1 := by simp
  have hd := deepestV_any 100 (w.heap.size + 1 + 1) [g] _ (.slice (some ⟨w.heap.size + 1, 0, none⟩) 1 1) (by omega) (VyS.one (VyS.mono (by omega) _ _ _ _ (VyS.bel (hb.mono hB) _ _ _ h)) (by omega) (Bx.newAt hz.symm _ _)) (by simp)
  have HD := hid hd
  have HB := hid hb
  generalize deepV 100 [g] = R at *
  unfold gvA
  clear hb1 hb2 hb hd h hz
  go_enter Tryz.func16, Tryz.ntmps16
  go_wp2_with fail
  refine HD.out.mono ?_
  rintro e w5 ⟨rfl, hb5⟩
  have HL := hid (below_next HB.out hb5)
  clear hb5
  go_wp2
  go_ret
  exact ⟨rfl, HL.out⟩
end Go.Proofs.YtmiohekmpjiloaaGreatDoor

namespace Go.Proofs.YtmiohekmpjiloaaGreatDoor
open Go.RowKit
set_option maxRecDepth 20000

set_option maxHeartbeats 8000000 in
/-- parts of values that have none. -/
theorem parts_none (B n : Nat) (l : List Pl.GV) (hn : ∀ g ∈ l, g.l = []) (ad : Option Addr) (m cp : Nat) (w : World) (h : VyS B (n + 2) l w (.slice ad m cp)) (hB : B ≤ w.heap.size) :
    Calls Tryz.prog 35 #[.slice ad m cp] w fun e w' => e = .returned (.slice none 0 0) ∧ Below w.heap.size w w' := by
  obtain ⟨hm, hm1⟩ := h.len
  have HV := hid h
  have HM := hid hm
  have HN := hid hn
  clear h hm hn
  go_enter Tryz.func35, Tryz.ntmps35
  go_wp2_with fail
  go_loopw [3, 8] (fun ls i wr => ∃ k : Nat, k ≤ m ∧ ls = .slice none 0 0 ∧ i = .int .i64 k ∧ Below w.heap.size w wr) (fun _ i _ => m - (intOf i).toNat)
  case atStart => exact ⟨0, Nat.zero_le _, rfl, rfl, Below.refl _ _⟩
  case round =>
    obtain ⟨k, hk, rfl, rfl, hbw⟩ := hrel
    by_cases hlt : k < m
    · obtain ⟨x, hx⟩ : ∃ x, l[k]? = some x := ⟨l[k]'(by rw [← HM.out]; exact hlt), by simp⟩
      obtain ⟨blk, off, xa, xm, xc, rfl, hblk, q0, q1, q2, q3, q4⟩ := HV.out.cells hx
      have hblk' := Nat.lt_of_lt_of_le hblk hB
      have d0 := (hbw.cell hblk').trans q0
      have d1 := (hbw.cell hblk').trans q1
      have d2 := (hbw.cell hblk').trans q2
      have d3 := (hbw.cell hblk').trans q3
      have hxm : xm = 0 := by
        have := q4.len.1
        rw [HN.out x (List.mem_of_getElem? hx)] at this
        exact this
      subst hxm
      have HB2 := hid (below_next hbw (below_alloc wr (.cells #[.int .i64 x.i, .int .u64 x.u, .string x.t, .slice xa 0 xc] 33)))
      clear q0 q1 q2 q3 q4 hx hbw
      go_wp2
      exact ⟨⟨k + 1, by omega, rfl, by go_num, HB2.out⟩, by simp [intOf]; omega⟩
    · have hkI : ¬ (k : Int) < (m : Int) := by omega
      have HBW := hid hbw
      clear hbw
      go_wp2
      go_ret
      exact ⟨rfl, HBW.out⟩

set_option maxHeartbeats 8000000 in
/-- parts of one value that has some. -/
theorem parts_one (g : Pl.GV) (b xm : Nat) (xa : Option Addr) (xc : Nat) (hx : 0 < xm) (w : World) (h : Bx w b [.int .i64 g.i, .int .u64 g.u, .string g.t, .slice xa xm xc] 33) :
    Calls Tryz.prog 35 #[.slice (some ⟨b, 0, none⟩) 1 1] w fun e w' => ∃ q cap, e = .returned (.slice (some ⟨q, 0, none⟩) 1 cap) ∧ w.heap.size ≤ q ∧ w'.cell? ⟨q, 0, none⟩ = some (.slice xa xm xc) ∧ Below w.heap.size w w' := by
  have d0 := h.cell 0 rfl
  have d1 := h.cell 1 rfl
  have d2 := h.cell 2 rfl
  have d3 := h.cell 3 rfl
  have hxI : (0 : Int) < (xm : Int) := by omega
  clear h
  go_enter Tryz.func35, Tryz.ntmps35
  go_wp2_with fail
  go_rounds 2
  generalize (Question.appendCap 1 0 31).cut (w.tape w.drawn (Question.appendCap 1 0 31)) = C
  go_ret
  refine ⟨_, _, rfl, by omega, ?_, (below_next (below_next (below_alloc w _) (below_alloc _ _)) (below_alloc _ _)).drew⟩
  have hz : ((w.alloc (.cells #[.int .i64 g.i, .int .u64 g.u, .string g.t, .slice xa xm xc] 33)).alloc (.cells #[.slice xa xm xc] 31)).heap.size = w.heap.size + 1 + 1 := by simp
  have hn := heap_alloc_new ((w.alloc (.cells #[.int .i64 g.i, .int .u64 g.u, .string g.t, .slice xa xm xc] 33)).alloc (.cells #[.slice xa xm xc] 31)) (.cells (#[.slice xa xm xc] ++ Builtin.zeroCells #[.slice none 0 0] (C - 1)) 31)
  rw [hz] at hn
  exact (cell_of_row _ (w.heap.size + 1 + 1) 0 _ _ _ hn).trans (by rw [Array.getElem?_append_left (show 0 < 1 by omega)]; rfl)

set_option maxHeartbeats 8000000 in
/-- Size of a value whose parts have none. -/
theorem Size_one (B n : Nat) (g : Pl.GV) (hn : ∀ x ∈ g.l, x.l = []) (b xm : Nat) (hx : 0 < xm ∧ xm ≤ 1000) (xa : Option Addr) (xc : Nat) (w : World) (h : Bx w b [.int .i64 g.i, .int .u64 g.u, .string g.t, .slice xa xm xc] 33) (hV : VyS B (n + 2) g.l w (.slice xa xm xc)) (hB : B ≤ w.heap.size) :
    Calls Tryz.prog 18 #[.slice (some ⟨b, 0, none⟩) 1 1] w fun e w' => e = .returned (.int .i64 (1 + xm : Int)) ∧ Below w.heap.size w w' := by
  obtain ⟨w1, hw1⟩ : ∃ w1, w1 = w.alloc (.cells #[.slice (some ⟨b, 0, none⟩) 1 1] 31) := ⟨_, rfl⟩
  have hb1 : Below w.heap.size w w1 := by rw [hw1]; exact below_alloc w _
  have hB1 : Bx w1 w.heap.size [.slice (some ⟨b, 0, none⟩) 1 1] 31 := by rw [hw1]; exact Bx.new w _ _
  have HP1 := hid (parts_one g b xm xa xc hx.1 w1 (h.below hb1))
  have HP0 := hid (fun W (hW : Below w.heap.size w W) => parts_none B n g.l hn xa xm xc W (VyS.bel (hW.mono hB) _ _ _ hV) (Nat.le_trans hB hW.size))
  have HB1 := hid hB1
  have Hb1 := hid hb1
  have HW1 := hid hw1
  have y0 := hB1.cell 0 rfl
  obtain ⟨hx0, hx1⟩ := hx
  have hlt1 := hB1.lt
  clear hw1 hb1 hB1 h hV hn
  go_enter Tryz.func18, Tryz.ntmps18
  go_wp2_with fail
  rw [← HW1.out]
  go_loopw [3, 4] (fun nn le wr => (nn = .int .i64 0 ∧ le = .slice (some ⟨w.heap.size, 0, none⟩) 1 1 ∧ w1 = wr) ∨ (nn = .int .i64 1 ∧ le = .slice (some ⟨w.heap.size, 0, none⟩) 1 1 ∧ Bx wr w.heap.size [.slice xa xm xc] 31 ∧ Below w.heap.size w wr) ∨ (nn = .int .i64 (1 + xm : Int) ∧ le = .slice (some ⟨w.heap.size, 0, none⟩) 0 1 ∧ Below w.heap.size w wr)) (fun nn le _ => 2000 - (intOf nn).toNat)
  case atStart => exact .inl ⟨rfl, rfl, rfl⟩
  case round =>
    rcases hrel with ⟨rfl, rfl, rfl⟩ | ⟨rfl, rfl, hBx, hbw⟩ | ⟨rfl, rfl, hbw⟩
    · go_wp2_with fail
      refine HP1.out.mono ?_
      rintro e w2 ⟨q, cap, rfl, hq, hc, hb2⟩
      have hB2 := HB1.out.below hb2
      have z0 := hB2.cell 0 rfl
      have zf := hB2.frozen
      have HB2 := hid hB2
      have Hb2 := hid (below_next Hb1.out hb2)
      clear hb2 hB2
      go_wp2_with fail
      exact ⟨.inr (.inl ⟨rfl, rfl, HB2.out.set 0 _, Hb2.out.setCell (p := ⟨w.heap.size, 0, none⟩) (Nat.le_refl _) _⟩), by simp [intOf]⟩
    · have z0 := hBx.cell 0 rfl
      have HP2 := hid (HP0.out wr hbw)
      have HBW := hid hbw
      have hx64 : (1 + (xm : Int)) < 1048576 := by omega
      clear hBx hbw
      go_wp2_with fail
      refine HP2.out.mono ?_
      rintro e w2 ⟨rfl, hb2⟩
      have Hb2 := hid (below_next HBW.out hb2)
      clear hb2
      go_wp2_with fail
      exact ⟨.inr (.inr ⟨by go_num, rfl, Hb2.out⟩), by simp [intOf]; omega⟩
    · have HBW := hid hbw
      clear hbw
      go_wp2_with fail
      go_ret
      exact ⟨by go_num, HBW.out⟩
end Go.Proofs.YtmiohekmpjiloaaGreatDoor

