/- backoff: Total and Row. -/
import Derived.Test.YtekldjfmdapgpaaBkE
namespace Go.Proofs.Ytekldjfmdapgpaa
open Go.RowKit Go.Shelf
attribute [local go_sem] Oper.semAt_some
set_option linter.unusedVariables false
set_option maxRecDepth 20000

theorem from_below {B : Nat} {X W : World} (h : Below X.heap.size X.drew W) : KeepsFrom B X W := ⟨h.size, fun k o _ hk _ => (h.block k (Array.getElem?_eq_some_iff.1 hk).1).trans hk⟩
theorem cg_below {b : Nat} {X W : World} (h : Below X.heap.size X.drew W) : Cg b X W := ⟨h.os, h.tape, h.output, h.size, fun g hg _ => h.block g hg⟩
/-- What lies between two rounds of Total. -/
def TotI (N M : Nat) (w : World) (v : Value) (f : Nat → Int) (k : Nat) (W : World) : Prop := Below N w W ∧ Bo W (N + 1) [v] 25 ∧ Bo W M [.int .i64 (f k)] 3
theorem TotI.up {N M B : Nat} {w : World} {v : Value} {f : Nat → Int} (h0 : N + 2 ≤ B) (h1 : M + 1 ≤ B) (hw : N ≤ w.heap.size) : Up B (TotI N M w v f) := by
  intro k W W' row hs hg hr
  refine ⟨hs.1.grown hg (Nat.le_trans hw hs.1.size) (fun r e => by have := hr r e; omega), ?_, ?_⟩
  · exact (hg.block _ hs.2.1.lt (fun e => by have := hr _ e.symm; omega)).trans hs.2.1
  · exact (hg.block _ hs.2.2.lt (fun e => by have := hr _ e.symm; omega)).trans hs.2.2

set_option maxHeartbeats 4000000 in
theorem total_any (s : Bf.Se) (v : Value) (l : List Int) (w : World) (hv : Seg .u64 w v l) (hl : ∀ k, k < l.length → 0 ≤ l.getD k 0 ∧ l.getD k 0 < 18446744073709551616) : Calls Try.prog 13 #[vS s, v] w fun e w' => e = .returned (.tuple #[.int .i64 (Bf.sumR s l), .int .i64 (Bf.sumE s l)]) ∧ Below w.heap.size w w' := by
  have c1 := fun W => mayTry_any s (l.length : Int) 0 W
  rw [Bf.try_sum] at c1
  have HC0 : Hid (Bf.sumE s l = 0 → Bf.sumR s l = Bf.sum s l l.length ∧ Bf.sets s = true ∧ l.length ≤ 64) := hidD (fun h => by
    refine ⟨if_pos h, ?_⟩
    unfold Bf.sumE at h
    split at h
    · rename_i hs
      split at h
      · cases h
      · exact ⟨hs, by omega⟩
    · cases h)
  have HC1 : Hid (¬ Bf.sumE s l = 0 → Bf.sumR s l = 0) := hidD (fun h => if_neg h)
  have HVV := hidD hv
  have HLL := hidD hl
  obtain ⟨a, cap, rfl, g1, g2, _, _⟩ := id hv
  obtain ⟨n, hn⟩ : ∃ n, n = l.length := ⟨_, rfl⟩
  rw [← hn] at HVV HC0 HLL g1 c1 ⊢
  have HLN := hidD hn
  unfold maxLen at g2
  clear hn hv hl
  generalize Bf.sumR s l = z at *
  generalize Bf.sumE s l = ke at *
  obtain ⟨W0, hW0, X0, X1, HB, HS⟩ := two_boxes w (sL s) [.slice a n cap] 23 25
  obtain ⟨N, hN⟩ : ∃ N, N = w.heap.size := ⟨_, rfl⟩
  have HNW : Hid (N ≤ w.heap.size) := hidD (by omega)
  rw [← hN] at X0 X1 HB HS ⊢
  replace HS := hidD HS
  replace X0 := hidD X0
  replace X1 := hidD X1
  replace HB := hidD HB
  simp only [sL] at hW0
  have HN := hidD hN
  have D1 : 1 ≤ 10 := by decide
  have F1 : Fence.wide.fn 26 := trivial
  have F2 : Fence.wide.fn 22 := trivial
  have F3 : Fence.wide.fn 24 := trivial
  clear hN
  refine (callsIn_wide (n := 10)).1 ?_
  refine callsIn_of_wp_marks Try.func13 rfl trivial ?_ rfl
  simp only [Try.ntmps13, List.size_toArray, List.length_cons, List.length_nil, Nat.reduceAdd, Nat.reduceSub, Array.replicate_succ, Array.replicate_zero, List.push_toArray, List.append_toArray, List.nil_append, List.cons_append]
  gi_wp2_with fail
  rw [← HN.out, ← hW0]
  clear hW0
  refine (callsIn_wide.2 (c1 _)).mono ?_
  rintro e w1 ⟨rfl, h1⟩
  have Y0 := hidD (X0.out.below h1)
  have Y1 := hidD (X1.out.below h1)
  have hb1 := hidD (below_on HB.out (by have := HS.out; omega) h1)
  have hs1 : Hid (N + 2 ≤ w1.heap.size) := hidD (by have := HS.out; have := h1.size; omega)
  clear X0 X1 HB HS h1 c1
  have p0 := Y0.out.cell 0 rfl
  have p1 := Y0.out.cell 1 rfl
  have p2 := Y0.out.cell 2 rfl
  have q0 := Y1.out.cell 0 rfl
  by_cases hk : ke = 0
  · subst hk
    obtain ⟨hz, hs, hn⟩ := HC0.out rfl
    have HZ := hidD hz
    have cP := pauses_any s (n : Int)
    have LY0 := Y0.out.lt
    have LY1 := Y1.out.lt
    clear HC0 HC1 hz
    gi_wp2_with (gi_at_call 26; refine (callsIn_wide.2 (cP _)).mono ?_; rintro e w2 ⟨rfl, rfl⟩)
    obtain ⟨V, hV, Z2, Z3, Z4, HB3, HS3⟩ := three_boxes w1 [.int .i64 0] (sL s) [.int .i64 (n : Int)] 3 23 3
    obtain ⟨M, hM⟩ : ∃ M, M = w1.heap.size := ⟨_, rfl⟩
    rw [← hM] at Z2 Z3 Z4 HS3
    have hVb := hidD (below_on hb1.out (by have := hs1.out; omega) HB3)
    have HNM : Hid (N + 2 ≤ M) := hidD (by have := hs1.out; omega)
    have hI0 : Hid (TotI N M w (.slice a n cap) (Bf.sum s l) 0 V) := hidD ⟨hVb.out, Y1.out.below HB3, Z2⟩
    have Z3' := hidD Z3
    have Z4' := hidD Z4
    have HSV := hidD HS3
    have hsets := hidD hs
    clear Z2 Z3 Z4 HB3 HS3 hVb Y0 Y1 hb1 hs1 cP p0 p1 p2 q0 LY0 LY1 hs
    simp only [sL] at hV ⊢
    rw [← hM, ← hV]
    clear hV hM
    refine range_pauses s hsets.out n (M + 1) (M + 1 + 1) M D1 hn rfl Z3'.out Z4'.out (by have := HSV.out; omega) (TotI N M w (.slice a n cap) (Bf.sum s l)) (TotI.up (by have := HSV.out; have := HNM.out; omega) (by have := HSV.out; omega) HNW.out) hI0.out ?round ?done
    case round =>
      rintro ll k W hk ⟨i1, i2, i3⟩ hl ⟨r, hr⟩
      have HSl : V.heap.size ≤ ll := hl
      gi_wp2
      refine ⟨(KeepsOthers.alloc _ _).from _, Kb.grown (World.grownBy_alloc _ _ none), ?_⟩
      rintro o X hX
      obtain ⟨e1, e2, e3, e4⟩ := round_open (cs := pL s (Bf.d s k)) hr i1 (by have := HSV.out; have := HNM.out; omega) hX
      have g2 := e3 _ _ _ i2
      have g3 := e3 _ _ _ i3
      have hseg := HVV.out.below (by rw [← HN.out]; exact e1)
      obtain ⟨a', cap', he, _, _, h3, h4⟩ := id hseg
      rw [← HLN.out] at he
      injection he with he1 he2 he3
      subst he1 he3
      obtain ⟨gb, off, rfl, hgb, hcell⟩ := seg_at (l := l) (by have := HLN.out; omega) h3 h4
      have Q := hcell k (by have := HLN.out; omega)
      obtain ⟨x0, x1⟩ := HLL.out k hk
      obtain ⟨x, hx⟩ := Int.eq_ofNat_of_zero_le x0
      rw [hx] at Q
      have hxlt : x < 18446744073709551616 := by omega
      obtain ⟨d0, d1⟩ := Bf.d_num hsets.out k
      have cD := delay_any s (Bf.d s k) x hsets.out d0 d1 hxlt
      obtain ⟨o0, o1⟩ := Bf.one_range hsets.out d0 d1 hxlt
      obtain ⟨s0, s1⟩ := Bf.sum_range hsets.out (l := l) (fun j hj => by have := HLL.out j (by have := HLN.out; omega); omega) k (by have := HLN.out; omega)
      have hnext : Hid (Bf.sum s l (k + 1) = Bf.sum s l k + Bf.one s (Bf.d s k) x) := hidD (by
        show Bf.sum s l k + Bf.one s (Bf.d s k) (l.getD k 0).toNat = _
        rw [hx]
        rfl)
      have hw : IntKind.i64.wrap (Bf.sum s l k + Bf.one s (Bf.d s k) x) = Bf.sum s l k + Bf.one s (Bf.d s k) x := wrap_ok (by omega) (by omega)
      have hi : (k : Int) < (n : Int) := by omega
      have L2 := g2.lt
      have L3 := g3.lt
      have LX := e2.lt
      have GE1 := hidD e1
      have G2 := hidD g2
      have G3 := hidD g3
      have GX := hidD e2
      have G4 := hidD e4
      have t2 := g2.cell 0 rfl
      have t3 := g3.cell 0 rfl
      have f3 := g3.frozen 0
      have px0 := e2.cell 0 rfl
      have px1 := e2.cell 1 rfl
      have px2 := e2.cell 2 rfl
      have px3 := e2.cell 3 rfl
      clear hX e1 e2 e3 g2 g3 i1 i2 i3 hseg h3 h4 hcell he2 x0 x1 hx d0 d1 o0 o1 s0 s1
      generalize Bf.one s (Bf.d s k) x = y at *
      generalize Bf.sum s l k = sm at *
      have LEAF : Hid (∀ W4, Below X.heap.size X.drew W4 → KeepsFrom V.heap.size X (W4.setCell ⟨M, 0, none⟩ (.int .i64 (sm + y))) ∧ Kb M X (W4.setCell ⟨M, 0, none⟩ (.int .i64 (sm + y))) ∧ TotI N M w (.slice (some ⟨gb, off, none⟩) n cap) (Bf.sum s l) (k + 1) (W4.setCell ⟨M, 0, none⟩ (.int .i64 (sm + y)))) := hidD (by
        intro W4 h
        have hc : Cg M X (W4.setCell ⟨M, 0, none⟩ (.int .i64 (sm + y))) := (cg_below h).trans (Cg.set W4 0 _)
        refine ⟨(from_below h).trans ((KeepsOthers.setCell _ _ _).from _), Kb.cg hc, hc.below (B := N) (by have := HNM.out; omega) (by omega) GE1.out, (Kb.cg hc).bo (by have := HNM.out; omega) G2.out, ?_⟩
        rw [hnext.out]
        exact (Bo.below (w := X.drew) G3.out h).set 0 _)
      have hd : 1 ≤ 10 - 1 - 1 := by decide
      have hmx : Try.prog.follows .mixedOrders = true := by kernel_rfl
      gi_wp2
      gi_region_with_o (gi_at_call 24; refine (CallsIn.inRound ll (callsIn_wide.2 (cD _))).mono ?_; rintro e w4 ⟨rfl, h4⟩; have B3 := Bo.below (cs := [.int .i64 sm]) (T := 3) (b := M) (by exact G3.out) h4; have t3' := B3.cell 0 rfl; have f3' := B3.frozen 0; have H4 := hidD h4; clear h4 B3)
      all_goals exact LEAF.out w4 H4.out
    case done =>
      rintro D W hD ⟨i1, i2, i3⟩ hK
      have q := i3.cell 0 rfl
      have HND : Hid (N ≤ D) := hidD (by have := HSV.out; have := HNM.out; omega)
      have GB := hidD i1
      have HK := hidD hK
      have hz := HZ.out
      rw [← hz] at q
      clear i1 i2 i3 hK hD hz
      gi_wp2
      refine ⟨by simp, .inl ⟨_, _, rfl, run_takeDeferred HK.out, ?_⟩⟩
      refine ⟨_, results_tmp2 rfl _ _ _, rfl, ?_⟩
      exact GB.out.grown (grownBy_putObj' _ D _) (by have := GB.out.size; have := HNW.out; omega) (fun k e => by cases e; exact HND.out)
  · have hZ := HC1.out hk
    subst hZ
    have hk1 : (ke != 0) = true := by simp [hk]
    clear HC0 HC1 hs1
    gi_wp2_with fail
    exact ⟨_, results_tmp2 rfl _ _ _, rfl, hb1.out⟩
end Go.Proofs.Ytekldjfmdapgpaa
