/- backoff: Row. -/
import Derived.Test.YtekldjfmdapgpaaBkE
namespace Go.Proofs.Ytekldjfmdapgpaa
open Go.RowKit Go.Shelf
attribute [local go_sem] Oper.semAt_some
set_option linter.unusedVariables false
set_option maxRecDepth 20000

theorem Bf.rowE_zero {s : Bf.Se} {n : Int} (h : Bf.rowE s n = 0) : Bf.sets s = true ∧ 0 ≤ n ∧ n ≤ 64 := by
  unfold Bf.rowE at h
  split at h
  · rename_i h1
    split at h
    · rename_i h2
      exact ⟨h1, h2.1, h2.2⟩
    · cases h
  · cases h
/-- The row when k of n have come. -/
def rowN (d : Nat → Int) (n k : Nat) : List Int := (List.range n).map fun i => if i < k then d i else 0
theorem rowN_length (d : Nat → Int) (n k : Nat) : (rowN d n k).length = n := by simp [rowN]
theorem rowN_get (d : Nat → Int) (n k i : Nat) (h : i < n) : (rowN d n k)[i]? = some (if i < k then d i else 0) := by simp [rowN, h]
theorem rowN_set (d : Nat → Int) (n k : Nat) (h : k < n) : (rowN d n k).set k (d k) = rowN d n (k + 1) := by
  apply List.ext_getElem?
  intro i
  by_cases hi : i < n
  · rw [rowN_get _ _ _ _ hi]
    by_cases e : k = i
    · subst e
      rw [List.getElem?_set_self (by rw [rowN_length]; exact h), if_pos (by omega)]
    · rw [List.getElem?_set_ne e, rowN_get _ _ _ _ hi]
      have : (i < k) = (i < k + 1) := by rw [eq_iff_iff]; omega
      simp only [this]
  · rw [List.getElem?_eq_none (by rw [List.length_set, rowN_length]; omega), List.getElem?_eq_none (by rw [rowN_length]; omega)]
theorem rowN_full (s : Bf.Se) (n : Nat) : rowN (Bf.d s) n n = Bf.row s n := by
  unfold rowN Bf.row
  apply List.map_congr_left
  intro i hi
  rw [List.mem_range] at hi
  simp [hi]
theorem made_row (d : Nat → Int) (n : Nat) : (madeCells (Value.cells (.int .i64 0)) (n * 1)).toList = i64s (rowN d n 0) := by
  unfold madeCells rowN
  simp [Value.cells, Nat.mod_one]
theorem bo_of_row {W : World} {B g n : Nat} {T : TypeId} {xs : List Value} (h : W.ownsRow B T 1 (.slice (some ⟨g, 0, none⟩) n n) n xs) : Bo W g xs T := by
  rcases h.2 with ⟨h1, _⟩ | ⟨g2, cap, cur, h1, _, hb, _, _, hs, ht⟩
  · cases h1
  · cases h1
    have : xs = cur.toList := by
      rw [← ht, List.take_of_length_le]
      rw [Array.length_toList, hs]
      exact Nat.le_refl _
    subst this
    unfold Bo
    simpa using hb
theorem Try.infoI : (Try.prog.info? 3).map (fun i => (i.zero, i.size, i.bytes)) = some (some (.int .i64 0), 1, 8) := by kernel_rfl
theorem seg_bo {w : World} {b : Nat} {l : List Int} {T : TypeId} (h : Bo w b (i64s l) T) (hl : l.length ≤ 1000) : Seg .i64 w (.slice (some ⟨b, 0, none⟩) l.length l.length) l := by
  refine ⟨some ⟨b, 0, none⟩, l.length, rfl, Nat.le_refl _, by unfold maxLen; omega, fun h => (by cases h), fun x hx i hi => ?_⟩
  cases hx
  rw [add_plain, Nat.zero_add, h.cell i (u := .int .i64 (l.getD i 0)) (by simp [i64s, hi, List.getD])]

/-- What lies between two rounds of Row. -/
def RowI (N G H : Nat) (w : World) (d : Nat → Int) (n k : Nat) (W : World) : Prop := Below N w W ∧ Bo W H [.slice (some ⟨G, 0, none⟩) n n] 35 ∧ Bo W G (i64s (rowN d n k)) 3
theorem RowI.up {N G H B n : Nat} {w : World} {d : Nat → Int} (h0 : N ≤ B) (h1 : G < B) (h2 : H < B) (hw : N ≤ w.heap.size) : Up B (RowI N G H w d n) := by
  intro k W W' row hs hg hr
  refine ⟨hs.1.grown hg (Nat.le_trans hw hs.1.size) (fun r e => by have := hr r e; omega), ?_, ?_⟩
  · exact (hg.block _ hs.2.1.lt (fun e => by have := hr _ e.symm; omega)).trans hs.2.1
  · exact (hg.block _ hs.2.2.lt (fun e => by have := hr _ e.symm; omega)).trans hs.2.2

set_option maxHeartbeats 4000000 in
theorem brow_any (s : Bf.Se) (n : Int) (w : World) : Calls Try.prog 15 #[vS s, .int .i64 n] w fun e w' => ∃ v, e = .returned (.tuple #[v, .int .i64 (Bf.rowE s n)]) ∧ Below w.heap.size w w' ∧ Seg .i64 w' v (Bf.rowR s n) := by
  have c1 := fun W => mayTry_any s n 0 W
  rw [Bf.try_row] at c1
  have HC0 : Hid (Bf.rowE s n = 0 → Bf.rowR s n = Bf.row s n.toNat ∧ Bf.sets s = true ∧ 0 ≤ n ∧ n ≤ 64) := hidD (fun h => ⟨if_pos h, Bf.rowE_zero h⟩)
  have HC1 : Hid (¬ Bf.rowE s n = 0 → Bf.rowR s n = []) := hidD (fun h => if_neg h)
  generalize Bf.rowR s n = z at *
  generalize Bf.rowE s n = ke at *
  have HB := hidD ((Below.refl w.heap.size w).alloc (Nat.le_refl _) (.cells (sL s).toArray 23))
  have X0 := hidD (Bo.new w (sL s) 23)
  have HS : Hid (w.heap.size + 1 ≤ (w.alloc (.cells (sL s).toArray 23)).heap.size) := hidD (by rw [World.size_alloc]; omega)
  obtain ⟨W0, hW0⟩ : ∃ W0, W0 = w.alloc (.cells (sL s).toArray 23) := ⟨_, rfl⟩
  obtain ⟨N, hN⟩ : ∃ N, N = w.heap.size := ⟨_, rfl⟩
  have HNW : Hid (N ≤ w.heap.size) := hidD (by omega)
  rw [← hW0] at HB X0 HS
  rw [← hN] at HB X0 HS ⊢
  simp only [sL] at hW0
  have HN := hidD hN
  have D1 : 1 ≤ 10 := by decide
  have F1 : Fence.wide.fn 26 := trivial
  have F2 : Fence.wide.fn 22 := trivial
  clear hN
  refine (callsIn_wide (n := 10)).1 ?_
  refine callsIn_of_wp_marks Try.func15 rfl trivial ?_ rfl
  simp only [Try.ntmps15, List.size_toArray, List.length_cons, List.length_nil, Nat.reduceAdd, Nat.reduceSub, Array.replicate_succ, Array.replicate_zero, List.push_toArray, List.append_toArray, List.nil_append, List.cons_append]
  gi_wp2_with fail
  rw [← HN.out, ← hW0]
  clear hW0
  refine (callsIn_wide.2 (c1 _)).mono ?_
  rintro e w1 ⟨rfl, h1⟩
  have Y0 := hidD (X0.out.below h1)
  have hb1 := hidD (below_on HB.out (by have := HS.out; omega) h1)
  have hs1 : Hid (N + 1 ≤ w1.heap.size) := hidD (by have := HS.out; have := h1.size; omega)
  clear X0 HB HS h1 c1
  have p0 := Y0.out.cell 0 rfl
  have p1 := Y0.out.cell 1 rfl
  have p2 := Y0.out.cell 2 rfl
  by_cases hk : ke = 0
  · subst hk
    obtain ⟨hz, hs, hn0, hn1⟩ := HC0.out rfl
    have HZ := hidD hz
    have hsets := hidD hs
    obtain ⟨m, rfl⟩ := Int.eq_ofNat_of_zero_le hn0
    have cP := pauses_any s (m : Int)
    have LY0 := Y0.out.lt
    obtain ⟨i0, hi, hz0, hz1, hz2⟩ := info_parts Try.infoI
    obtain ⟨w2, hmk, hown, hg2⟩ := run_make_full (P := Try.prog) w1 N 35 3 i0 (.int .i64 0) 1 Try.underlying35 hi hz0 hz1 .i64 .i64 m (by rw [hz2]; omega) (by unfold maxLen; omega) (by have := hs1.out; omega)
    rw [made_row (Bf.d s)] at hown
    have R0 := hidD (bo_of_row hown)
    obtain ⟨G, hG⟩ : ∃ G, G = w1.heap.size := ⟨_, rfl⟩
    rw [← hG] at R0 hmk
    have hb2 := hidD (hb1.out.grown hg2 (by have := hs1.out; omega) (fun k e => by cases e))
    have Y2 : Hid (Bo w2 N (sL s) 23) := hidD ((hg2.block N Y0.out.lt (by simp)).trans Y0.out)
    have HGN : Hid (N < G) := hidD (by have := hs1.out; omega)
    have HG2 : Hid (G < w2.heap.size) := hidD R0.out.lt
    have p0' := Y2.out.cell 0 rfl
    have p1' := Y2.out.cell 1 rfl
    have p2' := Y2.out.cell 2 rfl
    have LN2 : N < w2.heap.size := Y2.out.lt
    obtain ⟨V, hV, Z2, Z3, Z4, HB3, HS3⟩ := three_boxes w2 [.slice (some ⟨G, 0, none⟩) m m] (sL s) [.int .i64 (m : Int)] 35 23 3
    have hVb := hidD (below_on hb2.out (by omega) HB3)
    have hI0 : Hid (RowI N G w2.heap.size w (Bf.d s) m 0 V) := hidD ⟨hVb.out, Z2, R0.out.below HB3⟩
    have Z3' := hidD Z3
    have Z4' := hidD Z4
    have HSV := hidD HS3
    clear HC0 HC1 hz hs hn0 hown hg2 hi hz0 hz1 hz2 hG Y0 hb1 hs1 Y2 Z2 Z3 Z4 HB3 HS3 R0 hVb hb2
    gi_wp2_with (gi_at_call 26; refine (callsIn_wide.2 (cP _)).mono ?_; rintro e w3 ⟨rfl, rfl⟩)
    obtain ⟨H, hH⟩ : ∃ H, H = w2.heap.size := ⟨_, rfl⟩
    simp only [sL] at hV ⊢
    rw [← hV]
    rw [← hH] at hI0 Z3' Z4' HSV HG2 ⊢
    clear hV hH cP p0 p1 p2 p0' p1' p2' LY0 LN2 hmk
    refine range_pauses s hsets.out m (H + 1) (H + 1 + 1) G D1 (by omega) rfl Z3'.out Z4'.out (by have := HSV.out; have := HG2.out; omega) (RowI N G H w (Bf.d s) m) (RowI.up (by have := HSV.out; have := HG2.out; have := HGN.out; omega) (by have := HSV.out; have := HG2.out; omega) (by have := HSV.out; omega) HNW.out) hI0.out ?round ?done
    case round =>
      rintro ll k W hk ⟨i1, i2, i3⟩ hl ⟨r, hr⟩
      have HSl : V.heap.size ≤ ll := hl
      gi_wp2
      refine ⟨(KeepsOthers.alloc _ _).from _, Kb.grown (World.grownBy_alloc _ _ none), ?_⟩
      rintro o X hX
      obtain ⟨e1, e2, e3, e4⟩ := round_open (cs := pL s (Bf.d s k)) hr i1 (by have := HSV.out; have := HG2.out; have := HGN.out; omega) hX
      have g2 := e3 _ _ _ i2
      have g3 := e3 _ _ _ i3
      have GS := hidD (g3.set k (.int .i64 (Bf.d s k)))
      rw [← List.map_set, rowN_set _ _ _ hk] at GS
      have GO := hidD ((Cg.set X k (.int .i64 (Bf.d s k))).bo (c := H) (b := G) (by have := HG2.out; omega) g2)
      have GB := hidD ((Cg.set X k (.int .i64 (Bf.d s k))).below (b := G) (B := N) (by have := HGN.out; omega) (by have := g3.lt; have := HGN.out; omega) e1)
      have t2 := g2.cell 0 rfl
      have t3 := g3.cell k (u := .int .i64 (if k < k then Bf.d s k else 0)) (by rw [List.getElem?_map, rowN_get _ _ _ _ hk]; rfl)
      have f3 := g3.frozen k
      have px3 := e2.cell 3 rfl
      have hi : (k : Int) < (m : Int) := by omega
      clear hX e1 e2 e3 e4 g2 g3 i1 i2 i3
      gi_wp2
      exact ⟨(KeepsOthers.setCell _ _ _).from _, Kb.cg (Cg.set _ _ _), GB.out, GO.out, GS.out⟩
    case done =>
      rintro D W hD ⟨i1, i2, i3⟩ hK
      have q := i2.cell 0 rfl
      have HND : Hid (N ≤ D) := hidD (by have := HSV.out; have := HGN.out; have := HG2.out; omega)
      have GB := hidD i1
      have HK := hidD hK
      have I3 := hidD i3
      clear i1 i2 i3 hK hD
      gi_wp2
      refine ⟨by simp, .inl ⟨_, _, rfl, run_takeDeferred HK.out, ?_⟩⟩
      refine ⟨_, results_tmp2 rfl _ _ _, _, rfl, ?_, ?_⟩
      · exact GB.out.grown (grownBy_putObj' _ D _) (by have := GB.out.size; have := HNW.out; omega) (fun k e => by cases e; exact HND.out)
      · have h4 := I3.out
        rw [rowN_full] at h4
        have h5 := seg_bo (Bo.put (o' := .deferred none) HK.out rfl h4) (by rw [Bf.row_len]; omega)
        rw [Bf.row_len] at h5
        rw [HZ.out, Int.toNat_natCast]
        exact h5
  · have hZ := HC1.out hk
    subst hZ
    have hk1 : (ke != 0) = true := by simp [hk]
    clear HC0 HC1 hs1
    gi_wp2_with fail
    refine ⟨_, results_tmp2 rfl _ _ _, _, rfl, hb1.out, Seg.nil _ _⟩
end Go.Proofs.Ytekldjfmdapgpaa
