/- resolve: snapshots compared; IDs, weights, by the reference. -/
import Derived.Test.YtcjopphefmogiaaRsD
namespace Go.Proofs.Ytcjopphefmogiaa
open Go.RowKit
set_option linter.unusedVariables false
set_option maxRecDepth 20000

/-- append of numbers onto a row of the call's own. -/
theorem wpList_append_ints {ops : Array Oper} {rest : List Oper} {o : Oper} {a : Act} {Q : Exit → Act → World → Prop} (w : World) (hgd : o.guard = none) (s x : Operand)
    (ho : o.op = .call { callee := .builtin .append, args := #[s, x], argTypes := #[25, 25] }) (B : Nat) (v u : Value) (l m : List Int) (hs : a.eval s = v) (hown : w.ownsRow B 3 1 v l.length (i64s l)) (hx : a.eval x = u) (hu : Seg .i64 w u m)
    (hlen : l.length + m.length ≤ 17592186044416) (hB : B ≤ w.heap.size)
    (h : ∀ v' w', w'.ownsRow B 3 1 v' (l ++ m).length (i64s (l ++ m)) → Below B w w' → w.grownBy w' v.ownBlock → wpList Try.prog ops Q rest (a.put o.dst v') w') : wpList Try.prog ops Q (o :: rest) a w := by
  obtain ⟨i0, hi, hz0, hz1, hz2⟩ := info_parts Try.infoI
  obtain ⟨ao, cap, rfl, h1, h2, h3, h4⟩ := hu
  rcases ao with _ | y
  · obtain ⟨rfl, rfl⟩ := h3 rfl
    refine wpList_append_own_none hgd s x 25 ho B 3 i0 1 Try.underlying25 hi v l.length (i64s l) hs hown hx ?_
    refine h v w ?_ (Below.refl _ _) (grownBy_refl _ _)
    rw [List.append_nil]
    exact hown
  · refine wpList_append_own w hgd s x 25 ho B 3 i0 (.int .i64 0) 1 8 Try.underlying25 hi hz0 hz1 hz2 rfl (by decide) v l.length (i64s l) hs hown y m.length cap (i64s m) hx (by simp) (map_cells fun i hi => h4 y rfl i hi) map_one (by unfold maxLen; omega) (by omega) hB ?_
    intro v' w' ho' hg _
    refine h v' w' ?_ ((Below.refl _ _).grown hg hB (fun k hk => (hown.lt k hk).1)) hg
    rw [← List.map_append] at ho'
    rw [List.length_append]
    exact ho'



set_option maxHeartbeats 4000000 in
theorem rsameS_any (r u : Value) (v : Int) (l : List Rp.Pt) (w : World) (hs : BS w r l) (hu : BS w u l) : Calls Try.prog 20 #[vS r v, vS u v] w fun e w' => e = .returned (.bool true) ∧ Below w.heap.size w w' := by
  obtain ⟨W1, hW1, X1, B1, Z1⟩ := box_one w [.int .i64 v, r] 24
  obtain ⟨W2, hW2, X2, B2, Z2⟩ := box_one W1 [.int .i64 v, u] 24
  have C1 := X1.below B2
  have BB : Below w.heap.size w W2 := below_on B1 (by omega) B2
  have HV := hidD (fun (W : World) (b : Below w.heap.size w W) => hs.below b)
  have HU := hidD (fun (W : World) (b : Below w.heap.size w W) => hu.below b)
  obtain ⟨a, cap, rfl, h1, h2, _, _⟩ := id hs
  obtain ⟨a', cap', rfl, g1, g2, _, _⟩ := id hu
  obtain ⟨b, hb⟩ : ∃ b, b = w.heap.size := ⟨_, rfl⟩
  obtain ⟨n, hn⟩ : ∃ n, n = l.length := ⟨_, rfl⟩
  rw [Z1] at X2
  rw [← hn] at h1 g1 HV HU hW1 hW2 X2 C1 ⊢
  rw [← hb] at C1 X2 BB HV HU ⊢
  unfold maxLen at h2 g2
  replace hn := hidD hn
  have D1 := hidD C1
  have D2 := hidD X2
  have HB := hidD BB
  have HBZ : Hid (b ≤ W2.heap.size) := hidD (by omega)
  have q0 := C1.cell 0 rfl
  have q1 := C1.cell 1 rfl
  have p0 := X2.cell 0 rfl
  have p1 := X2.cell 1 rfl
  have hne : (v != v) = false := by simp
  have hne2 : ((n : Int) != (n : Int)) = false := by simp
  clear X1 C1 X2 B1 B2 BB Z1 Z2 hs hu
  go_enter Try.func20, Try.ntmps20
  go_upto_region 1 with fail
  rw [← hb, ← hW1, ← hW2]
  clear hb hW1 hW2
  go_wp2_with fail
  go_loopw [5] (fun i wr => ∃ k : Nat, k ≤ n ∧ i = .int .i64 k ∧ Hid (Below b w wr ∧ Below W2.heap.size W2 wr)) (fun i _ => n - (intOf i).toNat)
  case atStart => exact ⟨0, Nat.zero_le _, rfl, hidD ⟨HB.out, Below.refl _ _⟩⟩
  case round =>
    obtain ⟨k, hk, rfl, hJ⟩ := hrel
    have E1 := D1.out.below hJ.out.2
    have E2 := D2.out.below hJ.out.2
    have t1 := E1.cell 1 rfl
    have t2 := E2.cell 1 rfl
    clear q0 q1 p0 p1 E1 E2
    by_cases hlt : k < n
    · obtain ⟨g, off, rfl, hg, hcell⟩ := BS.at (HV.out wr hJ.out.1) k (by have := hn.out; omega)
      obtain ⟨g', off', rfl, hg', hcell'⟩ := BS.at (HU.out wr hJ.out.1) k (by have := hn.out; omega)
      obtain ⟨Q1, Q2⟩ := hcell k (by have := hn.out; omega)
      obtain ⟨R1, R2⟩ := hcell' k (by have := hn.out; omega)
      have i1 : (k : Int) < (n : Int) := by omega
      clear hcell hcell' HV HU D1 D2 HB
      generalize Rv.g l k = x at *
      go_wp2_with fail
      go_quiet (fail)
      go_wp2
      exact ⟨⟨k + 1, by omega, by go_num, hidD ⟨below_drewN hJ.out.1 _, below_drewN hJ.out.2 _⟩⟩, by simp [intOf]; omega⟩
    · go_wp2
      go_ret
      exact ⟨rfl, hJ.out.1⟩
def Rv.idsR (s : Rv.S) : List Int := if Rv.chk s = 0 then Rv.ids s else []
def Rv.sumR (s : Rv.S) : Int := if Rv.chk s = 0 then Rv.sum s else 0
theorem Rv.ids_next (l : List Rp.Pt) (k : Nat) (hk : k < l.length) : (l.take (k + 1)).map (·.1) = (l.take k).map (·.1) ++ [(Rv.g l k).1] := by
  rw [List.take_succ_eq_append_getElem hk, List.map_append, Rv.g_at hk]
  rfl
theorem Rv.sum_next (l : List Rp.Pt) (k : Nat) (hk : k < l.length) : ((l.take (k + 1)).map (·.2)).sum = ((l.take k).map (·.2)).sum + (Rv.g l k).2 := by
  rw [List.take_succ_eq_append_getElem hk, List.map_append, List.sum_append, Rv.g_at hk]
  simp
theorem Rv.few {s : Rv.S} (h : Rv.chk s = 0) : s.l.length ≤ 32 := (Rv.good h).1.few
theorem Rv.sum_part {s : Rv.S} (h : Rv.chk s = 0) (k : Nat) (hk : k ≤ s.l.length) : 0 ≤ ((s.l.take k).map (·.2)).sum ∧ ((s.l.take k).map (·.2)).sum ≤ 16 * (k : Int) := by
  have g := (Rv.good h).1
  induction k with
  | zero => simp
  | succ k ih =>
    obtain ⟨i1, i2⟩ := ih (by omega)
    have hp := g.pos (Rv.g s.l k) (by rw [Rv.g_at (by omega)]; exact List.getElem_mem _)
    rw [Rv.sum_next _ _ (by omega)]
    omega
set_option maxHeartbeats 4000000 in
theorem rids_any (r : Value) (s : Rv.S) (w : World) (hs : BS w r s.l) : Calls Try.prog 13 #[vS r s.v] w fun e w' => ∃ u, e = .returned (.tuple #[u, .int .i64 (Rv.chk s)]) ∧ Below w.heap.size w w' ∧ w'.ownsRow w.heap.size 3 1 u (Rv.idsR s).length (i64s (Rv.idsR s)) := by
  have A0 : Hid (Rv.chk s = 0 → Rv.idsR s = s.l.map (·.1) ∧ s.l.length ≤ 32) := hidD (fun h => ⟨if_pos h, Rv.few h⟩)
  have A1 : Hid (¬ Rv.chk s = 0 → Rv.idsR s = []) := hidD (fun h => if_neg h)
  obtain ⟨W, hW, X, B, Z⟩ := box_one w [.int .i64 s.v, r] 24
  have c := rchk_any r s W (hs.below B)
  have HV := hidD (fun (W : World) (b : Below w.heap.size w W) => hs.below b)
  generalize Rv.chk s = ck at *
  generalize Rv.idsR s = R at *
  obtain ⟨v, l⟩ := s
  dsimp only at *
  have q0 := X.cell 0 rfl
  have q1 := X.cell 1 rfl
  have HX := hidD X
  have HB := hidD B
  have HZ : Hid (w.heap.size ≤ W.heap.size) := hidD (by omega)
  obtain ⟨a, cap, rfl, h1, h2, _, _⟩ := id hs
  obtain ⟨n, hn⟩ : ∃ n, n = l.length := ⟨_, rfl⟩
  rw [← hn] at h1 HV q1 HX hW c A0 ⊢
  replace hn := hidD hn
  unfold maxLen at h2
  obtain ⟨b, hb⟩ : ∃ b, b = w.heap.size := ⟨_, rfl⟩
  rw [← hb] at q0 q1 HB HZ HV HX ⊢
  clear X B Z hs
  go_enter Try.func13, Try.ntmps13
  go_upto_region 1 with fail
  rw [← hb, ← hW]
  clear hb hW
  go_wp2_with fail
  with_reducible refine c.mono ?_
  rintro e w1 ⟨rfl, b1⟩
  have HB1 := hidD (below_on HB.out HZ.out b1)
  have HZ1 := hidD (Nat.le_trans HZ.out b1.size)
  have HX1 := hidD (HX.out.below b1)
  clear c b1 q0 q1 HB HZ HX
  by_cases hk : ck = 0
  case neg =>
    have hR := A1.out hk
    subst hR
    have hk1 : (ck != 0) = true := by simp [hk]
    clear A0 A1
    go_wp2_with fail
    go_ret2
    exact ⟨_, rfl, HB1.out, World.ownsRow_nil _ _ _ _⟩
  subst hk
  obtain ⟨hR, hn32⟩ := A0.out rfl
  replace hR := hidD hR
  clear A0 A1
  go_wp2_with fail
  go_loopw [5, 6] (fun s i wr => ∃ k : Nat, k ≤ n ∧ i = .int .i64 k ∧ Hid (wr.ownsRow w1.heap.size 3 1 s ((l.take k).map (·.1)).length (i64s ((l.take k).map (·.1))) ∧ Below b w wr ∧ Below w1.heap.size w1 wr)) (fun _ i _ => n - (intOf i).toNat)
  case atStart => exact ⟨0, Nat.zero_le _, rfl, hidD ⟨World.ownsRow_nil _ _ _ _, HB1.out, Below.refl _ _⟩⟩
  case round =>
    obtain ⟨k, hk, rfl, hJ⟩ := hrel
    have E1 := HX1.out.below hJ.out.2.2
    have t1 := E1.cell 1 rfl
    obtain ⟨a5, c5, rfl, _⟩ := id (Seg.own hJ.out.1)
    by_cases hlt : k < n
    · obtain ⟨g, off, rfl, hg, hcell⟩ := BS.at (HV.out wr hJ.out.2.1) k (by have := hn.out; omega)
      obtain ⟨Q1, _⟩ := hcell k (by have := hn.out; omega)
      have i1 : (k : Int) < (n : Int) := by omega
      have hkw : IntKind.i64.wrap ((k : Int) + 1) = (k : Int) + 1 := by rw [IntKind.wrap_i64]; omega
      have HN := hidD (Rv.ids_next l k (by have := hn.out; omega))
      have hol : ((l.take k).map (·.1)).length ≤ 32 := by rw [List.length_map, List.length_take]; omega
      clear hcell E1
      generalize (Rv.g l k).1 = x at *
      generalize (l.take k).map (·.1) = O at *
      have hb0 := (Below.refl wr.heap.size wr).alloc (Nat.le_refl _) (.cells #[.int .i64 x] 3)
      obtain ⟨Y, hY⟩ : ∃ Y, Y = wr.alloc (.cells #[.int .i64 x] 3) := ⟨_, rfl⟩
      have S1 : Hid (Seg .i64 Y (.slice (some ⟨wr.heap.size, 0, none⟩) 1 1) [x]) := hidD (by rw [hY]; exact seg_new wr [x] 3 (by simp))
      rw [← hY] at hb0
      have O1 : Hid (Y.ownsRow w1.heap.size 3 1 (.slice a5 O.length c5) O.length (i64s O)) := hidD (own_below hJ.out.1 hb0)
      have K1 := hidD (below_on hJ.out.2.1 (Nat.le_trans HZ1.out hJ.out.2.2.size) hb0)
      have K2 := hidD (below_on hJ.out.2.2 hJ.out.2.2.size hb0)
      have K3 : Hid (w1.heap.size ≤ Y.heap.size) := hidD (Nat.le_trans hJ.out.2.2.size hb0.size)
      clear hJ hb0
      go_wp2_with (first | (at_builtin; rw [← hY]; refine wpList_append_ints Y rfl _ _ rfl w1.heap.size (.slice a5 O.length c5) (.slice (some ⟨wr.heap.size, 0, none⟩) 1 1) O [x] rfl O1.out rfl S1.out (by simp only [List.length_singleton]; omega) K3.out ?_; intro v2 w6 hown' hB6 hgrow))
      exact ⟨⟨k + 1, by omega, by go_num, hidD ⟨by rw [HN.out]; exact hown', below_then K1.out (below_low hB6 HZ1.out), below_then K2.out hB6⟩⟩, by simp [intOf]; omega⟩
    · have htk : l.take k = l := List.take_of_length_le (by have := hn.out; omega)
      rw [htk] at hJ ⊢
      have HE := hidD (And.intro hJ.out.2.1 hJ.out.1)
      rw [← hR.out] at HE ⊢
      clear hJ htk E1
      go_wp2_with fail
      go_ret2
      exact ⟨_, rfl, HE.out.1, own_lower' HE.out.2 HZ1.out⟩
set_option maxHeartbeats 4000000 in
theorem rsum_any (r : Value) (s : Rv.S) (w : World) (hs : BS w r s.l) : Calls Try.prog 19 #[vS r s.v] w fun e w' => e = .returned (.tuple #[.int .i64 (Rv.sumR s), .int .i64 (Rv.chk s)]) ∧ Below w.heap.size w w' := by
  have A0 : Hid (Rv.chk s = 0 → Rv.sumR s = (s.l.map (·.2)).sum ∧ s.l.length ≤ 32 ∧ ∀ k, k ≤ s.l.length → 0 ≤ ((s.l.take k).map (·.2)).sum ∧ ((s.l.take k).map (·.2)).sum ≤ 16 * (k : Int)) := hidD (fun h => ⟨if_pos h, Rv.few h, Rv.sum_part h⟩)
  have A1 : Hid (¬ Rv.chk s = 0 → Rv.sumR s = 0) := hidD (fun h => if_neg h)
  obtain ⟨W, hW, X, B, Z⟩ := box_one w [.int .i64 s.v, r] 24
  have c := rchk_any r s W (hs.below B)
  have HV := hidD (fun (W : World) (b : Below w.heap.size w W) => hs.below b)
  generalize Rv.chk s = ck at *
  generalize Rv.sumR s = R at *
  obtain ⟨v, l⟩ := s
  dsimp only at *
  have q0 := X.cell 0 rfl
  have q1 := X.cell 1 rfl
  have HX := hidD X
  have HB := hidD B
  have HZ : Hid (w.heap.size ≤ W.heap.size) := hidD (by omega)
  obtain ⟨a, cap, rfl, h1, h2, _, _⟩ := id hs
  obtain ⟨n, hn⟩ : ∃ n, n = l.length := ⟨_, rfl⟩
  rw [← hn] at h1 HV q1 HX hW c A0 ⊢
  replace hn := hidD hn
  unfold maxLen at h2
  obtain ⟨b, hb⟩ : ∃ b, b = w.heap.size := ⟨_, rfl⟩
  rw [← hb] at q0 q1 HB HZ HV HX ⊢
  clear X B Z hs
  go_enter Try.func19, Try.ntmps19
  go_upto_region 1 with fail
  rw [← hb, ← hW]
  clear hb hW
  go_wp2_with fail
  with_reducible refine c.mono ?_
  rintro e w1 ⟨rfl, b1⟩
  have HB1 := hidD (below_on HB.out HZ.out b1)
  have HX1 := hidD (HX.out.below b1)
  have t1 := HX1.out.cell 1 rfl
  clear c b1 q0 q1 HB HZ HX
  by_cases hk : ck = 0
  case neg =>
    have hR := A1.out hk
    subst hR
    have hk1 : (ck != 0) = true := by simp [hk]
    clear A0 A1
    go_wp2_with fail
    go_ret2
    exact ⟨rfl, HB1.out⟩
  subst hk
  obtain ⟨hR, hn32, hs2⟩ := A0.out rfl
  replace hR := hidD hR
  replace hs2 := hidD hs2
  clear A0 A1
  go_wp2_with fail
  go_loopw [5, 6] (fun s i wr => ∃ k : Nat, k ≤ n ∧ s = .int .i64 ((l.take k).map (·.2)).sum ∧ i = .int .i64 k ∧ w1 = wr) (fun _ i _ => n - (intOf i).toNat)
  case atStart => exact ⟨0, Nat.zero_le _, by simp, rfl, rfl⟩
  case round =>
    obtain ⟨k, hk, rfl, rfl, rfl⟩ := hrel
    by_cases hlt : k < n
    · obtain ⟨g, off, rfl, hg, hcell⟩ := BS.at (HV.out w1 HB1.out) k (by have := hn.out; omega)
      obtain ⟨_, Q1⟩ := hcell k (by have := hn.out; omega)
      have i1 : (k : Int) < (n : Int) := by omega
      have hkw : IntKind.i64.wrap ((k : Int) + 1) = (k : Int) + 1 := by rw [IntKind.wrap_i64]; omega
      have HN := hidD (Rv.sum_next l k (by have := hn.out; omega))
      have r1 := hs2.out k (by have := hn.out; omega)
      have r2 := hs2.out (k + 1) (by have := hn.out; omega)
      rw [HN.out] at r2
      clear hcell
      generalize (Rv.g l k).2 = x at *
      generalize ((l.take k).map (·.2)).sum = y at *
      have hyw : IntKind.i64.wrap (y + x) = y + x := wrap_ok (by omega) (by omega)
      clear r1 r2
      go_wp2_with fail
      exact ⟨⟨k + 1, by omega, by rw [HN.out], by go_num, (by first | rfl | trivial)⟩, by simp [intOf]; omega⟩
    · have htk : l.take k = l := List.take_of_length_le (by have := hn.out; omega)
      rw [htk, ← hR.out]
      clear htk
      go_wp2_with fail
      go_ret2
      exact ⟨rfl, HB1.out⟩
end Go.Proofs.Ytcjopphefmogiaa
