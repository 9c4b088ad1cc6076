/- resolve: Diff, by the reference. -/
import Derived.Test.YtcjopphefmogiaaRsF
import Derived.Maps.AppendAt
namespace Go.Proofs.Ytcjopphefmogiaa
open Go.RowKit
set_option linter.unusedVariables false
set_option maxRecDepth 20000

/-- A row of ints of one's own. -/
abbrev OI (W : World) (B : Nat) (v : Value) (l : List Int) : Prop := W.ownsRow B 3 1 v l.length (i64s l)
theorem OI.on {W W' : World} {B : Nat} {v : Value} {l : List Int} (h : OI W B v l) (hb : Below W.heap.size W W') : OI W' B v l := own_below h hb
/-- They lie apart. -/
def Apt (v u : Value) : Prop := ∀ g, v.ownBlock = some g → u.ownBlock ≠ some g
theorem Apt.sym {v u : Value} (h : Apt v u) : Apt u v := fun g hg e => h g e hg
theorem Apt.nil (v : Value) : Apt (.slice none 0 0) v := fun g hg => by cases hg
theorem wpList_append_intsA {ops : Array Oper} {rest : List Oper} {o : Oper} {a : Act} {Q : Exit → Act → World → Prop} (w : World) (hgd : o.guard = none) (s x : Operand)
    (ho : o.op = .call { callee := .builtin .append, args := #[s, x], argTypes := #[25, 25] }) (B : Nat) (v : Value) (y : Addr) (n cap : Nat) (l m : List Int) (hs : a.eval s = v) (hown : OI w B v l) (hx : a.eval x = .slice (some y) n cap) (hu : Seg .i64 w (.slice (some y) n cap) m)
    (hlen : l.length + m.length ≤ 17592186044416) (hB : B ≤ w.heap.size)
    (h : ∀ v' w', OI w' B v' (l ++ m) → Below B w w' → w.grownBy w' v.ownBlock → (v'.ownBlock = v.ownBlock ∨ v'.ownBlock = some w.heap.size) → wpList Try.prog ops Q rest (a.put o.dst v') w') : wpList Try.prog ops Q (o :: rest) a w := by
  obtain ⟨i0, hi, hz0, hz1, hz2⟩ := info_parts Try.infoI
  obtain ⟨ao, cap2, he, h1, h2, h3, h4⟩ := hu
  cases he
  refine wpList_append_own_at w hgd s x 25 ho B 3 i0 (.int .i64 0) 1 8 Try.underlying25 hi hz0 hz1 hz2 rfl (by decide) v l.length (i64s l) hs hown y m.length cap (i64s m) hx (by simp) (map_cells fun i hi => h4 y rfl i hi) map_one (by unfold maxLen; omega) (by omega) hB ?_
  intro v' w' ho' hg _ hw
  refine h v' w' ?_ ((Below.refl _ _).grown hg hB (fun k hk => (hown.lt k hk).1)) hg hw
  rw [← List.map_append] at ho'
  unfold OI
  rw [List.length_append]
  exact ho'
/-- Behind an append to one row the other lies as it lay, apart. -/
theorem Apt.grown {W W' : World} {B : Nat} {v v' u : Value} {l : List Int} (h : Apt v u) (hu : OI W B u l) (hg : W.grownBy W' v.ownBlock) (hw : v'.ownBlock = v.ownBlock ∨ v'.ownBlock = some W.heap.size) : OI W' B u l ∧ Apt v' u := by
  refine ⟨hu.kept hg ?_, fun g hg' e => ?_⟩
  · cases e : u.ownBlock with
    | none => exact .inl rfl
    | some g =>
      refine .inr (fun e2 => ?_)
      exact h g e2.symm e
  · rcases hw with hw | hw
    · exact h g (by rw [← hw]; exact hg') e
    · rw [hw] at hg'
      injection hg' with hg'
      have := (World.ownsRow.lt hu g e).2
      omega
def Rv.mo (a t : List Rp.Pt) : List Int := (t.filter fun x => decide (Rv.wt a x.1 = 0)).map (·.1)
def Rv.ot (a t : List Rp.Pt) : List Int := (t.filter fun x => !decide (Rv.wt a x.1 = 0) && !decide (Rv.wt a x.1 = x.2)).map (·.1)
theorem Rv.mo_next (a t : List Rp.Pt) (k : Nat) (hk : k < t.length) : Rv.mo a (t.take (k + 1)) = if Rv.wt a (Rv.g t k).1 = 0 then Rv.mo a (t.take k) ++ [(Rv.g t k).1] else Rv.mo a (t.take k) := by
  unfold Rv.mo
  rw [List.take_succ_eq_append_getElem hk, List.filter_append, List.map_append, ← Rv.g_at hk]
  by_cases h : Rv.wt a (Rv.g t k).1 = 0
  · rw [if_pos h, List.filter_cons_of_pos (by simpa using h)]
    rfl
  · rw [if_neg h, List.filter_cons_of_neg (by simpa using h)]
    simp
theorem Rv.ot_next (a t : List Rp.Pt) (k : Nat) (hk : k < t.length) : Rv.ot a (t.take (k + 1)) = if Rv.wt a (Rv.g t k).1 = 0 then Rv.ot a (t.take k) else if Rv.wt a (Rv.g t k).1 = (Rv.g t k).2 then Rv.ot a (t.take k) else Rv.ot a (t.take k) ++ [(Rv.g t k).1] := by
  unfold Rv.ot
  rw [List.take_succ_eq_append_getElem hk, List.filter_append, List.map_append, ← Rv.g_at hk]
  by_cases h : Rv.wt a (Rv.g t k).1 = 0
  · rw [if_pos h, List.filter_cons_of_neg (by simp only [h]; simp)]
    simp
  · rw [if_neg h]
    by_cases h2 : Rv.wt a (Rv.g t k).1 = (Rv.g t k).2
    · rw [if_pos h2, List.filter_cons_of_neg (by simp only [h2]; simp)]
      simp
    · rw [if_neg h2, List.filter_cons_of_pos (by
        simp only [Bool.and_eq_true, Bool.not_eq_true', decide_eq_false_iff_not]
        exact ⟨h, h2⟩)]
      rfl
theorem Rv.mo_len (a t : List Rp.Pt) : (Rv.mo a t).length ≤ t.length := by unfold Rv.mo; rw [List.length_map]; exact List.length_filter_le _ _
theorem Rv.ot_len (a t : List Rp.Pt) : (Rv.ot a t).length ≤ t.length := by unfold Rv.ot; rw [List.length_map]; exact List.length_filter_le _ _
def Rv.difM (a b : Rv.S) : List Int := if Rv.diffE a b = 0 then Rv.more a b else []
def Rv.difG (a b : Rv.S) : List Int := if Rv.diffE a b = 0 then Rv.more b a else []
def Rv.difO (a b : Rv.S) : List Int := if Rv.diffE a b = 0 then Rv.other a b else []
theorem Rv.diff_first {a b : Rv.S} : (Rv.chk a ≠ 0 → Rv.diffE a b = Rv.chk a) ∧ (Rv.chk a = 0 → Rv.diffE a b = Rv.chk b) := by
  unfold Rv.diffE Rv.firstE Rv.firstE Rv.firstE
  refine ⟨fun h => if_neg h, fun h => ?_⟩
  rw [if_pos h]
  split
  · rename_i h2; exact h2.symm
  · rfl
/-- One number in a row of its own. -/
theorem one_int (W : World) (x : Int) : ∃ Y, Y = W.alloc (.cells #[.int .i64 x] 3) ∧ Seg .i64 Y (.slice (some ⟨W.heap.size, 0, none⟩) 1 1) [x] ∧ Below W.heap.size W Y := by
  refine ⟨_, rfl, seg_new W [x] 3 (by simp), (Below.refl _ _).alloc (Nat.le_refl _) _⟩
set_option maxHeartbeats 16000000 in
theorem rdiff_any (r u : Value) (s t : Rv.S) (w : World) (hs : BS w r s.l) (hu : BS w u t.l) : Calls Try.prog 15 #[vS r s.v, vS u t.v] w fun e w' => ∃ x y z, e = .returned (.tuple #[x, y, z, .int .i64 (Rv.diffE s t)]) ∧ Below w.heap.size w w' ∧ OI w' w.heap.size x (Rv.difM s t) ∧ OI w' w.heap.size y (Rv.difG s t) ∧ OI w' w.heap.size z (Rv.difO s t) := by
  have A0 : Hid (Rv.diffE s t = 0 → Rv.difM s t = Rv.mo s.l t.l ∧ Rv.difG s t = Rv.mo t.l s.l ∧ Rv.difO s t = Rv.ot s.l t.l) := hidD (fun h => ⟨if_pos h, if_pos h, if_pos h⟩)
  have A1 : Hid (¬ Rv.diffE s t = 0 → Rv.difM s t = [] ∧ Rv.difG s t = [] ∧ Rv.difO s t = []) := hidD (fun h => ⟨if_neg h, if_neg h, if_neg h⟩)
  have A2 := hidD (@Rv.diff_first s t).1
  have A3 := hidD (@Rv.diff_first s t).2
  have F1 := hidD (fun h => (Rv.few (s := s) h))
  have F2 := hidD (fun h => (Rv.few (s := t) h))
  obtain ⟨W1, hW1, X1, B1, Z1⟩ := box_one w [.int .i64 s.v, r] 24
  obtain ⟨W2, hW2, X2, B2, Z2⟩ := box_one W1 [.int .i64 t.v, u] 24
  have C1 := X1.below B2
  have BB : Below w.heap.size w W2 := below_on B1 (by omega) B2
  have c1 := rchk_any r s W2 (hs.below BB)
  have c2 := hidD (fun (W : World) (b : Below w.heap.size w W) => rchk_any u t W (hu.below b))
  have CW1 := hidD (fun (q : Int) (W : World) (b : Below w.heap.size w W) => rwt_any r s.v s.l q W (hs.below b))
  have CW2 := hidD (fun (q : Int) (W : World) (b : Below w.heap.size w W) => rwt_any u t.v t.l q W (hu.below b))
  have HV := hidD (fun (W : World) (b : Below w.heap.size w W) => hs.below b)
  have HU := hidD (fun (W : World) (b : Below w.heap.size w W) => hu.below b)
  generalize Rv.difM s t = RM at *
  generalize Rv.difG s t = RG at *
  generalize Rv.difO s t = RO at *
  generalize Rv.diffE s t = E at *
  generalize Rv.chk s = ck1 at *
  generalize Rv.chk t = ck2 at *
  obtain ⟨v, l⟩ := s
  obtain ⟨x, m⟩ := t
  dsimp only at *
  obtain ⟨a, cap, rfl, h1, h2, _, _⟩ := id hs
  obtain ⟨a', cap', rfl, g1, g2, _, _⟩ := id hu
  obtain ⟨b, hb⟩ : ∃ b, b = w.heap.size := ⟨_, rfl⟩
  obtain ⟨nl, hnl⟩ : ∃ n, n = l.length := ⟨_, rfl⟩
  obtain ⟨nm, hnm⟩ : ∃ n, n = m.length := ⟨_, rfl⟩
  rw [Z1] at X2
  rw [← hnl] at h1 HV hW1 C1 c1 CW1 F1 ⊢
  rw [← hnm] at g1 HU hW2 X2 c2 CW2 F2 ⊢
  rw [← hb] at C1 X2 BB HV HU c2 CW1 CW2 ⊢
  unfold maxLen at h2 g2
  replace hnl := hidD hnl
  replace hnm := hidD hnm
  have D1 := hidD C1
  have D2 := hidD X2
  have HB := hidD BB
  have HBZ : Hid (b ≤ W2.heap.size) := hidD (by omega)
  have q0 := C1.cell 0 rfl
  have q1 := C1.cell 1 rfl
  have p0 := X2.cell 0 rfl
  have p1 := X2.cell 1 rfl
  clear X1 C1 X2 B1 B2 BB Z1 Z2 hs hu
  go_enter Try.func15, Try.ntmps15
  go_upto_region 1 with fail
  rw [← hb, ← hW1, ← hW2]
  clear hb hW1 hW2
  go_wp2_with fail
  with_reducible refine c1.mono ?_
  rintro e w1 ⟨rfl, b1⟩
  replace HB := hidD (below_on HB.out HBZ.out b1)
  replace HBZ := hidD (Nat.le_trans HBZ.out b1.size)
  replace D1 := hidD (D1.out.below b1)
  replace D2 := hidD (D2.out.below b1)
  clear c1 b1 q0 q1 p0 p1
  have p0 := D2.out.cell 0 rfl
  have p1 := D2.out.cell 1 rfl
  by_cases hk1 : ck1 = 0
  case neg =>
    have hE := A2.out hk1
    subst hE
    obtain ⟨r1, r2, r3⟩ := A1.out hk1
    subst r1 r2 r3
    have hd : (E == 0) = false := by simpa using hk1
    have hd2 : (E != 0) = true := by simpa using hk1
    clear A0 A1 A2 A3 F1 F2 c2 CW1 CW2 hk1
    go_wp2_with fail
    refine bodyPost_ret (results_tmp4 rfl _ _ _) rfl ?_
    exact ⟨_, _, _, rfl, HB.out, World.ownsRow_nil _ _ _ _, World.ownsRow_nil _ _ _ _, World.ownsRow_nil _ _ _ _⟩
  subst hk1
  have hE := A3.out rfl
  subst hE
  have cc := c2.out w1 HB.out
  go_wp2_with fail
  with_reducible refine cc.mono ?_
  rintro e w2 ⟨rfl, b2⟩
  replace HB := hidD (below_on HB.out HBZ.out b2)
  replace HBZ := hidD (Nat.le_trans HBZ.out b2.size)
  replace D1 := hidD (D1.out.below b2)
  replace D2 := hidD (D2.out.below b2)
  clear cc c2 b2 p0 p1 A2 A3
  by_cases hk2 : E = 0
  case neg =>
    obtain ⟨r1, r2, r3⟩ := A1.out hk2
    subst r1 r2 r3
    have hd2 : (E != 0) = true := by simpa using hk2
    clear A0 A1 F1 F2 CW1 CW2 hk2
    go_wp2_with fail
    refine bodyPost_ret (results_tmp4 rfl _ _ _) rfl ?_
    exact ⟨_, _, _, rfl, HB.out, World.ownsRow_nil _ _ _ _, World.ownsRow_nil _ _ _ _, World.ownsRow_nil _ _ _ _⟩
  subst hk2
  obtain ⟨r1, r2, r3⟩ := A0.out rfl
  subst r1 r2 r3
  have f1 := F1.out (by first | rfl | trivial)
  have f2 := F2.out (by first | rfl | trivial)
  clear A0 A1 F1 F2
  obtain ⟨C, hC⟩ : ∃ C, C = w2.heap.size := ⟨_, rfl⟩
  have HC : Hid (b ≤ C ∧ C ≤ w2.heap.size) := hidD (by have := HBZ.out; omega)
  have D0 : Hid (Below C w2 w2) := hidD (Below.refl _ _)
  have HLT : Hid (b + 1 < C) := hidD (by have := D2.out.lt; omega)
  clear hC
  go_wp2_with fail
  go_loopw [9, 11, 12] (fun xm xo i wr => ∃ k : Nat, k ≤ nm ∧ i = .int .i64 k ∧ Hid (OI wr C xm (Rv.mo l (m.take k)) ∧ OI wr C xo (Rv.ot l (m.take k)) ∧ Apt xm xo ∧ Below b w wr ∧ Below C w2 wr ∧ C ≤ wr.heap.size)) (fun _ _ i _ => nm - (intOf i).toNat)
  case atStart => exact ⟨0, Nat.zero_le _, rfl, hidD ⟨World.ownsRow_nil _ _ _ _, World.ownsRow_nil _ _ _ _, Apt.nil _, HB.out, D0.out, HC.out.2⟩⟩
  case round =>
    obtain ⟨k, hk, rfl, hJ⟩ := hrel
    obtain ⟨j1, j2, j3, j4, j5, j6⟩ := hJ.out
    have E1 := D1.out.under j5 (by have := HLT.out; omega)
    have E2 := D2.out.under j5 HLT.out
    have q0 := E1.cell 0 rfl
    have q1 := E1.cell 1 rfl
    have p0 := E2.cell 0 rfl
    have p1 := E2.cell 1 rfl
    obtain ⟨am, cm, rfl, _⟩ := id (Seg.own j1)
    obtain ⟨ao, co, rfl, _⟩ := id (Seg.own j2)
    by_cases hlt : k < nm
    · obtain ⟨gm, offm, rfl, hgm, hcell⟩ := BS.at (HU.out wr j4) k (by have := hnm.out; omega)
      obtain ⟨t1, t2⟩ := hcell k (by have := hnm.out; omega)
      have i1 : (k : Int) < (nm : Int) := by omega
      have hkw : IntKind.i64.wrap ((k : Int) + 1) = (k : Int) + 1 := by rw [IntKind.wrap_i64]; omega
      have HN1 := hidD (Rv.mo_next l m k (by have := hnm.out; omega))
      have HN2 := hidD (Rv.ot_next l m k (by have := hnm.out; omega))
      have l1 := Rv.mo_len l (m.take k)
      have l2 := Rv.ot_len l (m.take k)
      rw [List.length_take] at l1 l2
      have l3 : (Rv.mo l (m.take k)).length ≤ 32 := by omega
      have l4 : (Rv.ot l (m.take k)).length ≤ 32 := by omega
      have cW := CW1.out (Rv.g m k).1 wr j4
      have G1 := hidD E2.lt
      have E2h := hidD E2
      obtain ⟨x1, hx1⟩ : ∃ x1, x1 = (Rv.g m k).1 := ⟨_, rfl⟩
      obtain ⟨x2, hx2⟩ : ∃ x2, x2 = (Rv.g m k).2 := ⟨_, rfl⟩
      rw [← hx1] at t1 HN1 HN2 cW
      rw [← hx2] at t2 HN2
      obtain ⟨wt, hwt⟩ : ∃ wt, wt = Rv.wt l x1 := ⟨_, rfl⟩
      rw [← hwt] at HN1 HN2 cW
      clear hx1 hx2 hwt hcell l1 l2 E1 E2
      generalize Rv.mo l (m.take k) = O1 at *
      generalize Rv.ot l (m.take k) = O2 at *
      have HGM := hidD hgm
      go_wp2_with fail
      with_reducible refine cW.mono ?_
      rintro e w4 ⟨rfl, h4⟩
      have K1 := hidD (OI.on j1 h4)
      have K2 := hidD (OI.on j2 h4)
      have K3 := hidD j3
      have K4 := hidD (below_on j4 (Nat.le_trans HC.out.1 j6) h4)
      have K5 := hidD (below_on j5 j6 h4)
      have K6 := hidD (Nat.le_trans j6 h4.size)
      have EE := E2h.out.below h4
      have p0' := EE.cell 0 rfl
      have p1' := EE.cell 1 rfl
      have t2' : w4.cell? ⟨gm, offm + k * 2 + 1, none⟩ = some (.int .i64 x2) := (h4.cell (p := ⟨gm, offm + k * 2 + 1, none⟩) hgm).trans t2
      clear cW h4 EE j1 j2 j3 j4 j5 j6 hJ q0 q1 p0 p1 t1 t2 E2h CW1 CW2
      by_cases hw0 : wt = 0
      · subst hw0
        have HR1 := hidD (HN1.out.trans (if_pos rfl))
        have HR2 := hidD (HN2.out.trans (if_pos rfl))
        obtain ⟨Y, hY, S1, b0⟩ := one_int w4 x1
        have L1 := hidD (K1.out.on b0)
        have L2 := hidD (K2.out.on b0)
        have L4 := hidD (below_on K4.out (Nat.le_trans HC.out.1 K6.out) b0)
        have L5 := hidD (below_on K5.out K6.out b0)
        have L6 := hidD (Nat.le_trans K6.out b0.size)
        have LS := hidD S1
        clear HN1 HN2 K1 K2 K4 K5 K6 S1 b0 t2'
        go_wp2_with (first | (at_builtin; rw [← hY]; refine wpList_append_intsA Y rfl _ _ rfl C (.slice am O1.length cm) ⟨w4.heap.size, 0, none⟩ 1 1 O1 [x1] rfl L1.out rfl LS.out (by simp only [List.length_singleton]; omega) L6.out ?_; intro v2 w6 hown' hB6 hgrow hwh))
        obtain ⟨M2, M3⟩ := K3.out.grown L2.out hgrow hwh
        exact ⟨⟨k + 1, by omega, by go_num, hidD ⟨by rw [HR1.out]; exact hown', by rw [HR2.out]; exact M2, M3, below_then L4.out (below_low hB6 HC.out.1), below_then L5.out hB6, Nat.le_trans L6.out hB6.size⟩⟩, by simp [intOf]; omega⟩
      · have hd : (wt == 0) = false := by simpa using hw0
        have HR1 := hidD (HN1.out.trans (if_neg hw0))
        have HR2 := hidD (HN2.out.trans (if_neg hw0))
        clear HN1 HN2
        by_cases hw2 : wt = x2
        · subst hw2
          have HR3 := hidD (HR2.out.trans (if_pos rfl))
          clear HR2 hw0
          go_wp2_with fail
          exact ⟨⟨k + 1, by omega, by go_num, hidD ⟨by rw [HR1.out]; exact K1.out, by rw [HR3.out]; exact K2.out, K3.out, K4.out, K5.out, K6.out⟩⟩, by simp [intOf]; omega⟩
        · have hd2 : (wt == x2) = false := by simpa using hw2
          have HR3 := hidD (HR2.out.trans (if_neg hw2))
          obtain ⟨Y, hY, S1, b0⟩ := one_int w4 x1
          have L1 := hidD (K1.out.on b0)
          have L2 := hidD (K2.out.on b0)
          have L4 := hidD (below_on K4.out (Nat.le_trans HC.out.1 K6.out) b0)
          have L5 := hidD (below_on K5.out K6.out b0)
          have L6 := hidD (Nat.le_trans K6.out b0.size)
          have LS := hidD S1
          clear HR2 K1 K2 K4 K5 K6 S1 b0 hw0 hw2
          go_wp2_with (first | (at_builtin; rw [← hY]; refine wpList_append_intsA Y rfl _ _ rfl C (.slice ao O2.length co) ⟨w4.heap.size, 0, none⟩ 1 1 O2 [x1] rfl L2.out rfl LS.out (by simp only [List.length_singleton]; omega) L6.out ?_; intro v2 w6 hown' hB6 hgrow hwh))
          obtain ⟨M2, M3⟩ := (Apt.sym K3.out).grown L1.out hgrow hwh
          exact ⟨⟨k + 1, by omega, by go_num, hidD ⟨by rw [HR1.out]; exact M2, by rw [HR3.out]; exact hown', M3.sym, below_then L4.out (below_low hB6 HC.out.1), below_then L5.out hB6, Nat.le_trans L6.out hB6.size⟩⟩, by simp [intOf]; omega⟩
    · have hkM : k = nm := by omega
      have htk : m.take k = m := List.take_of_length_le (by have := hnm.out; omega)
      rw [htk] at j1 j2 ⊢
      have O1l : (Rv.mo l m).length ≤ 32 := by have := Rv.mo_len l m; have := hnm.out; omega
      have O2l : (Rv.ot l m).length ≤ 32 := by have := Rv.ot_len l m; have := hnm.out; omega
      have HJ := hidD (And.intro j1 (And.intro j2 (And.intro j3 (And.intro j4 (And.intro j5 j6)))))
      clear j1 j2 j3 j4 j5 j6 hJ htk E1 E2 CW1 HU
      generalize hO1 : Rv.mo l m = O1 at *
      generalize hO2 : Rv.ot l m = O2 at *
      replace hO1 := hidD hO1
      replace hO2 := hidD hO2
      have hke : ¬ (k : Int) < (nm : Int) := by omega
      go_wp2_with fail
      go_loopw [10, 14] (fun xg i wr => ∃ q : Nat, q ≤ nl ∧ i = .int .i64 q ∧ Hid (OI wr C xg (Rv.mo m (l.take q)) ∧ OI wr C (.slice am O1.length cm) O1 ∧ OI wr C (.slice ao O2.length co) O2 ∧ Apt xg (.slice am O1.length cm) ∧ Apt xg (.slice ao O2.length co) ∧ Below b w wr ∧ Below C w2 wr ∧ C ≤ wr.heap.size)) (fun _ i _ => nl - (intOf i).toNat)
      case atStart => exact ⟨0, Nat.zero_le _, rfl, hidD ⟨World.ownsRow_nil _ _ _ _, HJ.out.1, HJ.out.2.1, Apt.nil _, Apt.nil _, HJ.out.2.2.2.1, HJ.out.2.2.2.2.1, HJ.out.2.2.2.2.2⟩⟩
      case round =>
        clear HJ q0 q1 p0 p1
        obtain ⟨q, hq, rfl, hJ⟩ := hrel
        obtain ⟨j1, j2, j3, j4, j5, j6, j7, j8⟩ := hJ.out
        have E1 := D1.out.under j7 (by have := HLT.out; omega)
        have E2 := D2.out.under j7 HLT.out
        have q0 := E1.cell 0 rfl
        have q1 := E1.cell 1 rfl
        have p0 := E2.cell 0 rfl
        have p1 := E2.cell 1 rfl
        obtain ⟨ag, cg, rfl, _⟩ := id (Seg.own j1)
        by_cases hlq : q < nl
        · obtain ⟨gl, offl, rfl, hgl, hcell⟩ := BS.at (HV.out wr j6) q (by have := hnl.out; omega)
          obtain ⟨t1, _⟩ := hcell q (by have := hnl.out; omega)
          have i1 : (q : Int) < (nl : Int) := by omega
          have hqw : IntKind.i64.wrap ((q : Int) + 1) = (q : Int) + 1 := by rw [IntKind.wrap_i64]; omega
          have HN1 := hidD (Rv.mo_next m l q (by have := hnl.out; omega))
          have l1 := Rv.mo_len m (l.take q)
          rw [List.length_take] at l1
          have l3 : (Rv.mo m (l.take q)).length ≤ 32 := by omega
          have cW := hidD (CW2.out (Rv.g l q).1 wr.drew (belowD_drew j6))
          have HG1 := hidD E1.lt
          have HG2 := hidD E2.lt
          have E1h := hidD E1
          obtain ⟨x1, hx1⟩ : ∃ x1, x1 = (Rv.g l q).1 := ⟨_, rfl⟩
          rw [← hx1] at t1 HN1 cW
          obtain ⟨wt, hwt⟩ : ∃ wt, wt = Rv.wt m x1 := ⟨_, rfl⟩
          rw [← hwt] at HN1 cW
          clear hx1 hwt hcell l1 E1 E2 CW2
          generalize Rv.mo m (l.take q) = O3 at *
          have HGL := hidD hgl
          obtain ⟨y, hy⟩ : ∃ y, y = decide (wt = 0) := ⟨_, rfl⟩
          replace hy := hidD hy
          have HJJ := hidD (And.intro j1 (And.intro j2 (And.intro j3 (And.intro j4 (And.intro j5 (And.intro j6 (And.intro j7 j8)))))))
          clear j1 j2 j3 j4 j5 j6 j7 j8 hJ
          go_upto_region 19 with fail
          go_cut [73] (fun v wx => v = .bool y ∧ Below wr.heap.size wr wx)
          case first =>
            have G1 : b < wr.drew.heap.size := HG1.out
            have G2 : b + 1 < wr.drew.heap.size := HG2.out
            have G3 : gl < wr.drew.heap.size := HGL.out
            have hye := hy.out
            subst hye
            clear HN1 HJJ HV
            go_region_held (fun w' => w'.cell? ⟨b, 0, none⟩ = some (.int .i64 v) ∧ w'.cell? ⟨b, 1, none⟩ = some (.slice (some ⟨gl, offl, none⟩) nl cap) ∧ w'.cell? ⟨b + 1, 0, none⟩ = some (.int .i64 x) ∧ w'.cell? ⟨b + 1, 1, none⟩ = some (.slice a' nm cap') ∧ w'.cell? ⟨gl, offl + q * 2, none⟩ = some (.int .i64 x1)) (first | exact ⟨q0, q1, p0, p1, t1⟩ | exact ⟨(H9.out.cell (p := ⟨b, 0, none⟩) G1).trans q0, (H9.out.cell (p := ⟨b, 1, none⟩) G1).trans q1, (H9.out.cell (p := ⟨b + 1, 0, none⟩) G2).trans p0, (H9.out.cell (p := ⟨b + 1, 1, none⟩) G2).trans p1, (H9.out.cell (p := ⟨gl, offl + q * 2, none⟩) G3).trans t1⟩)
              ((go_at_call 30; refine (cW.out).mono ?_; rintro e w9 ⟨rfl, h9⟩; have H9 := hidD h9; clear h9))
            all_goals (
              go_wp2
              go_meet
              exact ⟨by first | rfl | simp, below_undrew H9.out⟩)
          case rest =>
            obtain ⟨rfl, h9⟩ := hcut
            generalize wc = w9 at *
            obtain ⟨j1, j2, j3, j4, j5, j6, j7, j8⟩ := HJJ.out
            have K1 := hidD (OI.on j1 h9)
            have K2 := hidD (OI.on j2 h9)
            have K3 := hidD (OI.on j3 h9)
            have K4 := hidD j4
            have K5 := hidD j5
            have K6 := hidD (below_on j6 (Nat.le_trans HC.out.1 j8) h9)
            have K7 := hidD (below_on j7 j8 h9)
            have K8 := hidD (Nat.le_trans j8 h9.size)
            have EE := E1h.out.below h9
            have q1' := EE.cell 1 rfl
            have t1' : w9.cell? ⟨gl, offl + q * 2, none⟩ = some (.int .i64 x1) := (h9.cell (p := ⟨gl, offl + q * 2, none⟩) HGL.out).trans t1
            clear HJJ j1 j2 j3 j4 j5 j6 j7 j8 h9 q0 q1 p0 p1 t1 cW EE E1h
            by_cases hw0 : wt = 0
            · have hye : y = true := hy.out.trans (decide_eq_true hw0)
              subst hye
              have HR1 := hidD (HN1.out.trans (if_pos hw0))
              obtain ⟨Y, hY, S1, b0⟩ := one_int w9 x1
              have L1 := hidD (K1.out.on b0)
              have L2 := hidD (K2.out.on b0)
              have L3 := hidD (K3.out.on b0)
              have L6 := hidD (below_on K6.out (Nat.le_trans HC.out.1 K8.out) b0)
              have L7 := hidD (below_on K7.out K8.out b0)
              have L8 := hidD (Nat.le_trans K8.out b0.size)
              have LS := hidD S1
              clear HN1 K1 K2 K3 K6 K7 K8 S1 b0 hw0 hy
              go_wp2_with (first | (at_builtin; rw [← hY]; refine wpList_append_intsA Y rfl _ _ rfl C (.slice ag O3.length cg) ⟨w9.heap.size, 0, none⟩ 1 1 O3 [x1] rfl L1.out rfl LS.out (by simp only [List.length_singleton]; omega) L8.out ?_; intro v2 w6 hown' hB6 hgrow hwh))
              obtain ⟨M2, M4⟩ := K4.out.grown L2.out hgrow hwh
              obtain ⟨M3, M5⟩ := K5.out.grown L3.out hgrow hwh
              exact ⟨⟨q + 1, by omega, by go_num, hidD ⟨by rw [HR1.out]; exact hown', M2, M3, M4, M5, below_then L6.out (below_low hB6 HC.out.1), below_then L7.out hB6, Nat.le_trans L8.out hB6.size⟩⟩, by simp [intOf]; omega⟩
            · have hye : y = false := hy.out.trans (decide_eq_false hw0)
              subst hye
              have HR1 := hidD (HN1.out.trans (if_neg hw0))
              clear HN1 hy hw0
              go_wp2_with fail
              exact ⟨⟨q + 1, by omega, by go_num, hidD ⟨by rw [HR1.out]; exact K1.out, K2.out, K3.out, K4.out, K5.out, K6.out, K7.out, K8.out⟩⟩, by simp [intOf]; omega⟩
        · have htq : l.take q = l := List.take_of_length_le (by have := hnl.out; omega)
          rw [htq] at j1 ⊢
          have HE := hidD (And.intro j6 (And.intro j2 (And.intro j1 j3)))
          have hqe : ¬ (q : Int) < (nl : Int) := by omega
          clear j1 j2 j3 j4 j5 j6 j7 j8 hJ htq E1 E2 CW2
          generalize hO3 : Rv.mo m l = O3 at *
          replace hO3 := hidD hO3
          go_wp2_with fail
          refine bodyPost_ret (results_tmp4 rfl _ _ _) rfl ?_
          exact ⟨_, _, _, rfl, HE.out.1, by rw [hO1.out]; exact own_lower' HE.out.2.1 HC.out.1, by rw [hO3.out]; exact own_lower' HE.out.2.2.1 HC.out.1, by rw [hO2.out]; exact own_lower' HE.out.2.2.2 HC.out.1⟩
end Go.Proofs.Ytcjopphefmogiaa
