/- ring: the reference's Build, where it builds. -/
import Derived.Test.YtcpcnajifdicmaaGE
import Derived.Test.YtcpcnajifdicmaaGC
import Derived.Test.YtcpcnajifdicmaaHG
import Derived.Deep.DeepCutAuto
import Derived.BigQuiet
namespace Go.Proofs.Ytcpcnajifdicmaa
open Go.RowKit Go.Sort Go.Shelf

theorem Rp.of_take (n : Int) (b : Rp.Pt) (q : Nat) (h : q < Rp.each n b) : (Rp.ptsOf n b).take (q + 1) = (Rp.ptsOf n b).take q ++ [((Rp.hsh b.1 q : Int), b.1)] := by
  have hl : q < (Rp.ptsOf n b).length := by rw [Rp.ptsOf_length]; exact h
  rw [List.take_succ_eq_append_getElem hl]
  congr 2
  simp [Rp.ptsOf]

theorem grown_refl' : True := trivial
theorem own_below {W W' : World} {n₀ : Nat} {e : TypeId} {s : Nat} {v : Value} {k : Nat} {xs : List Value} (h : W.ownsRow n₀ e s v k xs) (hb : Below W.heap.size W W') : W'.ownsRow n₀ e s v k xs :=
  h.kept ⟨hb.os, hb.tape, hb.output, hb.size, fun k hk _ => hb.block k hk⟩ (row := none) (by cases hv : v.ownBlock <;> simp)
theorem rowP_get (xs : List Rp.Pt) (i : Nat) (h : i < xs.length) : (rowP xs)[i * 2]? = some (.int .u64 (xs.getD i (0, 0)).1) ∧ (rowP xs)[i * 2 + 1]? = some (.int .i64 (xs.getD i (0, 0)).2) := by
  induction xs generalizing i with
  | nil => simp at h
  | cons x r ih =>
    match i with
    | 0 => exact ⟨rfl, rfl⟩
    | i + 1 =>
      have := ih i (by simp at h; omega)
      rw [show (i + 1) * 2 = i * 2 + 2 by omega]
      exact this
theorem rowP_set (xs : List Rp.Pt) (m : Nat) (y : Rp.Pt) (h : m < xs.length) : rowP (xs.set m y) = ((rowP xs).set (m * 2) (.int .u64 y.1)).set (m * 2 + 1) (.int .i64 y.2) := by
  induction xs generalizing m with
  | nil => simp at h
  | cons x r ih =>
    match m with
    | 0 => rfl
    | m + 1 =>
      have := ih m (by simp at h; omega)
      rw [show (m + 1) * 2 = m * 2 + 2 by omega]
      show [Value.int .u64 x.1, .int .i64 x.2] ++ rowP (r.set m y) = _
      rw [this]
      rfl
theorem getD_set_same (xs : List Rp.Pt) (m : Nat) (y : Rp.Pt) (h : m < xs.length) : (xs.set m y).getD m (0, 0) = y := by simp [List.getD, h]
theorem getD_set_other (xs : List Rp.Pt) (m j : Nat) (y : Rp.Pt) (h : m ≠ j) : (xs.set m y).getD j (0, 0) = xs.getD j (0, 0) := by simp [List.getD, List.getElem?_set_ne h]
theorem grown_trans {A B C : World} {g : Nat} (h : A.grownBy B (some g)) (k : B.grownBy C (some g)) : A.grownBy C (some g) :=
  ⟨k.os.trans h.os, k.tape.trans h.tape, k.output.trans h.output, Nat.le_trans h.size k.size, fun j hj hn => (k.block j (Nat.lt_of_lt_of_le hj h.size) hn).trans (h.block j hj hn)⟩
theorem shift_ins {XS BB ZL : List Rp.Pt} {p : Rp.Pt} {M s : Nat} (hB : BB = XS ++ [p]) (hX : XS.length = M) (hat : Rp.at' XS p = s) (hZ : ZL.length = M + 1) (h : ∀ j, j ≤ M → ZL.getD j (0, 0) = if j ≤ s then BB.getD j (0, 0) else BB.getD (j - 1) (0, 0)) : ZL.set s p = Rp.ins XS p := by
  have hs : s ≤ M := by rw [← hat, ← hX]; exact Rp.at_le XS p
  have some_at : ∀ (l : List Rp.Pt) (j : Nat), j < l.length → l[j]? = some (l.getD j (0, 0)) := fun l j hj => by simp [List.getD, hj]
  have hBX : ∀ j, j < M → BB.getD j (0, 0) = XS.getD j (0, 0) := by
    intro j hj
    rw [hB]
    simp [List.getD, List.getElem?_append_left (by omega : j < XS.length)]
  have htl : (XS.take s).length = s := by rw [List.length_take]; omega
  unfold Rp.ins
  rw [hat]
  apply List.ext_getElem?
  intro j
  by_cases hjM : j < M + 1
  · by_cases hj : s = j
    · subst hj
      rw [List.getElem?_set_self (by omega), List.getElem?_append_right (by omega), htl, Nat.sub_self]
      rfl
    · rw [List.getElem?_set_ne hj, some_at ZL j (by omega), h j (by omega)]
      by_cases hlt : j < s
      · rw [if_pos (by omega), hBX j (by omega), List.getElem?_append_left (by omega), List.getElem?_take_of_lt hlt, some_at XS j (by omega)]
      · rw [if_neg (by omega), hBX (j - 1) (by omega), List.getElem?_append_right (by omega), htl]
        obtain ⟨d, hd⟩ : ∃ d, j - s = d + 1 := ⟨j - s - 1, by omega⟩
        rw [hd, List.getElem?_cons_succ, List.getElem?_drop, show s + d = j - 1 by omega, some_at XS (j - 1) (by omega)]
  · rw [List.getElem?_eq_none (by rw [List.length_set]; omega), List.getElem?_eq_none (by rw [List.length_append, List.length_cons, List.length_drop, htl]; omega)]
theorem run_allocP {a : Act} {o : Oper} {w : World} (hop : o.op = .alloc 79) : (execOp a.eval o).run Try.prog w = .ok (.value (.pointer (some ⟨w.heap.size, 0, none⟩))) (w.alloc (.cells #[.int .u64 0, .int .i64 0] 79)) := by
  simp only [execOp, hop]
  go_simp
theorem run_stP {a : Act} {o : Oper} {s t : Nat} {w : World} {Bx : Nat} {p q p0 q0 : Int} (hop : o.op = .store 79 (.tmp s) (.tmp t)) (hs : a.eval (.tmp s) = .pointer (some ⟨Bx, 0, none⟩)) (ht : a.eval (.tmp t) = .agg #[.int .u64 p, .int .i64 q]) (hb : w.heap[Bx]? = some (.cells #[.int .u64 p0, .int .i64 q0] 79 (0, 0))) :
    (execOp a.eval o).run Try.prog w = .ok .skip ((w.setCell ⟨Bx, 0, none⟩ (.int .u64 p)).setCell ⟨Bx, 1, none⟩ (.int .i64 q)) := by
  have c0 : w.cell? ⟨Bx, 0, none⟩ = some (.int .u64 p0) := by simp [World.cell?, hb]
  have c1 : w.cell? ⟨Bx, 1, none⟩ = some (.int .i64 q0) := by simp [World.cell?, hb]
  have f0 : w.frozen? ⟨Bx, 0, none⟩ = false := by simp [World.frozen?, hb]
  have f1 : w.frozen? ⟨Bx, 1, none⟩ = false := by simp [World.frozen?, hb]
  simp only [execOp, hop, hs, ht]
  go_simp
theorem set2_at {w : World} {Bx : Nat} {p0 q0 : Value} {t : TypeId} {f : Nat × Nat} (p q : Value) (hb : w.heap[Bx]? = some (.cells #[p0, q0] t f)) : ((w.setCell ⟨Bx, 0, none⟩ p).setCell ⟨Bx, 1, none⟩ q).heap[Bx]? = some (.cells #[p, q] t f) := by
  simp [World.setCell, Array.getElem?_modify, hb]
theorem set2_grown (w : World) (Bx : Nat) (i j : Nat) (p q : Value) : w.grownBy ((w.setCell ⟨Bx, i, none⟩ p).setCell ⟨Bx, j, none⟩ q) (some Bx) := by
  refine ⟨rfl, rfl, rfl, by simp [World.setCell], fun k hk hne => ?_⟩
  have : Bx ≠ k := fun e => hne (by rw [e])
  simp [World.setCell, Array.getElem?_modify, this]
theorem gIn_skp {n : Nat} {P : Program} {ops : Array Oper} {Q : Exit → Act → World → Prop} {i : Nat} {o : Oper} {a : Act} {w w' : World} {K : Act → World → Prop} (ho : ops[i]? = some o) (hw : Region.wanted o (yielded ops a.tmps) = true) (hnd : ∀ c, o.op ≠ .defer c) (hrun : (execOp a.eval o).run P w = .ok .skip w') (h : K (a.put o.dst undef) w') : wpOpIn Fence.wide n P ops Q i K a w := by
  unfold wpOpIn
  simp only [ho, hw, if_true]
  refine ⟨fun _ _ => trivial, ?_⟩
  rw [Oper.semAt_eq _ _ _ hnd, hrun]
  exact h

set_option maxRecDepth 100000 in
set_option maxHeartbeats 8000000 in
theorem rbuild_good (pn : Int) (v : Value) (l : List Rp.Pt) (w : World) (hv : PSeg .i64 w v l) (hc0 : Rp.checkE l = 0) (hp1 : 1 ≤ pn) (hp2 : pn ≤ 64) (hsz : Rp.size pn l ≤ 1024) :
    Calls Try.prog 24 #[.int .i64 pn, v] w fun e w' => ∃ v', e = .returned (.tuple #[v', .int .i64 0]) ∧ w'.ownsRow w.heap.size 79 2 v' (Rp.pts pn l).length (rowP (Rp.all (Rp.pts pn l))) ∧ Below w.heap.size w w' := by
  obtain ⟨k1, k2, _⟩ := Rp.check_ok hc0
  have c := rcheck_any v l w hv
  rw [hc0] at c
  obtain ⟨a, cap, rfl, h1, h2, h3, h4⟩ := id hv
  obtain ⟨N, hN⟩ : ∃ N, N = l.length := ⟨_, rfl⟩
  rw [← hN] at h1 c k1 ⊢
  unfold maxLen at h2
  have HN := hidD hN
  have HV := hidD hv
  have HE : Hid (∀ k, k < l.length → IntKind.i64.wrap (pn * (l.getD k (0, 0)).2) = (Rp.each pn (l.getD k (0, 0)) : Nat) ∧ Rp.each pn (l.getD k (0, 0)) ≤ 1024) := hidD (fun k hk => by
    have hm := k2 (l.getD k (0, 0)) (by rw [pgetD_at hk]; exact List.getElem_mem _)
    have e0 : 0 ≤ (l.getD k (0, 0)).2 * pn := Int.mul_nonneg (by omega) (by omega)
    have e1 : (l.getD k (0, 0)).2 * pn ≤ 16 * 64 := Int.mul_le_mul (by omega) hp2 (by omega) (by omega)
    rw [Int.mul_comm]
    unfold Rp.each
    refine ⟨?_, by omega⟩
    rw [Int.toNat_of_nonneg e0, IntKind.wrap_i64]
    omega)
  have HS := hidD (Rp.size_take pn l)
  have HSL := hidD (Rp.size_le pn l)
  have HP := hidD (Rp.pts_take pn l)
  have HPL := hidD (Rp.pts_length pn)
  have HSZ := hidD hsz
  clear hN hv h3 h4 k2 hsz hc0
  go_enter Try.func24, Try.ntmps24
  go_wp2_with fail
  with_reducible refine c.mono ?_
  rintro e w1 ⟨rfl, b1⟩
  clear c
  go_wp2_with fail
  go_loopw [7, 8] (fun s i wr => ∃ k : Nat, k ≤ N ∧ i = .int .i64 k ∧ s = .int .i64 (Rp.size pn (l.take k) : Nat) ∧ Below w.heap.size w wr) (fun _ i _ => N - (intOf i).toNat)
  case atStart => exact ⟨0, Nat.zero_le _, rfl, by simp [Rp.size], b1⟩
  case round =>
    obtain ⟨k, hk, rfl, rfl, hbl⟩ := hrel
    by_cases hlt : k < N
    · obtain ⟨a', cap', e1, _, _, h3, h4⟩ := HV.out.below hbl
      rw [← HN.out] at e1
      cases e1
      obtain ⟨g, off, rfl, hg, hcell⟩ := pseg_at (l := l) (by have := HN.out; omega) h3 h4
      obtain ⟨Q1, Q2⟩ := hcell k (by have := HN.out; omega)
      obtain ⟨y1, y3⟩ := HE.out k (by have := HN.out; omega)
      have y4 := HS.out k (by have := HN.out; omega)
      have y5 := HSL.out (k + 1)
      have y6 := HSZ.out
      have y7 : IntKind.i64.wrap ((Rp.size pn (l.take k) : Int) + (Rp.each pn (l.getD k (0, 0)) : Int)) = (Rp.size pn (l.take (k + 1)) : Nat) := by rw [IntKind.wrap_i64, y4]; omega
      clear hcell h3 h4 y3 y4 y5 y6 b1
      obtain ⟨S', hS'⟩ : ∃ S', S' = Rp.size pn (l.take (k + 1)) := ⟨_, rfl⟩
      rw [← hS'] at y7
      have HS' := hidD hS'
      clear hS'
      generalize Rp.size pn (l.take k) = S at *
      generalize Rp.each pn (l.getD k (0, 0)) = E at *
      generalize l.getD k (0, 0) = x at *
      have i1 : (k : Int) < (N : Int) := by omega
      go_wp2
      exact ⟨⟨k + 1, by omega, by go_num, by rw [← HS'.out], hbl⟩, by simp [intOf]; omega⟩
    · have hke : l.take k = l := List.take_of_length_le (by have := HN.out; omega)
      rw [hke]
      clear hke hk b1
      have hS := HSZ.out
      obtain ⟨SZ, hSZ⟩ : ∃ SZ, SZ = Rp.size pn l := ⟨_, rfl⟩
      rw [← hSZ] at hS ⊢
      have HSZ2 := hidD hSZ
      clear hSZ
      obtain ⟨i0, hi, hz0, hz1, hz2⟩ := info_parts Try.infoP
      obtain ⟨wo, rfl⟩ : ∃ wo, wo = wr := ⟨_, rfl⟩
      go_wp2_with fail
      go_loopw [9, 10] (fun o i wr => ∃ k : Nat, k ≤ N ∧ i = .int .i64 k ∧ wr.ownsRow w.heap.size 79 2 o (Rp.pts pn (l.take k)).length (rowP (Rp.all (Rp.pts pn (l.take k)))) ∧ Below w.heap.size w wr) (fun _ i _ => N - (intOf i).toNat)
      case atStart => exact ⟨0, Nat.zero_le _, rfl, by simpa [Rp.pts, Rp.all, rowP] using World.ownsRow_nil _ _ _ _, hbl⟩
      case round =>
        clear hbl
        obtain ⟨ki, hki, rfl, hrow, hbl⟩ := hrel
        obtain ⟨wq, rfl⟩ : ∃ wq, wq = wr := ⟨_, rfl⟩
        by_cases hlti : ki < N
        · obtain ⟨a', cap', e1, _, _, h3, h4⟩ := id HV.out
          rw [← HN.out] at e1
          cases e1
          obtain ⟨g, off, rfl, hg, hcell⟩ := pseg_at (l := l) (by have := HN.out; omega) h3 h4
          have HQ := hidD (hcell ki (by have := HN.out; omega))
          obtain ⟨y1, y3⟩ := HE.out ki (by have := HN.out; omega)
          have HPq := hidD (HP.out ki (by have := HN.out; omega))
          have HLe : Hid ((Rp.pts pn (l.take ki)).length + Rp.each pn (l.getD ki (0, 0)) ≤ 1024) := hidD (by
            have e1 := HPL.out (l.take (ki + 1))
            have e2 := HSL.out (ki + 1)
            have e3 := HSZ.out
            rw [HPq.out, List.length_append, Rp.ptsOf_length] at e1
            omega)
          have HOT := hidD (Rp.of_take pn (l.getD ki (0, 0)))
          have hRL := hidD (Rp.ptsOf_length pn (l.getD ki (0, 0)))
          clear hcell h3 h4
          generalize hx : l.getD ki (0, 0) = x at *
          have HX := hidD hx
          clear hx
          obtain ⟨PP, hPP⟩ : ∃ PP, PP = Rp.pts pn (l.take ki) := ⟨_, rfl⟩
          rw [← hPP] at hrow HLe HPq
          have HPP := hidD hPP
          clear hPP
          obtain ⟨EE, hEE⟩ : ∃ EE, EE = Rp.each pn x := ⟨_, rfl⟩
          rw [← hEE] at y1 y3 HLe hRL
          have HEE := hidD hEE
          clear hEE
          have i1 : (ki : Int) < (N : Int) := by omega
          go_wp2_with fail
          go_loopw [9, 11] (fun o j wr => ∃ q : Nat, q ≤ EE ∧ j = .int .i64 q ∧ wr.ownsRow w.heap.size 79 2 o (PP ++ (Rp.ptsOf pn x).take q).length (rowP (Rp.all (PP ++ (Rp.ptsOf pn x).take q))) ∧ Below w.heap.size w wr) (fun _ j _ => EE - (intOf j).toNat)
          case atStart => exact ⟨0, Nat.zero_le _, rfl, by simpa using hrow, hbl⟩
          case round =>
            clear hrow
            obtain ⟨q, hq, rfl, hrow, hbi⟩ := hrel
            obtain ⟨wi, rfl⟩ : ∃ wi, wi = wr := ⟨_, rfl⟩
            have Q1 := (hbi.cell (p := ⟨g, off + ki * 2, none⟩) hg).trans HQ.out.1
            have Q2 := (hbi.cell (p := ⟨g, off + ki * 2 + 1, none⟩) hg).trans HQ.out.2
            by_cases hlq : q < EE
            · go_wp2_with fail
              have hgi : g < wi.heap.size := Nat.lt_of_lt_of_le hg hbi.size
              have HI : Hid (∀ gs (W1 : World), W1.heap[gs]? = some (.cells #[.int .i64 x.1, .int .i64 (q : Int)] 3 (0, 0)) → Calls Try.prog 42 #[.int .u64 1, .slice (some ⟨gs, 0, none⟩) 2 2] W1 fun e w' => e = .returned (.int .u64 (Rp.hsh x.1 q : Nat)) ∧ W1 = w') := hidD (fun gs W1 hgs => by
                refine rints_any 1 _ [x.1, (q : Int)] W1 (by decide) ⟨some ⟨gs, 0, none⟩, 2, rfl, by simp, by unfold maxLen; omega, (fun h => by cases h), fun y hy i hi => ?_⟩
                cases hy
                rw [add_plain]
                have hi' : i < 2 := hi
                rcases (by omega : i = 0 ∨ i = 1) with rfl | rfl <;> simp [World.cell?, hgs])
              have HNX := hidD (HOT.out q (by have := HEE.out; omega))
              generalize Rp.hsh x.1 q = hh at *
              have HROW := hidD hrow
              refine (wpIn_wide (n := 10)).1 ?_
              refine wpIn_region_last (pred := fun jx v W => match jx with | 0 => v = .slice (some ⟨g, off, none⟩) N cap | 1 => v = .int .i64 (ki : Int) | 2 => v = .pointer (some ⟨g, off + ki * 2, none⟩) | 3 => v = .pointer (some ⟨g, off + ki * 2, none⟩) | 4 => v = .int .i64 x.1 | 5 => v = .int .i64 (q : Int) | 6 => ∃ gs, v = .slice (some ⟨gs, 0, none⟩) 2 2 ∧ (W.heap[gs]? = some (.cells #[.int .i64 x.1, .int .i64 (q : Int)] 3 (0, 0))) | 7 => v = .int .u64 (hh : Int) | 8 => v = .slice (some ⟨g, off, none⟩) N cap | 9 => v = .int .i64 (ki : Int) | 10 => v = .pointer (some ⟨g, off + ki * 2, none⟩) | 11 => v = .pointer (some ⟨g, off + ki * 2, none⟩) | 12 => v = .int .i64 x.1 | 13 => v = .agg #[.int .u64 (hh : Int), .int .i64 x.1] | 14 => ∃ Bx, v = .pointer (some ⟨Bx, 0, none⟩) ∧ (wi.heap.size ≤ Bx ∧ W.heap[Bx]? = some (.cells #[.int .u64 0, .int .i64 0] 79 (0, 0))) | _ => True) (R := fun W => Below wi.heap.size wi W) (T := fun W W' => W.grownBy W' none) 15 (by kernel_rfl) (by kernel_rfl) (by kernel_rfl) (by kernel_rfl) (by decide) ?mono (belowD_drew (Below.refl _ _)) ?s1 ?last
              case mono =>
                intro ix v W1 W2 hi hp hk
                match ix, hp, hi with
                | 0, h, _ => exact h
                | 1, h, _ => exact h
                | 2, h, _ => exact h
                | 3, h, _ => exact h
                | 4, h, _ => exact h
                | 5, h, _ => exact h
                | 6, ⟨gs, e, h⟩, _ => exact ⟨gs, e, (hk.block gs (Array.getElem?_eq_some_iff.1 h).1 (by simp)).trans h⟩
                | 7, h, _ => exact h
                | 8, h, _ => exact h
                | 9, h, _ => exact h
                | 10, h, _ => exact h
                | 11, h, _ => exact h
                | 12, h, _ => exact h
                | 13, h, _ => exact h
                | 14, ⟨Bx, e, hb, h⟩, _ => exact ⟨Bx, e, hb, (hk.block Bx (Array.getElem?_eq_some_iff.1 h).1 (by simp)).trans h⟩
                | _ + 15, _, h => omega
              case s1 =>
                intro ix o hi' ho A W hsz hdf hfr hdep hR
                rcases ix with _ | _ | _ | _ | _ | _ | _ | _ | _ | _ | _ | _ | _ | _ | _ | ix
                · injection ho with ho
                  subst ho
                  have e1 : A.eval (.tmp 1) = .slice (some ⟨g, off, none⟩) N cap := (hfr 1 (noDstBut_spec (by kernel_rfl))).trans rfl
                  exact gIn_mv rfl (wanted_plain rfl) (.inl rfl) e1 ⟨_, rfl, rfl, grown_refl _, hR⟩
                · injection ho with ho
                  subst ho
                  have e10 : A.eval (.tmp 10) = .int .i64 (ki : Int) := (hfr 10 (noDstBut_spec (by kernel_rfl))).trans rfl
                  exact gIn_mv rfl (wanted_plain rfl) (.inl rfl) e10 ⟨_, rfl, rfl, grown_refl _, hR⟩
                · injection ho with ho
                  subst ho
                  have e62 : A.eval (.tmp 62) = .slice (some ⟨g, off, none⟩) N cap := hdep ⟨0, .data⟩ (by simp) rfl _ _ rfl rfl
                  have e63 : A.eval (.tmp 63) = .int .i64 (ki : Int) := hdep ⟨1, .data⟩ (by simp) rfl _ _ rfl rfl
                  exact gIn_ix (v := .pointer (some ⟨g, off + ki * 2, none⟩)) rfl (wanted_plain rfl) rfl e62 e63 (by go_simp) ⟨_, rfl, rfl, grown_refl _, hR⟩
                · injection ho with ho
                  subst ho
                  have e64 : A.eval (.tmp 64) = .pointer (some ⟨g, off + ki * 2, none⟩) := hdep ⟨2, .data⟩ (by simp) rfl _ _ rfl rfl
                  exact gIn_fld (v := .pointer (some ⟨g, off + ki * 2, none⟩)) rfl (wanted_plain rfl) rfl e64 (by go_simp) ⟨_, rfl, rfl, grown_refl _, hR⟩
                · injection ho with ho
                  subst ho
                  have e65 : A.eval (.tmp 65) = .pointer (some ⟨g, off + ki * 2, none⟩) := hdep ⟨3, .data⟩ (by simp) rfl _ _ rfl rfl
                  have x0 := (hR.cell (p := ⟨g, off + ki * 2, none⟩) hgi).trans Q1
                  exact gIn_ld (v := .int .i64 x.1) rfl (wanted_plain rfl) rfl e65 (by go_simp) ⟨_, rfl, rfl, grown_refl _, hR⟩
                · injection ho with ho
                  subst ho
                  have e11 : A.eval (.tmp 11) = .int .i64 (q : Int) := (hfr 11 (noDstBut_spec (by kernel_rfl))).trans rfl
                  exact gIn_mv rfl (wanted_plain rfl) (.inl rfl) e11 ⟨_, rfl, rfl, grown_refl _, hR⟩
                · injection ho with ho
                  subst ho
                  have e66 : A.eval (.tmp 66) = .int .i64 x.1 := hdep ⟨4, .data⟩ (by simp) rfl _ _ rfl rfl
                  have e67 : A.eval (.tmp 67) = .int .i64 (q : Int) := hdep ⟨5, .data⟩ (by simp) rfl _ _ rfl rfl
                  have hga := World.grownBy_alloc W (.cells #[.int .i64 x.1, .int .i64 (q : Int)] 3) none
                  refine gIn_val (v := .slice (some ⟨W.heap.size, 0, none⟩) 2 2) (w' := W.alloc (.cells #[.int .i64 x.1, .int .i64 (q : Int)] 3)) rfl (wanted_plain rfl) (by intro c hc; cases hc) (by simp [execOp, e66, e67, run_build2]) ?_
                  exact ⟨_, rfl, ⟨W.heap.size, rfl, World.alloc_heap_new W _⟩, hga, hR.alloc hR.size _⟩
                · injection ho with ho
                  subst ho
                  obtain ⟨gs, e68, hx68⟩ : ∃ gs, A.eval (.tmp 68) = .slice (some ⟨gs, 0, none⟩) 2 2 ∧ (W.heap[gs]? = some (.cells #[.int .i64 x.1, .int .i64 (q : Int)] 3 (0, 0))) := hdep ⟨6, .data⟩ (by simp) rfl _ _ rfl rfl
                  refine gIn_enter rfl (wanted_plain rfl) (by intro c hc; cases hc) 42 #[.int .u64 1, .slice (some ⟨gs, 0, none⟩) 2 2] (run_call _ (fun _ _ => rfl) _ _ rfl _ (by simp [e68]; rfl)) ?_
                  refine (HI.out gs W hx68).mono ?_
                  rintro e w' ⟨rfl, rfl⟩
                  exact ⟨_, rfl, _, rfl, rfl, grown_refl _, hR⟩
                · injection ho with ho
                  subst ho
                  have e1 : A.eval (.tmp 1) = .slice (some ⟨g, off, none⟩) N cap := (hfr 1 (noDstBut_spec (by kernel_rfl))).trans rfl
                  exact gIn_mv rfl (wanted_plain rfl) (.inl rfl) e1 ⟨_, rfl, rfl, grown_refl _, hR⟩
                · injection ho with ho
                  subst ho
                  have e10 : A.eval (.tmp 10) = .int .i64 (ki : Int) := (hfr 10 (noDstBut_spec (by kernel_rfl))).trans rfl
                  exact gIn_mv rfl (wanted_plain rfl) (.inl rfl) e10 ⟨_, rfl, rfl, grown_refl _, hR⟩
                · injection ho with ho
                  subst ho
                  have e70 : A.eval (.tmp 70) = .slice (some ⟨g, off, none⟩) N cap := hdep ⟨8, .data⟩ (by simp) rfl _ _ rfl rfl
                  have e71 : A.eval (.tmp 71) = .int .i64 (ki : Int) := hdep ⟨9, .data⟩ (by simp) rfl _ _ rfl rfl
                  exact gIn_ix (v := .pointer (some ⟨g, off + ki * 2, none⟩)) rfl (wanted_plain rfl) rfl e70 e71 (by go_simp) ⟨_, rfl, rfl, grown_refl _, hR⟩
                · injection ho with ho
                  subst ho
                  have e72 : A.eval (.tmp 72) = .pointer (some ⟨g, off + ki * 2, none⟩) := hdep ⟨10, .data⟩ (by simp) rfl _ _ rfl rfl
                  exact gIn_fld (v := .pointer (some ⟨g, off + ki * 2, none⟩)) rfl (wanted_plain rfl) rfl e72 (by go_simp) ⟨_, rfl, rfl, grown_refl _, hR⟩
                · injection ho with ho
                  subst ho
                  have e73 : A.eval (.tmp 73) = .pointer (some ⟨g, off + ki * 2, none⟩) := hdep ⟨11, .data⟩ (by simp) rfl _ _ rfl rfl
                  have x0 := (hR.cell (p := ⟨g, off + ki * 2, none⟩) hgi).trans Q1
                  exact gIn_ld (v := .int .i64 x.1) rfl (wanted_plain rfl) rfl e73 (by go_simp) ⟨_, rfl, rfl, grown_refl _, hR⟩
                · injection ho with ho
                  subst ho
                  have e69 : A.eval (.tmp 69) = .int .u64 (hh : Int) := hdep ⟨7, .data⟩ (by simp) rfl _ _ rfl rfl
                  have e74 : A.eval (.tmp 74) = .int .i64 x.1 := hdep ⟨12, .data⟩ (by simp) rfl _ _ rfl rfl
                  exact gIn_val (v := .agg #[.int .u64 (hh : Int), .int .i64 x.1]) (w' := W) rfl (wanted_plain rfl) (by intro c hc; cases hc) (by simp [execOp, e69, e74, run_pt]) ⟨_, rfl, rfl, grown_refl _, hR⟩
                · injection ho with ho
                  subst ho
                  have hga := World.grownBy_alloc W (.cells #[.int .u64 0, .int .i64 0] 79) none
                  refine gIn_val (v := .pointer (some ⟨W.heap.size, 0, none⟩)) (w' := W.alloc (.cells #[.int .u64 0, .int .i64 0] 79)) rfl (wanted_plain rfl) (by intro c hc; cases hc) (run_allocP rfl) ?_
                  exact ⟨_, rfl, ⟨W.heap.size, rfl, hR.size, World.alloc_heap_new W _⟩, hga, hR.alloc hR.size _⟩
                · omega
              case last =>
                intro o ho A W hsz hdf hfr hcome hR
                injection ho with ho
                subst ho
                obtain ⟨Bx, f12, hBx, hbx⟩ : ∃ Bx, A.tmps.getD 12 undef = .pointer (some ⟨Bx, 0, none⟩) ∧ (wi.heap.size ≤ Bx ∧ W.heap[Bx]? = some (.cells #[.int .u64 0, .int .i64 0] 79 (0, 0))) := hcome 14 _ _ (by decide) rfl rfl
                have f75 : A.tmps.getD 75 undef = .agg #[.int .u64 (hh : Int), .int .i64 x.1] := hcome 13 _ _ (by decide) rfl rfl
                have hdf2 : A.defers = [] := hdf
                refine gIn_skp rfl (wanted_plain rfl) (by intro c hc; cases hc) (run_stP rfl f12 f75 hbx) ?_
                obtain ⟨Z, hZ⟩ : ∃ Z, Z = (W.setCell ⟨Bx, 0, none⟩ (.int .u64 (hh : Int))).setCell ⟨Bx, 1, none⟩ (.int .i64 x.1) := ⟨_, rfl⟩
                have hZb : Z.heap[Bx]? = some (.cells #[.int .u64 (hh : Int), .int .i64 x.1] 79 (0, 0)) := by rw [hZ]; exact set2_at _ _ hbx
                have hZg : W.grownBy Z (some Bx) := by rw [hZ]; exact set2_grown _ _ _ _ _ _
                have hZB : Below wi.heap.size wi Z := hR.grown hZg hR.size (fun k e => by cases e; exact hBx)
                rw [← hZ]
                show Exit.then _ _ Exit.normal A Z
                have hA : A = ⟨#[A.tmps.getD 0 undef, A.tmps.getD 1 undef, A.tmps.getD 2 undef, A.tmps.getD 3 undef, A.tmps.getD 4 undef, A.tmps.getD 5 undef, A.tmps.getD 6 undef, A.tmps.getD 7 undef, A.tmps.getD 8 undef, A.tmps.getD 9 undef, A.tmps.getD 10 undef, A.tmps.getD 11 undef, A.tmps.getD 12 undef, A.tmps.getD 13 undef, A.tmps.getD 14 undef, A.tmps.getD 15 undef, A.tmps.getD 16 undef, A.tmps.getD 17 undef, A.tmps.getD 18 undef, A.tmps.getD 19 undef, A.tmps.getD 20 undef, A.tmps.getD 21 undef, A.tmps.getD 22 undef, A.tmps.getD 23 undef, A.tmps.getD 24 undef, A.tmps.getD 25 undef, A.tmps.getD 26 undef, A.tmps.getD 27 undef, A.tmps.getD 28 undef, A.tmps.getD 29 undef, A.tmps.getD 30 undef, A.tmps.getD 31 undef, A.tmps.getD 32 undef, A.tmps.getD 33 undef, A.tmps.getD 34 undef, A.tmps.getD 35 undef, A.tmps.getD 36 undef, A.tmps.getD 37 undef, A.tmps.getD 38 undef, A.tmps.getD 39 undef, A.tmps.getD 40 undef, A.tmps.getD 41 undef, A.tmps.getD 42 undef, A.tmps.getD 43 undef, A.tmps.getD 44 undef, A.tmps.getD 45 undef, A.tmps.getD 46 undef, A.tmps.getD 47 undef, A.tmps.getD 48 undef, A.tmps.getD 49 undef, A.tmps.getD 50 undef, A.tmps.getD 51 undef, A.tmps.getD 52 undef, A.tmps.getD 53 undef, A.tmps.getD 54 undef, A.tmps.getD 55 undef, A.tmps.getD 56 undef, A.tmps.getD 57 undef, A.tmps.getD 58 undef, A.tmps.getD 59 undef, A.tmps.getD 60 undef, A.tmps.getD 61 undef, A.tmps.getD 62 undef, A.tmps.getD 63 undef, A.tmps.getD 64 undef, A.tmps.getD 65 undef, A.tmps.getD 66 undef, A.tmps.getD 67 undef, A.tmps.getD 68 undef, A.tmps.getD 69 undef, A.tmps.getD 70 undef, A.tmps.getD 71 undef, A.tmps.getD 72 undef, A.tmps.getD 73 undef, A.tmps.getD 74 undef, A.tmps.getD 75 undef, A.tmps.getD 76 undef, A.tmps.getD 77 undef, A.tmps.getD 78 undef, A.tmps.getD 79 undef, A.tmps.getD 80 undef, A.tmps.getD 81 undef, A.tmps.getD 82 undef, A.tmps.getD 83 undef, A.tmps.getD 84 undef, A.tmps.getD 85 undef, A.tmps.getD 86 undef, A.tmps.getD 87 undef, A.tmps.getD 88 undef, A.tmps.getD 89 undef, A.tmps.getD 90 undef, A.tmps.getD 91 undef, A.tmps.getD 92 undef, A.tmps.getD 93 undef, A.tmps.getD 94 undef, A.tmps.getD 95 undef, A.tmps.getD 96 undef, A.tmps.getD 97 undef, A.tmps.getD 98 undef, A.tmps.getD 99 undef, A.tmps.getD 100 undef, A.tmps.getD 101 undef, A.tmps.getD 102 undef, A.tmps.getD 103 undef, A.tmps.getD 104 undef, A.tmps.getD 105 undef, A.tmps.getD 106 undef, A.tmps.getD 107 undef, A.tmps.getD 108 undef, A.tmps.getD 109 undef, A.tmps.getD 110 undef, A.tmps.getD 111 undef, A.tmps.getD 112 undef, A.tmps.getD 113 undef, A.tmps.getD 114 undef, A.tmps.getD 115 undef], A.defers⟩ := by
                  have h1 := act_lit A.tmps 116 hsz
                  obtain ⟨t, d⟩ := A
                  exact congrArg (fun x => (⟨x, d⟩ : Act)) h1
                have f0 := (show A.tmps.getD 0 undef = Value.int IntKind.i64 pn from (hfr 0 (noDstBut_spec (by kernel_rfl))).trans rfl)
                have f1 := (show A.tmps.getD 1 undef = Value.slice (some { block := g, off := off }) N cap from (hfr 1 (noDstBut_spec (by kernel_rfl))).trans rfl)
                have f2 := (show A.tmps.getD 2 undef = undef from (hfr 2 (noDstBut_spec (by kernel_rfl))).trans rfl)
                have f3 := (show A.tmps.getD 3 undef = undef from (hfr 3 (noDstBut_spec (by kernel_rfl))).trans rfl)
                have f4 := (show A.tmps.getD 4 undef = Value.slice none 0 0 from (hfr 4 (noDstBut_spec (by kernel_rfl))).trans rfl)
                have f5 := (show A.tmps.getD 5 undef = Value.int IntKind.i64 0 from (hfr 5 (noDstBut_spec (by kernel_rfl))).trans rfl)
                have f6 := (show A.tmps.getD 6 undef = Value.int IntKind.i64 0 from (hfr 6 (noDstBut_spec (by kernel_rfl))).trans rfl)
                have f7 := (show A.tmps.getD 7 undef = Value.int IntKind.i64 (SZ : Int) from (hfr 7 (noDstBut_spec (by kernel_rfl))).trans rfl)
                have f8 := (show A.tmps.getD 8 undef = Value.int IntKind.i64 (k : Int) from (hfr 8 (noDstBut_spec (by kernel_rfl))).trans rfl)
                have f9 := (show A.tmps.getD 9 undef = u9 from (hfr 9 (noDstBut_spec (by kernel_rfl))).trans rfl)
                have f10 := (show A.tmps.getD 10 undef = Value.int IntKind.i64 (ki : Int) from (hfr 10 (noDstBut_spec (by kernel_rfl))).trans rfl)
                have f11 := (show A.tmps.getD 11 undef = Value.int IntKind.i64 (q : Int) from (hfr 11 (noDstBut_spec (by kernel_rfl))).trans rfl)
                have f13 := (show A.tmps.getD 13 undef = u13 from (hfr 13 (noDstBut_spec (by kernel_rfl))).trans rfl)
                have f14 := (show A.tmps.getD 14 undef = u14 from (hfr 14 (noDstBut_spec (by kernel_rfl))).trans rfl)
                have f15 := (show A.tmps.getD 15 undef = Value.slice (some { block := g, off := off }) N cap from (hfr 15 (noDstBut_spec (by kernel_rfl))).trans rfl)
                have f16 := (show A.tmps.getD 16 undef = Value.int IntKind.i64 0 from (hfr 16 (noDstBut_spec (by kernel_rfl))).trans rfl)
                have f17 := (show A.tmps.getD 17 undef = Value.bool false from (hfr 17 (noDstBut_spec (by kernel_rfl))).trans rfl)
                have f18 := (show A.tmps.getD 18 undef = Value.int IntKind.i64 0 from (hfr 18 (noDstBut_spec (by kernel_rfl))).trans rfl)
                have f19 := (show A.tmps.getD 19 undef = Value.bool false from (hfr 19 (noDstBut_spec (by kernel_rfl))).trans rfl)
                have f20 := (show A.tmps.getD 20 undef = undef from (hfr 20 (noDstBut_spec (by kernel_rfl))).trans rfl)
                have f21 := (show A.tmps.getD 21 undef = Value.bool (decide (pn < 1) || decide (64 < pn)) from (hfr 21 (noDstBut_spec (by kernel_rfl))).trans rfl)
                have f22 := (show A.tmps.getD 22 undef = Value.int IntKind.i64 pn from (hfr 22 (noDstBut_spec (by kernel_rfl))).trans rfl)
                have f23 := (show A.tmps.getD 23 undef = Value.bool (decide (pn < 1)) from (hfr 23 (noDstBut_spec (by kernel_rfl))).trans rfl)
                have f24 := (show A.tmps.getD 24 undef = Value.bool (decide (pn < 1)) from (hfr 24 (noDstBut_spec (by kernel_rfl))).trans rfl)
                have f25 := (show A.tmps.getD 25 undef = Value.int IntKind.i64 pn from (hfr 25 (noDstBut_spec (by kernel_rfl))).trans rfl)
                have f26 := (show A.tmps.getD 26 undef = Value.bool (decide (64 < pn)) from (hfr 26 (noDstBut_spec (by kernel_rfl))).trans rfl)
                have f27 := (show A.tmps.getD 27 undef = Value.bool (decide (pn < 1) || decide (64 < pn)) from (hfr 27 (noDstBut_spec (by kernel_rfl))).trans rfl)
                have f28 := (show A.tmps.getD 28 undef = Value.int IntKind.i64 (k : Int) from (hfr 28 (noDstBut_spec (by kernel_rfl))).trans rfl)
                have f29 := (show A.tmps.getD 29 undef = Value.slice (some { block := g, off := off }) N cap from (hfr 29 (noDstBut_spec (by kernel_rfl))).trans rfl)
                have f30 := (show A.tmps.getD 30 undef = Value.int IntKind.i64 (N : Int) from (hfr 30 (noDstBut_spec (by kernel_rfl))).trans rfl)
                have f31 := (show A.tmps.getD 31 undef = Value.bool false from (hfr 31 (noDstBut_spec (by kernel_rfl))).trans rfl)
                have f32 := (show A.tmps.getD 32 undef = u32 from (hfr 32 (noDstBut_spec (by kernel_rfl))).trans rfl)
                have f33 := (show A.tmps.getD 33 undef = u33 from (hfr 33 (noDstBut_spec (by kernel_rfl))).trans rfl)
                have f34 := (show A.tmps.getD 34 undef = u34 from (hfr 34 (noDstBut_spec (by kernel_rfl))).trans rfl)
                have f35 := (show A.tmps.getD 35 undef = u35 from (hfr 35 (noDstBut_spec (by kernel_rfl))).trans rfl)
                have f36 := (show A.tmps.getD 36 undef = u36 from (hfr 36 (noDstBut_spec (by kernel_rfl))).trans rfl)
                have f37 := (show A.tmps.getD 37 undef = u37 from (hfr 37 (noDstBut_spec (by kernel_rfl))).trans rfl)
                have f38 := (show A.tmps.getD 38 undef = u38 from (hfr 38 (noDstBut_spec (by kernel_rfl))).trans rfl)
                have f39 := (show A.tmps.getD 39 undef = u39 from (hfr 39 (noDstBut_spec (by kernel_rfl))).trans rfl)
                have f40 := (show A.tmps.getD 40 undef = u40 from (hfr 40 (noDstBut_spec (by kernel_rfl))).trans rfl)
                have f41 := (show A.tmps.getD 41 undef = u41 from (hfr 41 (noDstBut_spec (by kernel_rfl))).trans rfl)
                have f42 := (show A.tmps.getD 42 undef = u42 from (hfr 42 (noDstBut_spec (by kernel_rfl))).trans rfl)
                have f43 := (show A.tmps.getD 43 undef = Value.int IntKind.i64 (SZ : Int) from (hfr 43 (noDstBut_spec (by kernel_rfl))).trans rfl)
                have f44 := (show A.tmps.getD 44 undef = Value.bool (decide (1024 < (SZ : Int))) from (hfr 44 (noDstBut_spec (by kernel_rfl))).trans rfl)
                have f45 := (show A.tmps.getD 45 undef = Value.int IntKind.i64 (ki : Int) from (hfr 45 (noDstBut_spec (by kernel_rfl))).trans rfl)
                have f46 := (show A.tmps.getD 46 undef = Value.slice (some { block := g, off := off }) N cap from (hfr 46 (noDstBut_spec (by kernel_rfl))).trans rfl)
                have f47 := (show A.tmps.getD 47 undef = Value.int IntKind.i64 (N : Int) from (hfr 47 (noDstBut_spec (by kernel_rfl))).trans rfl)
                have f48 := (show A.tmps.getD 48 undef = Value.bool true from (hfr 48 (noDstBut_spec (by kernel_rfl))).trans rfl)
                have f49 := (show A.tmps.getD 49 undef = u49 from (hfr 49 (noDstBut_spec (by kernel_rfl))).trans rfl)
                have f50 := (show A.tmps.getD 50 undef = u50 from (hfr 50 (noDstBut_spec (by kernel_rfl))).trans rfl)
                have f51 := (show A.tmps.getD 51 undef = Value.int IntKind.i64 (q : Int) from (hfr 51 (noDstBut_spec (by kernel_rfl))).trans rfl)
                have f52 := (show A.tmps.getD 52 undef = Value.int IntKind.i64 pn from (hfr 52 (noDstBut_spec (by kernel_rfl))).trans rfl)
                have f53 := (show A.tmps.getD 53 undef = Value.slice (some { block := g, off := off }) N cap from (hfr 53 (noDstBut_spec (by kernel_rfl))).trans rfl)
                have f54 := (show A.tmps.getD 54 undef = Value.int IntKind.i64 (ki : Int) from (hfr 54 (noDstBut_spec (by kernel_rfl))).trans rfl)
                have f55 := (show A.tmps.getD 55 undef = Value.pointer (some { block := g, off := off + ki * 2 }) from (hfr 55 (noDstBut_spec (by kernel_rfl))).trans rfl)
                have f56 := (show A.tmps.getD 56 undef = Value.pointer (some { block := g, off := off + ki * 2 + 1 }) from (hfr 56 (noDstBut_spec (by kernel_rfl))).trans rfl)
                have f57 := (show A.tmps.getD 57 undef = Value.int IntKind.i64 x.snd from (hfr 57 (noDstBut_spec (by kernel_rfl))).trans rfl)
                have f58 := (show A.tmps.getD 58 undef = Value.int IntKind.i64 (EE : Int) from (hfr 58 (noDstBut_spec (by kernel_rfl))).trans rfl)
                have f59 := (show A.tmps.getD 59 undef = Value.bool true from (hfr 59 (noDstBut_spec (by kernel_rfl))).trans rfl)
                have f60 := (show A.tmps.getD 60 undef = u60 from (hfr 60 (noDstBut_spec (by kernel_rfl))).trans rfl)
                have f61 := (show A.tmps.getD 61 undef = u61 from (hfr 61 (noDstBut_spec (by kernel_rfl))).trans rfl)
                have f76 := (show A.tmps.getD 76 undef = u76 from (hfr 76 (noDstBut_spec (by kernel_rfl))).trans rfl)
                have f77 := (show A.tmps.getD 77 undef = u77 from (hfr 77 (noDstBut_spec (by kernel_rfl))).trans rfl)
                have f78 := (show A.tmps.getD 78 undef = u78 from (hfr 78 (noDstBut_spec (by kernel_rfl))).trans rfl)
                have f79 := (show A.tmps.getD 79 undef = u79 from (hfr 79 (noDstBut_spec (by kernel_rfl))).trans rfl)
                have f80 := (show A.tmps.getD 80 undef = u80 from (hfr 80 (noDstBut_spec (by kernel_rfl))).trans rfl)
                have f81 := (show A.tmps.getD 81 undef = u81 from (hfr 81 (noDstBut_spec (by kernel_rfl))).trans rfl)
                have f82 := (show A.tmps.getD 82 undef = u82 from (hfr 82 (noDstBut_spec (by kernel_rfl))).trans rfl)
                have f83 := (show A.tmps.getD 83 undef = u83 from (hfr 83 (noDstBut_spec (by kernel_rfl))).trans rfl)
                have f84 := (show A.tmps.getD 84 undef = u84 from (hfr 84 (noDstBut_spec (by kernel_rfl))).trans rfl)
                have f85 := (show A.tmps.getD 85 undef = u85 from (hfr 85 (noDstBut_spec (by kernel_rfl))).trans rfl)
                have f86 := (show A.tmps.getD 86 undef = u86 from (hfr 86 (noDstBut_spec (by kernel_rfl))).trans rfl)
                have f87 := (show A.tmps.getD 87 undef = u87 from (hfr 87 (noDstBut_spec (by kernel_rfl))).trans rfl)
                have f88 := (show A.tmps.getD 88 undef = u88 from (hfr 88 (noDstBut_spec (by kernel_rfl))).trans rfl)
                have f89 := (show A.tmps.getD 89 undef = u89 from (hfr 89 (noDstBut_spec (by kernel_rfl))).trans rfl)
                have f90 := (show A.tmps.getD 90 undef = u90 from (hfr 90 (noDstBut_spec (by kernel_rfl))).trans rfl)
                have f91 := (show A.tmps.getD 91 undef = u91 from (hfr 91 (noDstBut_spec (by kernel_rfl))).trans rfl)
                have f92 := (show A.tmps.getD 92 undef = u92 from (hfr 92 (noDstBut_spec (by kernel_rfl))).trans rfl)
                have f93 := (show A.tmps.getD 93 undef = u93 from (hfr 93 (noDstBut_spec (by kernel_rfl))).trans rfl)
                have f94 := (show A.tmps.getD 94 undef = u94 from (hfr 94 (noDstBut_spec (by kernel_rfl))).trans rfl)
                have f95 := (show A.tmps.getD 95 undef = u95 from (hfr 95 (noDstBut_spec (by kernel_rfl))).trans rfl)
                have f96 := (show A.tmps.getD 96 undef = u96 from (hfr 96 (noDstBut_spec (by kernel_rfl))).trans rfl)
                have f97 := (show A.tmps.getD 97 undef = u97 from (hfr 97 (noDstBut_spec (by kernel_rfl))).trans rfl)
                have f98 := (show A.tmps.getD 98 undef = u98 from (hfr 98 (noDstBut_spec (by kernel_rfl))).trans rfl)
                have f99 := (show A.tmps.getD 99 undef = u99 from (hfr 99 (noDstBut_spec (by kernel_rfl))).trans rfl)
                have f100 := (show A.tmps.getD 100 undef = u100 from (hfr 100 (noDstBut_spec (by kernel_rfl))).trans rfl)
                have f101 := (show A.tmps.getD 101 undef = u101 from (hfr 101 (noDstBut_spec (by kernel_rfl))).trans rfl)
                have f102 := (show A.tmps.getD 102 undef = u102 from (hfr 102 (noDstBut_spec (by kernel_rfl))).trans rfl)
                have f103 := (show A.tmps.getD 103 undef = u103 from (hfr 103 (noDstBut_spec (by kernel_rfl))).trans rfl)
                have f104 := (show A.tmps.getD 104 undef = u104 from (hfr 104 (noDstBut_spec (by kernel_rfl))).trans rfl)
                have f105 := (show A.tmps.getD 105 undef = u105 from (hfr 105 (noDstBut_spec (by kernel_rfl))).trans rfl)
                have f106 := (show A.tmps.getD 106 undef = u106 from (hfr 106 (noDstBut_spec (by kernel_rfl))).trans rfl)
                have f107 := (show A.tmps.getD 107 undef = u107 from (hfr 107 (noDstBut_spec (by kernel_rfl))).trans rfl)
                have f108 := (show A.tmps.getD 108 undef = u108 from (hfr 108 (noDstBut_spec (by kernel_rfl))).trans rfl)
                have f109 := (show A.tmps.getD 109 undef = u109 from (hfr 109 (noDstBut_spec (by kernel_rfl))).trans rfl)
                have f110 := (show A.tmps.getD 110 undef = u110 from (hfr 110 (noDstBut_spec (by kernel_rfl))).trans rfl)
                have f111 := (show A.tmps.getD 111 undef = u111 from (hfr 111 (noDstBut_spec (by kernel_rfl))).trans rfl)
                have f112 := (show A.tmps.getD 112 undef = u112 from (hfr 112 (noDstBut_spec (by kernel_rfl))).trans rfl)
                have f113 := (show A.tmps.getD 113 undef = u113 from (hfr 113 (noDstBut_spec (by kernel_rfl))).trans rfl)
                have f114 := (show A.tmps.getD 114 undef = u114 from (hfr 114 (noDstBut_spec (by kernel_rfl))).trans rfl)
                have f115 := (show A.tmps.getD 115 undef = undef from (hfr 115 (noDstBut_spec (by kernel_rfl))).trans rfl)
                rw [hA, f12, f0, f1, f2, f3, f4, f5, f6, f7, f8, f9, f10, f11, f13, f14, f15, f16, f17, f18, f19, f20, f21, f22, f23, f24, f25, f26, f27, f28, f29, f30, f31, f32, f33, f34, f35, f36, f37, f38, f39, f40, f41, f42, f43, f44, f45, f46, f47, f48, f49, f50, f51, f52, f53, f54, f55, f56, f57, f58, f59, f60, f61, f76, f77, f78, f79, f80, f81, f82, f83, f84, f85, f86, f87, f88, f89, f90, f91, f92, f93, f94, f95, f96, f97, f98, f99, f100, f101, f102, f103, f104, f105, f106, f107, f108, f109, f110, f111, f112, f113, f114, f115, hdf2]
                clear hA hfr hcome hdf hdf2 hsz f12 f0 f1 f2 f3 f4 f5 f6 f7 f8 f9 f10 f11 f13 f14 f15 f16 f17 f18 f19 f20 f21 f22 f23 f24 f25 f26 f27 f28 f29 f30 f31 f32 f33 f34 f35 f36 f37 f38 f39 f40 f41 f42 f43 f44 f45 f46 f47 f48 f49 f50 f51 f52 f53 f54 f55 f56 f57 f58 f59 f60 f61 f76 f77 f78 f79 f80 f81 f82 f83 f84 f85 f86 f87 f88 f89 f90 f91 f92 f93 f94 f95 f96 f97 f98 f99 f100 f101 f102 f103 f104 f105 f106 f107 f108 f109 f110 f111 f112 f113 f114 f115
                generalize A.tmps.getD 62 undef = y62
                generalize A.tmps.getD 63 undef = y63
                generalize A.tmps.getD 64 undef = y64
                generalize A.tmps.getD 65 undef = y65
                generalize A.tmps.getD 66 undef = y66
                generalize A.tmps.getD 67 undef = y67
                generalize A.tmps.getD 68 undef = y68
                generalize A.tmps.getD 69 undef = y69
                generalize A.tmps.getD 70 undef = y70
                generalize A.tmps.getD 71 undef = y71
                generalize A.tmps.getD 72 undef = y72
                generalize A.tmps.getD 73 undef = y73
                generalize A.tmps.getD 74 undef = y74
                generalize A.tmps.getD 75 undef = y75
                clear hZ hbx hR hZg f75
                dsimp only
                obtain ⟨XS, hXS⟩ : ∃ XS, XS = Rp.all (PP ++ (Rp.ptsOf pn x).take q) := ⟨_, rfl⟩
                obtain ⟨M, hM⟩ : ∃ M, M = (PP ++ (Rp.ptsOf pn x).take q).length := ⟨_, rfl⟩
                have hXM : XS.length = M := by rw [hXS, hM]; exact Rp.all_length _
                have hM1 : M + 1 ≤ 1024 := by
                  have := HLe.out
                  rw [hM, List.length_append, List.length_take, hRL.out]
                  omega
                have hrow2 := HROW.out
                rw [← hXS, ← hM] at hrow2
                have rowZ := own_below hrow2 hZB
                have hb0 := hbl.size
                have hbis := hbi.size
                have hrlt := fun k e => (hrow2.lt k e).2
                have hrge := fun k e => (hrow2.lt k e).1
                have HFIN : Hid ((PP ++ (Rp.ptsOf pn x).take (q + 1)).length = M + 1 ∧ Rp.all (PP ++ (Rp.ptsOf pn x).take (q + 1)) = Rp.ins XS ((hh : Int), x.1)) := hidD (by
                  rw [HNX.out, ← List.append_assoc]
                  refine ⟨by rw [List.length_append, ← hM]; rfl, by rw [Rp.all_snoc, ← hXS]⟩)
                have HBI2 := hidD (Below.step hbi hZB)
                have hZs : w.heap.size ≤ Z.heap.size := (Below.step hbi hZB).size
                have hBlt : Bx < Z.heap.size := (Array.getElem?_eq_some_iff.1 hZb).1
                have hbx2 : w.heap.size ≤ Bx := by omega
                obtain ⟨ua, ucap, rfl⟩ : ∃ ua ucap, u9 = .slice ua M ucap := by
                  rcases rowZ.2 with ⟨rfl, h0⟩ | ⟨gg, cc, cur, rfl, _⟩
                  · exact ⟨none, 0, by rw [h0]⟩
                  · exact ⟨_, _, rfl⟩
                clear hrow2 hrow HROW hXS hM HOT hRL HLe hZB HI Q2
                go_wp2_with fail
                have mixed : Try.prog.follows .mixedOrders = true := by kernel_rfl
                go_loopw [13] (fun i wr => ∃ s : Nat, s ≤ M ∧ i = .int .i64 s ∧ Hid (∀ j, s ≤ j → j < M → Rp.lt ((hh : Int), x.1) (XS.getD j (0, 0)) = true) ∧ Below Z.heap.size Z wr) (fun i _ => (intOf i).toNat)
                case atStart => exact ⟨M, Nat.le_refl _, rfl, hidD (fun j h1 h2 => by omega), Below.refl _ _⟩
                case round =>
                  obtain ⟨s, hs, rfl, hA, hbz⟩ := hrel
                  obtain ⟨wz, rfl⟩ : ∃ wz, wz = wr := ⟨_, rfl⟩
                  have hbxz : wz.heap[Bx]? = some (.cells #[.int .u64 (hh : Int), .int .i64 x.1] 79 (0, 0)) := (hbz.block Bx hBlt).trans hZb
                  have rowz := own_below rowZ hbz
                  by_cases hgo : 0 < s ∧ Rp.lt ((hh : Int), x.1) (XS.getD (s - 1) (0, 0)) = true
                  · obtain ⟨hs0, hL0⟩ := hgo
                    obtain ⟨gg, rfl⟩ : ∃ gg, ua = some ⟨gg, 0, none⟩ := by
                      rcases rowZ.2 with ⟨e, h0⟩ | ⟨gg, cc, cur, e, _⟩
                      · omega
                      · cases e; exact ⟨gg, rfl⟩
                    obtain ⟨J, hJ⟩ : ∃ J, J = s - 1 := ⟨_, rfl⟩
                    have hgg : gg < wz.heap.size := (rowz.lt gg rfl).2
                    obtain ⟨R1, R2⟩ := rowP_get XS J (by omega)
                    have C1 : wz.cell? ⟨gg, J * 2, none⟩ = some (.int .u64 (XS.getD J (0, 0)).1) := by rw [rowz.cellAt (J * 2) (by omega)]; exact R1
                    have C2 : wz.cell? ⟨gg, J * 2 + 1, none⟩ = some (.int .i64 (XS.getD J (0, 0)).2) := by rw [rowz.cellAt (J * 2 + 1) (by omega)]; exact R2
                    have C3 : wz.cell? ⟨Bx, 0, none⟩ = some (.int .u64 (hh : Int)) := by simp [World.cell?, hbxz]
                    have C4 : wz.cell? ⟨Bx, 1, none⟩ = some (.int .i64 x.1) := by simp [World.cell?, hbxz]
                    have hBz : Bx < wz.heap.size := Nat.lt_of_lt_of_le hBlt hbz.size
                    have C1' : ∀ n os, (grow (wz.drewN n) os).cell? ⟨gg, J * 2, none⟩ = some (.int .u64 (XS.getD J (0, 0)).1) := fun n os => cell_grown hgg C1 n os
                    have C2' : ∀ n os, (grow (wz.drewN n) os).cell? ⟨gg, J * 2 + 1, none⟩ = some (.int .i64 (XS.getD J (0, 0)).2) := fun n os => cell_grown hgg C2 n os
                    have C3' : ∀ n os, (grow (wz.drewN n) os).cell? ⟨Bx, 0, none⟩ = some (.int .u64 (hh : Int)) := fun n os => cell_grown hBz C3 n os
                    have C4' : ∀ n os, (grow (wz.drewN n) os).cell? ⟨Bx, 1, none⟩ = some (.int .i64 x.1) := fun n os => cell_grown hBz C4 n os
                    have hb2 : ∀ W : World, Calls Try.prog 43 #[.agg #[.int .u64 (XS.getD J (0, 0)).1, .int .i64 (XS.getD J (0, 0)).2], .agg #[.int .u64 (hh : Int), .int .i64 x.1]] W fun e w' => e = .returned (.bool (Rp.lt ((hh : Int), x.1) (XS.getD J (0, 0)))) ∧ ∃ q os', w' = grow (W.drewN q) os' := fun W => (behind_any _ _ _ _ W).mono fun _ _ ⟨h1, os', h2⟩ => ⟨h1, 0, os', h2⟩
                    have i5 : (0 : Int) < (s : Int) := by omega
                    have i6 : (J : Int) < (M : Int) := by omega
                    have i4 : IntKind.i64.wrap ((s : Int) - 1) = (J : Int) := by rw [IntKind.wrap_i64]; omega
                    have HJ := hidD hJ
                    have HC1 := hidD R1
                    clear hJ R1 R2 C1 C2 C3 C4
                    have hL : Rp.lt ((hh : Int), x.1) (XS.getD J (0, 0)) = true := by rw [HJ.out]; exact hL0
                    clear hL0
                    rw [hL] at hb2
                    have hA2 : Hid (∀ j, J ≤ j → j < M → Rp.lt ((hh : Int), x.1) (XS.getD j (0, 0)) = true) := hidD (fun j h1 h2 => by
                      have := HJ.out
                      by_cases hj : j = J
                      · subst hj; exact hL
                      · exact hA.out j (by omega) h2)
                    clear hL hA
                    generalize XS.getD J (0, 0) = y at *
                    go_wp2_with fail
                    refine wp_region_quiet_grown (by assumption) (by kernel_rfl) ?_
                    repeat (go_big_quiet_step (first | (go_at_call 43; exact Calls.grown_of (hb2 _))))
                    refine wpQuiet_nil ?_
                    intro _ hw'
                    obtain ⟨⟨nq, osq⟩, hw''⟩ := hw'
                    subst hw''
                    have b5 := Below.step hbz (pbelow_grown wz nq osq)
                    clear hb2 hbz C1' C2' C3' C4' hbxz rowz
                    generalize grow (wz.drewN nq) osq = w5 at *
                    go_wp2
                    have hJ := HJ.out
                    exact ⟨⟨J, by omega, by go_num, hA2, b5⟩, by simp [intOf]; omega⟩
                  · have hat : Hid (Rp.at' XS ((hh : Int), x.1) = s) := hidD (Rp.at_is XS _ s (by omega) (fun j h1 h2 => hA.out j h1 (by omega)) (by
                      by_cases h0 : s = 0
                      · exact .inl h0
                      · refine .inr ?_
                        rw [← Bool.not_eq_true]
                        exact fun e => hgo ⟨by omega, e⟩))
                    go_upto_region 22 with fail
                    go_cut [88] (fun b wx => b = .bool false ∧ Below Z.heap.size Z wx)
                    case first =>
                      by_cases hs0 : 0 < s
                      · obtain ⟨gg, rfl⟩ : ∃ gg, ua = some ⟨gg, 0, none⟩ := by
                          rcases rowZ.2 with ⟨e, h0⟩ | ⟨gg, cc, cur, e, _⟩
                          · omega
                          · cases e; exact ⟨gg, rfl⟩
                        obtain ⟨J, hJ⟩ : ∃ J, J = s - 1 := ⟨_, rfl⟩
                        have hgg : gg < wz.heap.size := (rowz.lt gg rfl).2
                        obtain ⟨R1, R2⟩ := rowP_get XS J (by omega)
                        have C1 : wz.cell? ⟨gg, J * 2, none⟩ = some (.int .u64 (XS.getD J (0, 0)).1) := by rw [rowz.cellAt (J * 2) (by omega)]; exact R1
                        have C2 : wz.cell? ⟨gg, J * 2 + 1, none⟩ = some (.int .i64 (XS.getD J (0, 0)).2) := by rw [rowz.cellAt (J * 2 + 1) (by omega)]; exact R2
                        have C3 : wz.cell? ⟨Bx, 0, none⟩ = some (.int .u64 (hh : Int)) := by simp [World.cell?, hbxz]
                        have C4 : wz.cell? ⟨Bx, 1, none⟩ = some (.int .i64 x.1) := by simp [World.cell?, hbxz]
                        have hBz : Bx < wz.heap.size := Nat.lt_of_lt_of_le hBlt hbz.size
                        have C1' : ∀ n os, (grow (wz.drewN n) os).cell? ⟨gg, J * 2, none⟩ = some (.int .u64 (XS.getD J (0, 0)).1) := fun n os => cell_grown hgg C1 n os
                        have C2' : ∀ n os, (grow (wz.drewN n) os).cell? ⟨gg, J * 2 + 1, none⟩ = some (.int .i64 (XS.getD J (0, 0)).2) := fun n os => cell_grown hgg C2 n os
                        have C3' : ∀ n os, (grow (wz.drewN n) os).cell? ⟨Bx, 0, none⟩ = some (.int .u64 (hh : Int)) := fun n os => cell_grown hBz C3 n os
                        have C4' : ∀ n os, (grow (wz.drewN n) os).cell? ⟨Bx, 1, none⟩ = some (.int .i64 x.1) := fun n os => cell_grown hBz C4 n os
                        have hb2 : ∀ W : World, Calls Try.prog 43 #[.agg #[.int .u64 (XS.getD J (0, 0)).1, .int .i64 (XS.getD J (0, 0)).2], .agg #[.int .u64 (hh : Int), .int .i64 x.1]] W fun e w' => e = .returned (.bool (Rp.lt ((hh : Int), x.1) (XS.getD J (0, 0)))) ∧ ∃ q os', w' = grow (W.drewN q) os' := fun W => (behind_any _ _ _ _ W).mono fun _ _ ⟨h1, os', h2⟩ => ⟨h1, 0, os', h2⟩
                        have i5 : (0 : Int) < (s : Int) := by omega
                        have i6 : (J : Int) < (M : Int) := by omega
                        have i4 : IntKind.i64.wrap ((s : Int) - 1) = (J : Int) := by rw [IntKind.wrap_i64]; omega
                        have HJ := hidD hJ
                        have HC1 := hidD R1
                        clear hJ R1 R2 C1 C2 C3 C4
                        have hL : Rp.lt ((hh : Int), x.1) (XS.getD J (0, 0)) = false := by
                          rw [HJ.out, ← Bool.not_eq_true]
                          exact fun e => hgo ⟨hs0, e⟩
                        rw [hL] at hb2
                        clear hL hA
                        generalize XS.getD J (0, 0) = y at *
                        go_wp2_with fail
                        refine wp_region_quiet_grown (by assumption) (by kernel_rfl) ?_
                        repeat (go_big_quiet_step (first | (go_at_call 43; exact Calls.grown_of (hb2 _))))
                        refine wpQuiet_nil ?_
                        intro _ hw'
                        obtain ⟨⟨nq, osq⟩, hw''⟩ := hw'
                        subst hw''
                        have b5 := Below.step hbz (pbelow_grown wz nq osq)
                        clear hb2 hbz C1' C2' C3' C4' hbxz rowz
                        generalize grow (wz.drewN nq) osq = w5 at *
                        go_wp2
                        go_meet
                        exact ⟨rfl, b5⟩
                      · obtain rfl : s = 0 := by omega
                        have hd : decide ((0 : Int) < ((0 : Nat) : Int)) = false := rfl
                        go_wp2_with fail
                        refine wp_region_quiet_grown (by assumption) (by kernel_rfl) ?_
                        repeat (go_big_quiet_step (fail))
                        refine wpQuiet_nil ?_
                        intro _ hw'
                        obtain ⟨⟨nq, osq⟩, hw''⟩ := hw'
                        subst hw''
                        have b5 := Below.step hbz (pbelow_grown wz nq osq)
                        clear hbz hbxz rowz
                        generalize grow (wz.drewN nq) osq = w5 at *
                        go_wp2
                        go_meet
                        exact ⟨rfl, b5⟩
                    case rest =>
                      obtain ⟨rfl, b5⟩ := hcut
                      have hbxc : wc.heap[Bx]? = some (.cells #[.int .u64 (hh : Int), .int .i64 x.1] 79 (0, 0)) := (b5.block Bx hBlt).trans hZb
                      have rowc := own_below rowZ b5
                      have C3 : wc.cell? ⟨Bx, 0, none⟩ = some (.int .u64 (hh : Int)) := by simp [World.cell?, hbxc]
                      have C4 : wc.cell? ⟨Bx, 1, none⟩ = some (.int .i64 x.1) := by simp [World.cell?, hbxc]
                      have hBc : Bx < wc.heap.size := Nat.lt_of_lt_of_le hBlt b5.size
                      have hsc := b5.size
                      have BW := hidD (Below.step HBI2.out b5)
                      clear hgo hA hbz hbxz rowz b5 rowZ hZb
                      go_wp2_with (first | (at_builtin; refine wpList_append_own _ rfl _ _ 24 rfl w.heap.size 79 i0 _ 2 16 Try.underlying24 hi hz0 hz1 hz2 rfl (by decide) _ _ _ rfl (rowc.alloc _) ⟨wc.heap.size, 0, none⟩ 1 1 [.int .u64 (hh : Int), .int .i64 x.1] rfl rfl (cells_two _ _ _ _) (by simp [Value.oneCell']) (by unfold maxLen; omega) (by omega) (by simp; omega) ?_; intro v2 w6 hown' hgrow _; obtain ⟨g2, cap2, rfl⟩ := ownsRow_succ hown'))
                      have hgrow2 : (wc.alloc (.cells #[.int .u64 (hh : Int), .int .i64 x.1] 79)).grownBy w6 (Value.slice ua M ucap).ownBlock := hgrow
                      have hbx6 : w6.heap[Bx]? = some (.cells #[.int .u64 (hh : Int), .int .i64 x.1] 79 (0, 0)) := by
                        rw [hgrow2.block Bx (by simp; omega) (fun e => by have := hrlt Bx e.symm; omega), heap_alloc_lt _ _ _ hBc]
                        exact hbxc
                      have BW6 : Below w.heap.size w w6 := (BW.out.alloc (by omega) _).grown hgrow2 (by simp; omega) (fun k e => hrge k e)
                      have hg2 := (hown'.lt g2 rfl).1
                      have hne : M = 0 ∨ g2 ≠ Bx := by
                        by_cases hM0 : M = 0
                        · exact .inl hM0
                        · refine .inr fun e => ?_
                          rcases hown'.2 with ⟨h, _⟩ | ⟨g3, cap3, cur3, h, _, hgb, hle, _, hsz, _⟩
                          · cases h
                          · cases h
                            rw [e, hbx6] at hgb
                            cases hgb
                            simp at hsz
                            omega
                      obtain ⟨BB, hBB⟩ : ∃ BB, BB = XS ++ [((hh : Int), x.1)] := ⟨_, rfl⟩
                      have hBBl : BB.length = M + 1 := by rw [hBB]; simp [hXM]
                      have hown2 : w6.ownsRow w.heap.size 79 2 (.slice (some ⟨g2, 0, none⟩) (M + 1) cap2) (M + 1) (rowP BB) := by
                        rw [hBB, rowP_append]
                        exact hown'
                      have HBB := hidD hBB
                      have HNE := hidD hne
                      have HBX6 := hidD hbx6
                      have HBW6 := hidD BW6
                      clear hown' hgrow hgrow2 hbx6 BW6 hne hBB hbxc rowc C3 C4
                      go_loopw [14] (fun i wr => ∃ m : Nat, s ≤ m ∧ m ≤ M ∧ i = .int .i64 m ∧ (∃ ZL : List Rp.Pt, ZL.length = M + 1 ∧ Hid (∀ j, j ≤ M → ZL.getD j (0, 0) = if j ≤ m then BB.getD j (0, 0) else BB.getD (j - 1) (0, 0)) ∧ wr.ownsRow w.heap.size 79 2 (.slice (some ⟨g2, 0, none⟩) (M + 1) cap2) (M + 1) (rowP ZL)) ∧ w6.grownBy wr (some g2) ∧ Hid (M = 0 → w6 = wr)) (fun i _ => (intOf i).toNat)
                      case atStart => exact ⟨M, hs, Nat.le_refl _, by go_num, ⟨BB, hBBl, hidD (fun j hj => by rw [if_pos hj]), hown2⟩, ⟨rfl, rfl, rfl, Nat.le_refl _, fun _ _ _ => rfl⟩, hidD (fun _ => rfl)⟩
                      case round =>
                        clear hown2
                        obtain ⟨m, hsm, hmM, rfl, ⟨ZL, hZl, hZL, hrw⟩, hgr, hM0⟩ := hrel
                        by_cases hms : s < m
                        · obtain ⟨J, hJ⟩ : ∃ J, J = m - 1 := ⟨_, rfl⟩
                          obtain ⟨R1, R2⟩ := rowP_get ZL J (by omega)
                          obtain ⟨R3, R4⟩ := rowP_get ZL m (by omega)
                          have C1 : wr.cell? ⟨g2, J * 2, none⟩ = some (.int .u64 (ZL.getD J (0, 0)).1) := by rw [hrw.cellAt (J * 2) (by omega)]; exact R1
                          have C2 : wr.cell? ⟨g2, J * 2 + 1, none⟩ = some (.int .i64 (ZL.getD J (0, 0)).2) := by rw [hrw.cellAt (J * 2 + 1) (by omega)]; exact R2
                          have C3 : wr.cell? ⟨g2, m * 2, none⟩ = some (.int .u64 (ZL.getD m (0, 0)).1) := by rw [hrw.cellAt (m * 2) (by omega)]; exact R3
                          have C4 : wr.cell? ⟨g2, m * 2 + 1, none⟩ = some (.int .i64 (ZL.getD m (0, 0)).2) := by rw [hrw.cellAt (m * 2 + 1) (by omega)]; exact R4
                          have F3 := hrw.frozenAt (m * 2)
                          have F4 := hrw.frozenAt (m * 2 + 1)
                          have st1 := hrw.stored (m * 2) (.int .u64 (ZL.getD J (0, 0)).1)
                          have st2 := st1.1.stored (m * 2 + 1) (.int .i64 (ZL.getD J (0, 0)).2)
                          have hset : ((rowP ZL).set (m * 2) (.int .u64 (ZL.getD J (0, 0)).1)).set (m * 2 + 1) (.int .i64 (ZL.getD J (0, 0)).2) = rowP (ZL.set m (ZL.getD J (0, 0))) := (rowP_set ZL m (ZL.getD J (0, 0)) (by omega)).symm
                          have hr2 := st2.1
                          rw [hset] at hr2
                          have HR2 := hidD hr2
                          have hZ2 : Hid (∀ j, j ≤ M → (ZL.set m (ZL.getD J (0, 0))).getD j (0, 0) = if j ≤ J then BB.getD j (0, 0) else BB.getD (j - 1) (0, 0)) := hidD (fun j hj => by
                            by_cases hjm : j = m
                            · subst hjm
                              rw [getD_set_same _ _ _ (by omega), if_neg (by omega), hZL.out J (by omega), if_pos (by omega), hJ]
                            · rw [getD_set_other _ _ _ _ (Ne.symm hjm), hZL.out j hj]
                              by_cases h1 : j ≤ J
                              · rw [if_pos h1, if_pos (by omega)]
                              · rw [if_neg h1, if_neg (by omega)])
                          have hgr2 := grown_trans hgr (set2_grown wr g2 (m * 2) (m * 2 + 1) (.int .u64 (ZL.getD J (0, 0)).1) (.int .i64 (ZL.getD J (0, 0)).2))
                          have HGR := hidD hgr2
                          have HLL : Hid ((ZL.set m (ZL.getD J (0, 0))).length = M + 1) := hidD (by rw [List.length_set]; exact hZl)
                          have i1 : (s : Int) < (m : Int) := by omega
                          have i2 : (J : Int) < ((M + 1 : Nat) : Int) := by omega
                          have i3 : (m : Int) < ((M + 1 : Nat) : Int) := by omega
                          have i4 : IntKind.i64.wrap ((m : Int) - 1) = (J : Int) := by rw [IntKind.wrap_i64]; omega
                          have HJ := hidD hJ
                          clear hJ R1 R2 R3 R4 st1 st2 hset hr2 hgr2 hgr hZL hM0
                          generalize ZL.getD m (0, 0) = z at *
                          generalize ZL.set m (ZL.getD J (0, 0)) = ZL2 at *
                          generalize ZL.getD J (0, 0) = y at *
                          go_wp2
                          have hJ := HJ.out
                          exact ⟨⟨J, by omega, by omega, by go_num, ⟨ZL2, HLL.out, hZ2, HR2.out⟩, HGR.out, hidD (fun e => by omega)⟩, by simp [intOf]; omega⟩
                        · obtain rfl : s = m := by omega
                          have hbxr : wr.heap[Bx]? = some (.cells #[.int .u64 (hh : Int), .int .i64 x.1] 79 (0, 0)) := by
                            rcases HNE.out with h0 | h0
                            · rw [← hM0.out h0]; exact HBX6.out
                            · rw [hgr.block Bx (Array.getElem?_eq_some_iff.1 HBX6.out).1 (fun e => h0 (by cases e; rfl))]
                              exact HBX6.out
                          have D1 : wr.cell? ⟨Bx, 0, none⟩ = some (.int .u64 (hh : Int)) := by simp [World.cell?, hbxr]
                          have D2 : wr.cell? ⟨Bx, 1, none⟩ = some (.int .i64 x.1) := by simp [World.cell?, hbxr]
                          obtain ⟨R3, R4⟩ := rowP_get ZL s (by omega)
                          have C3 : wr.cell? ⟨g2, s * 2, none⟩ = some (.int .u64 (ZL.getD s (0, 0)).1) := by rw [hrw.cellAt (s * 2) (by omega)]; exact R3
                          have C4 : wr.cell? ⟨g2, s * 2 + 1, none⟩ = some (.int .i64 (ZL.getD s (0, 0)).2) := by rw [hrw.cellAt (s * 2 + 1) (by omega)]; exact R4
                          have F3 := hrw.frozenAt (s * 2)
                          have F4 := hrw.frozenAt (s * 2 + 1)
                          have st1 := hrw.stored (s * 2) (.int .u64 (hh : Int))
                          have st2 := st1.1.stored (s * 2 + 1) (.int .i64 x.1)
                          have hr2 := st2.1
                          rw [← rowP_set ZL s ((hh : Int), x.1) (by omega), shift_ins HBB.out hXM hat.out hZl hZL.out, ← HFIN.out.2] at hr2
                          have hl2 := HFIN.out.1
                          have hgr2 := grown_trans hgr (set2_grown wr g2 (s * 2) (s * 2 + 1) (.int .u64 (hh : Int)) (.int .i64 x.1))
                          have HR2 := hidD hr2
                          have HB2 := hidD (HBW6.out.grown hgr2 HBW6.out.size (fun k e => by cases e; exact hg2))
                          have i3 : (s : Int) < ((M + 1 : Nat) : Int) := by omega
                          have HL2 := hidD hl2
                          clear R3 R4 st1 st2 hr2 hgr2 hgr hZL hM0 hl2 HBX6 HNE hbxr hrw
                          generalize ZL.getD s (0, 0) = z at *
                          go_wp2
                          exact ⟨⟨q + 1, by omega, by go_num, by rw [HL2.out]; exact HR2.out, HB2.out⟩, by simp [intOf]; omega⟩
            · have hqe : q = EE := by omega
              subst hqe
              have ht : (Rp.ptsOf pn x).take q = Rp.ptsOf pn x := List.take_of_length_le (by rw [hRL.out]; omega)
              rw [ht, ← HPq.out] at hrow
              have HR := hidD hrow
              clear hrow ht
              go_wp2
              exact ⟨⟨ki + 1, by omega, by go_num, HR.out, hbi⟩, by simp [intOf]; omega⟩
        · have hke : l.take ki = l := List.take_of_length_le (by have := HN.out; omega)
          rw [hke] at hrow
          have HR := hidD hrow
          clear hrow hke
          go_wp2
          refine bodyPost_ret (results_tmp2 rfl _ _ _) rfl ?_
          exact ⟨_, rfl, HR.out, hbl⟩
end Go.Proofs.Ytcpcnajifdicmaa
