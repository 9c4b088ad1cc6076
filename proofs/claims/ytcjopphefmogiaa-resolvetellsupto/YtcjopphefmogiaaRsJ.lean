/- resolve: ResolveDiffs, ResolvePicks over contracts. -/
import Derived.Test.YtcjopphefmogiaaRsI
namespace Go.Proofs.Ytcjopphefmogiaa
open Go.RowKit
set_option linter.unusedVariables false
set_option maxRecDepth 20000

theorem same_ints (v1 v2 : Value) (l : List Int) (w : World) (hs1 : Seg .i64 w v1 l) (hs2 : Seg .i64 w v2 l) : Calls Try.prog 22 #[v1, v2] w fun e w' => e = .returned (.bool true) ∧ Below w.heap.size w w' :=
  (sameInts_any v1 v2 l l w hs1 hs2).mono (by rintro e w' ⟨h1, h2⟩; exact ⟨by rw [h1]; simp, h2⟩)
theorem Rv.diffs_ok {a b : Rv.S} (h : Rv.diffE a b = 0) : Rv.diffE b a = 0 ∧ Rv.diffE a a = 0 ∧ Rv.difG b a = Rv.difM a b ∧ Rv.difM b a = Rv.difG a b ∧ Rv.difO b a = Rv.difO a b ∧ Rv.difM a a = [] ∧ Rv.difG a a = [] ∧ Rv.difO a a = [] := by
  obtain ⟨ha, hb⟩ := Rv.diff_zero.1 h
  have h2 := Rv.diff_zero.2 ⟨hb, ha⟩
  have h3 := Rv.diff_zero.2 ⟨ha, ha⟩
  refine ⟨h2, h3, ?_, ?_, ?_, ?_, ?_, ?_⟩
  · rw [Rv.difG, if_pos h2, Rv.difM, if_pos h]
  · rw [Rv.difM, if_pos h2, Rv.difG, if_pos h]
  · rw [Rv.difO, if_pos h2, Rv.difO, if_pos h, Rv.other_sym hb ha]
  · rw [Rv.difM, if_pos h3, Rv.more_self ha]
  · rw [Rv.difG, if_pos h3, Rv.more_self ha]
  · rw [Rv.difO, if_pos h3, Rv.other_self ha]
theorem Rv.diffs_bad {a b : Rv.S} (h : ¬ Rv.diffE a b = 0) : ¬ Rv.diffE b a = 0 ∧ Rv.difM a b = [] ∧ Rv.difG a b = [] ∧ Rv.difO a b = [] ∧ Rv.difM b a = [] := by
  have h2 : ¬ Rv.diffE b a = 0 := fun e => h ((Rv.diff_sym a b).2 e)
  exact ⟨h2, if_neg h, if_neg h, if_neg h, if_neg h2⟩
set_option maxHeartbeats 16000000 in
theorem diffs_walk (AL : RAlive) (CD : RDif) (r u : Value) (s t : Rv.S) (w : World) (hs : BS w r s.l) (hu : BS w u t.l) :
    Calls Try.prog 6 #[vS r s.v, vS u t.v] w fun e w' => e = .returned (.bool true) ∧ Below w.heap.size w w' := by
  obtain ⟨W1, hW1, X1, B1, Z1⟩ := box_one w [.int .i64 s.v, r] 24
  obtain ⟨W2, hW2, X2, B2, Z2⟩ := box_one W1 [.int .i64 t.v, u] 24
  have C1 := X1.below B2
  have BB : Below w.heap.size w W2 := below_on B1 (by omega) B2
  have cal := AL W2
  have H1 := hidD (fun (W : World) (b : Below w.heap.size w W) => CD r u s t W (hs.below b) (hu.below b))
  have H2 := hidD (fun (W : World) (b : Below w.heap.size w W) => CD u r t s W (hu.below b) (hs.below b))
  have H3 := hidD (fun (W : World) (b : Below w.heap.size w W) => CD r r s s W (hs.below b) (hs.below b))
  have P := hidD (@Rv.diffs_ok s t)
  have Q := hidD (@Rv.diffs_bad s t)
  generalize Rv.difM s t = M1 at *
  generalize Rv.difG s t = G1 at *
  generalize Rv.difO s t = O1 at *
  generalize Rv.difM t s = M2 at *
  generalize Rv.difG t s = G2 at *
  generalize Rv.difO t s = O2 at *
  generalize Rv.difM s s = M3 at *
  generalize Rv.difG s s = G3 at *
  generalize Rv.difO s s = O3 at *
  generalize Rv.diffE s t = E1 at *
  generalize Rv.diffE t s = E2 at *
  generalize Rv.diffE s s = E3 at *
  obtain ⟨a, cap, rfl, _⟩ := id hs
  obtain ⟨a', cap', rfl, _⟩ := id hu
  obtain ⟨b, hb⟩ : ∃ b, b = w.heap.size := ⟨_, rfl⟩
  rw [Z1] at X2
  rw [← hb] at C1 X2 BB H1 H2 H3 ⊢
  have D1 := hidD C1
  have D2 := hidD X2
  have HB := hidD BB
  have HBZ : Hid (b ≤ W2.heap.size) := hidD (by omega)
  clear X1 C1 X2 B1 B2 BB Z1 Z2 hs hu
  obtain ⟨sv, sl⟩ := s
  obtain ⟨tv, tl⟩ := t
  dsimp only at *
  go_enter Try.func6, Try.ntmps6
  go_wp2_with fail
  rw [← hb, ← hW1, ← hW2]
  clear hb hW1 hW2
  with_reducible refine cal.mono ?_
  rintro e w1 ⟨rfl, b1⟩
  replace HB := hidD (below_on HB.out HBZ.out b1)
  replace HBZ := hidD (Nat.le_trans HBZ.out b1.size)
  replace D1 := hidD (D1.out.below b1)
  replace D2 := hidD (D2.out.below b1)
  clear cal b1
  have q0 := D1.out.cell 0 rfl
  have q1 := D1.out.cell 1 rfl
  have p0 := D2.out.cell 0 rfl
  have p1 := D2.out.cell 1 rfl
  go_wp2_with fail
  refine (H1.out w1 HB.out).mono ?_
  rintro e w2 ⟨x1, y1, z1, rfl, b2, k1, k2, k3⟩
  obtain ⟨ax1, cx1, rfl, _⟩ := id (Seg.own k1)
  obtain ⟨ay1, cy1, rfl, _⟩ := id (Seg.own k2)
  obtain ⟨az1, cz1, rfl, _⟩ := id (Seg.own k3)
  have S1 := hidD (Seg.own k1)
  have S2 := hidD (Seg.own k2)
  have S3 := hidD (Seg.own k3)
  replace HB := hidD (below_on HB.out HBZ.out b2)
  replace HBZ := hidD (Nat.le_trans HBZ.out b2.size)
  replace D1 := hidD (D1.out.below b2)
  replace D2 := hidD (D2.out.below b2)
  clear H1 b2 k1 k2 k3 q0 q1 p0 p1
  have q0 := D1.out.cell 0 rfl
  have q1 := D1.out.cell 1 rfl
  have p0 := D2.out.cell 0 rfl
  have p1 := D2.out.cell 1 rfl
  go_wp2_with fail
  refine (H2.out w2 HB.out).mono ?_
  rintro e w3 ⟨x2, y2, z2, rfl, b3, k1, k2, k3⟩
  obtain ⟨ax2, cx2, rfl, _⟩ := id (Seg.own k1)
  obtain ⟨ay2, cy2, rfl, _⟩ := id (Seg.own k2)
  obtain ⟨az2, cz2, rfl, _⟩ := id (Seg.own k3)
  have T1 := hidD (Seg.own k1)
  have T2 := hidD (Seg.own k2)
  have T3 := hidD (Seg.own k3)
  replace HB := hidD (below_on HB.out HBZ.out b3)
  replace HBZ := hidD (Nat.le_trans HBZ.out b3.size)
  replace D1 := hidD (D1.out.below b3)
  replace S1 := hidD (S1.out.below b3)
  replace S2 := hidD (S2.out.below b3)
  replace S3 := hidD (S3.out.below b3)
  clear H2 D2 b3 k1 k2 k3 q0 q1 p0 p1
  by_cases hE : E1 = 0
  case neg =>
    obtain ⟨e2, f1, f2, f3, f4⟩ := Q.out hE
    have hE1 : (E1 != 0) = true := by simpa using hE
    have hE2 : (E2 != 0) = true := by simpa using e2
    subst f1 f2 f3 f4
    rw [show ([] : List Int).length = 0 from rfl]
    clear P Q hE e2 H3 S1 S2 S3 T1 T2 T3
    go_wp2_with (first | (go_at_call 21; refine (num_any _ _).mono ?_; rintro e ww ⟨rfl, rfl⟩))
    go_ret
    exact ⟨by first | rfl | simp, HB.out⟩
  subst hE
  obtain ⟨e2, e3, f1, f2, f3, f4, f5, f6⟩ := P.out rfl
  subst e2 e3 f1 f2 f3 f4 f5 f6
  have q0 := D1.out.cell 0 rfl
  have q1 := D1.out.cell 1 rfl
  clear P Q
  go_wp2_with (first | (go_at_call 21; refine (num_any _ _).mono ?_; rintro e ww ⟨rfl, rfl⟩))
  refine (H3.out w3 HB.out).mono ?_
  rintro e w4 ⟨x3, y3, z3, rfl, b4, k1, k2, k3⟩
  obtain ⟨ax3, cx3, rfl, _⟩ := id (Seg.own k1)
  obtain ⟨ay3, cy3, rfl, _⟩ := id (Seg.own k2)
  obtain ⟨az3, cz3, rfl, _⟩ := id (Seg.own k3)
  rw [show ([] : List Int).length = 0 from rfl]
  replace HB := hidD (below_on HB.out HBZ.out b4)
  replace HBZ := hidD (Nat.le_trans HBZ.out b4.size)
  replace S1 := hidD (S1.out.below b4)
  replace S2 := hidD (S2.out.below b4)
  replace S3 := hidD (S3.out.below b4)
  replace T1 := hidD (T1.out.below b4)
  replace T2 := hidD (T2.out.below b4)
  replace T3 := hidD (T3.out.below b4)
  clear H3 D1 b4 k1 k2 k3 q0 q1
  have c1 := same_ints _ _ _ w4 S1.out T2.out
  go_wp2_with (first | (go_at_call 21; refine (num_any _ _).mono ?_; rintro e ww ⟨rfl, rfl⟩))
  with_reducible refine c1.mono ?_
  rintro e w5 ⟨rfl, b5⟩
  replace HB := hidD (below_on HB.out HBZ.out b5)
  replace HBZ := hidD (Nat.le_trans HBZ.out b5.size)
  have c2 := same_ints _ _ _ w5 (S2.out.below b5) (T1.out.below b5)
  replace S3 := hidD (S3.out.below b5)
  replace T3 := hidD (T3.out.below b5)
  clear c1 b5 S1 S2 T1 T2
  go_wp2_with fail
  with_reducible refine c2.mono ?_
  rintro e w6 ⟨rfl, b6⟩
  replace HB := hidD (below_on HB.out HBZ.out b6)
  replace HBZ := hidD (Nat.le_trans HBZ.out b6.size)
  have c3 := same_ints _ _ _ w6 (S3.out.below b6) (T3.out.below b6)
  clear c2 b6 S3 T3
  go_wp2_with fail
  with_reducible refine c3.mono ?_
  rintro e w7 ⟨rfl, b7⟩
  replace HB := hidD (below_on HB.out HBZ.out b7)
  clear c3 b7
  go_wp2_with fail
  go_ret
  exact ⟨by first | rfl | simp, HB.out⟩
theorem Rv.picks_ok {s : Rv.S} (h : Rv.chk s = 0) : Rv.pickE s (Rv.idsR s) = 0 ∧ Rv.pick s (Rv.idsR s) = s.l ∧ (Rv.idsR s).length ≤ 32 ∧ (∀ i ∈ Rv.idsR s, -9223372036854775808 ≤ i ∧ i ≤ 9223372036854775807) ∧ Rv.sumR s = (s.l.map (·.2)).sum ∧ s.l.length ≤ 32 := by
  obtain ⟨h1, h2⟩ := Rv.pick_all h
  have e : Rv.idsR s = Rv.ids s := if_pos h
  have g := (Rv.good h).1
  rw [e]
  refine ⟨h1, h2, ?_, ?_, if_pos h, g.few⟩
  · unfold Rv.ids; rw [List.length_map]; exact g.few
  · intro i hi
    obtain ⟨b, hb, rfl⟩ := List.mem_map.1 hi
    have := g.pos b hb
    omega
theorem wf_range {n : Int} (h : -9223372036854775808 ≤ n ∧ n ≤ 9223372036854775807) : (Lit.int .i64 n).wf = true := by
  have e1 : IntKind.i64.min = -9223372036854775808 := rfl
  have e2 : IntKind.i64.max = 9223372036854775807 := rfl
  simp only [Lit.wf, Bool.and_eq_true, decide_eq_true_iff, e1, e2]
  exact h
set_option maxHeartbeats 16000000 in
theorem picks_walk (AL : RAlive) (CI : RIds) (CP : RPik) (CS : RSum) (r : Value) (s : Rv.S) (w : World) (hs : BS w r s.l) :
    Calls Try.prog 7 #[vS r s.v] w fun e w' => e = .returned (.bool true) ∧ Below w.heap.size w w' := by
  obtain ⟨W1, hW1, X1, B1, Z1⟩ := box_one w [.int .i64 s.v, r] 24
  have cal := AL W1
  have H1 := hidD (fun (W : World) (b : Below w.heap.size w W) => CI r s W (hs.below b))
  have H2 : Hid (∀ (W : World) (b : Below w.heap.size w W) (x : Value), Seg .i64 W x (Rv.idsR s) → (Rv.idsR s).length ≤ 1048576 → (∀ i ∈ Rv.idsR s, (Lit.int .i64 i).wf = true) → Calls Try.prog 16 #[vS r s.v, x] W fun e w' => ∃ x, e = .returned (.tuple #[x, .int .i64 (Rv.pickE s (Rv.idsR s))]) ∧ Below W.heap.size W w' ∧ OB w' W.heap.size x (Rv.pick s (Rv.idsR s))) := hidD (fun W b x h1 h2 h3 => CP r x s (Rv.idsR s) W (hs.below b) h1 h2 h3)
  have H3 := hidD (fun (W : World) (b : Below w.heap.size w W) => CS r s W (hs.below b))
  have HV := hidD (fun (W : World) (b : Below w.heap.size w W) => hs.below b)
  have P := hidD (@Rv.picks_ok s)
  have P2 := hidD (fun h k hk => Rv.sum_part (s := s) h k hk)
  have Q : Hid (¬ Rv.chk s = 0 → Rv.idsR s = []) := hidD (fun h => if_neg h)
  generalize Rv.pickE s (Rv.idsR s) = pE at *
  generalize Rv.pick s (Rv.idsR s) = pR at *
  generalize Rv.idsR s = I at *
  generalize Rv.sumR s = sR at *
  generalize Rv.chk s = ck at *
  obtain ⟨a, cap, rfl, _⟩ := id hs
  obtain ⟨b, hb⟩ : ∃ b, b = w.heap.size := ⟨_, rfl⟩
  rw [← hb] at X1 B1 H1 H2 H3 HV ⊢
  have D1 := hidD X1
  have HB := hidD B1
  have HBZ : Hid (b ≤ W1.heap.size) := hidD (by omega)
  clear X1 B1 Z1 hs
  obtain ⟨sv, sl⟩ := s
  dsimp only at *
  go_enter Try.func7, Try.ntmps7
  go_wp2_with fail
  rw [← hb, ← hW1]
  clear hb hW1
  with_reducible refine cal.mono ?_
  rintro e w1 ⟨rfl, b1⟩
  replace HB := hidD (below_on HB.out HBZ.out b1)
  replace HBZ := hidD (Nat.le_trans HBZ.out b1.size)
  replace D1 := hidD (D1.out.below b1)
  clear cal b1
  have q0 := D1.out.cell 0 rfl
  have q1 := D1.out.cell 1 rfl
  go_wp2_with fail
  refine (H1.out w1 HB.out).mono ?_
  rintro e w2 ⟨x1, rfl, b2, k1⟩
  obtain ⟨ax1, cx1, rfl, _⟩ := id (Seg.own k1)
  have S1 := hidD (Seg.own k1)
  replace HB := hidD (below_on HB.out HBZ.out b2)
  replace HBZ := hidD (Nat.le_trans HBZ.out b2.size)
  replace D1 := hidD (D1.out.below b2)
  clear H1 b2 k1 q0 q1
  by_cases hE : ck = 0
  case neg =>
    have f1 := Q.out hE
    have hE1 : (ck != 0) = true := by simpa using hE
    subst f1
    rw [show ([] : List Int).length = 0 from rfl]
    clear P P2 Q hE H2 H3 S1
    go_wp2_with (first | (go_at_call 21; refine (num_any _ _).mono ?_; rintro e ww ⟨rfl, rfl⟩))
    go_ret
    exact ⟨by first | rfl | simp, HB.out⟩
  subst hE
  obtain ⟨f1, f2, f3, f4, f5, f6⟩ := P.out rfl
  have P3 := hidD (P2.out rfl)
  subst f1 f2
  have hsl := (P3.out pR.length (Nat.le_refl _)).2
  rw [List.take_length] at hsl
  replace f5 := hidD f5
  have c2 := H2.out w2 HB.out _ S1.out (by omega) (fun i hi => wf_range (f4 i hi))
  have q0 := D1.out.cell 0 rfl
  have q1 := D1.out.cell 1 rfl
  clear P P2 Q f4 H2 S1
  go_wp2_with (first | (go_at_call 21; refine (num_any _ _).mono ?_; rintro e ww ⟨rfl, rfl⟩))
  refine c2.mono ?_
  rintro e w3 ⟨x2, rfl, b3, k2⟩
  obtain ⟨ax2, cx2, rfl, _, d2, _⟩ := id (OB.ts k2)
  have c3 := H3.out w3 (below_on HB.out HBZ.out b3)
  have T1 := hidD (OB.ts k2)
  replace HB := hidD (below_on HB.out HBZ.out b3)
  replace HBZ := hidD (Nat.le_trans HBZ.out b3.size)
  replace D1 := hidD (D1.out.below b3)
  clear c2 b3 k2 q0 q1 H3
  have q0 := D1.out.cell 0 rfl
  have q1 := D1.out.cell 1 rfl
  go_wp2_with fail
  with_reducible refine c3.mono ?_
  rintro e w4 ⟨rfl, b4⟩
  replace HB := hidD (below_on HB.out HBZ.out b4)
  replace HBZ := hidD (Nat.le_trans HBZ.out b4.size)
  replace D1 := hidD (D1.out.below b4)
  replace T1 := hidD (T1.out.below b4)
  clear c3 b4 q0 q1
  have q0 := D1.out.cell 0 rfl
  have q1 := D1.out.cell 1 rfl
  obtain ⟨n, hn⟩ : ∃ n, n = pR.length := ⟨_, rfl⟩
  rw [← hn] at f6 T1 q1 P3 HV ⊢
  replace hn := hidD hn
  unfold maxLen at d2
  go_wp2_with fail
  go_loopw [7, 9] (fun m i wr => ∃ k : Nat, k ≤ n ∧ m = .int .i64 (sR - ((pR.take k).map (·.2)).sum) ∧ i = .int .i64 k ∧ w4 = wr) (fun _ i _ => n - (intOf i).toNat)
  case atStart => exact ⟨0, Nat.zero_le _, by simp, rfl, rfl⟩
  case round =>
    obtain ⟨k, hk, rfl, rfl, rfl⟩ := hrel
    by_cases hlt : k < n
    · obtain ⟨g, off, rfl, hg, hcell⟩ := BS.at T1.out k (by have := hn.out; omega)
      obtain ⟨_, t2⟩ := hcell k (by have := hn.out; omega)
      have i1 : (k : Int) < (n : Int) := by omega
      have hkw : IntKind.i64.wrap ((k : Int) + 1) = (k : Int) + 1 := by rw [IntKind.wrap_i64]; omega
      have HN := hidD (Rv.sum_next pR k (by have := hn.out; omega))
      have r1 := P3.out k (by have := hn.out; omega)
      have r2 := P3.out (k + 1) (by have := hn.out; omega)
      have r3 := P3.out n (by have := hn.out; omega)
      have e5 := f5.out
      rw [show pR.take n = pR from List.take_of_length_le (by have := hn.out; omega), ← e5] at r3
      rw [HN.out] at r2
      clear hcell hsl e5
      generalize (Rv.g pR k).2 = x at *
      generalize ((pR.take k).map (·.2)).sum = y at *
      have hyw : IntKind.i64.wrap (sR - y - x) = sR - y - x := wrap_ok (by omega) (by omega)
      clear r1 r2 r3
      go_wp2_with fail
      exact ⟨⟨k + 1, by omega, by rw [HN.out, Int.sub_sub], by go_num, (by first | rfl | trivial)⟩, by simp [intOf]; omega⟩
    · have hkn : k = n := by omega
      have e5 : sR - ((pR.take k).map (·.2)).sum = 0 := by
        rw [show pR.take k = pR from List.take_of_length_le (by have := hn.out; omega), f5.out]
        omega
      rw [e5]
      have i1 : ¬ (k : Int) < (n : Int) := by omega
      have cB := bsame_true _ _ pR w4 T1.out (HV.out w4 HB.out)
      clear e5 hsl P3 f5
      go_wp2_with (first | (go_at_call 21; refine (num_any _ _).mono ?_; rintro e ww ⟨rfl, rfl⟩))
      with_reducible refine cB.mono ?_
      rintro e w5 ⟨rfl, b5⟩
      have H5 := hidD (below_on HB.out HBZ.out b5)
      clear cB b5
      go_wp2_with fail
      go_ret
      exact ⟨by first | rfl | simp, H5.out⟩
end Go.Proofs.Ytcjopphefmogiaa
