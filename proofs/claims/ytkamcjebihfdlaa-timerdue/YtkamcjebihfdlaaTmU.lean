/- timers: Add (the code's). -/
import Derived.Test.YtkamcjebihfdlaaTmQ
import Derived.Test.YtkamcjebihfdlaaTmI
namespace Go.Proofs.Ytkamcjebihfdlaa
open Go.RowKit
set_option linter.unusedVariables false
set_option maxRecDepth 20000

theorem ms_not_row {X : World} {B b n z : Nat} {U : List Int} {v : Value} {l : List Ti.T} (h : MS X b n z U) (row : OT X B v l) : v.ownBlock ≠ some b := by
  obtain ⟨D, ⟨es, ck, h, _⟩, _, _⟩ := h
  rcases row.2 with ⟨rfl, _⟩ | ⟨g, cap, cur, rfl, _, hgb, _⟩
  · intro e; cases e
  · intro e
    have : g = b := by simpa [Value.ownBlock] using e
    subst this
    rw [h] at hgb
    cases hgb
theorem Ti.meet_mem (U : List Int) (x i : Int) : i ∈ Ti.meet U x ↔ i ∈ U ∨ i = x := by
  unfold Ti.meet
  split
  · rename_i h
    constructor
    · exact .inl
    · rintro (k | rfl)
      · exact k
      · exact h
  · simp
theorem Ti.put_ids {O : List Ti.T} {x : Ti.T} {U : List Int} (h : ∀ i, i ∈ U ↔ ∃ y ∈ O, y.id' = i) : ∀ i, i ∈ Ti.meet U x.id' ↔ ∃ y ∈ Ti.put O x, y.id' = i := by
  intro i
  rw [Ti.meet_mem, h]
  constructor
  · rintro (⟨y, hy, e⟩ | rfl)
    · exact ⟨y, (Ti.put_perm O x).mem_iff.2 (List.mem_cons_of_mem _ hy), e⟩
    · exact ⟨x, (Ti.put_perm O x).mem_iff.2 List.mem_cons_self, rfl⟩
  · rintro ⟨y, hy, e⟩
    rcases List.mem_cons.1 ((Ti.put_perm O x).mem_iff.1 hy) with rfl | hy
    · exact .inr e.symm
    · exact .inl ⟨y, hy, e⟩
set_option maxHeartbeats 16000000 in
theorem add_any (v u : Value) (l more : List Ti.T) (w : World) (hs : TS w v l) (hm : TS w u more) (hlen : l.length ≤ 8796093022208) :
    Calls Try.prog 10 #[v, u] w fun e w' => ∃ r, e = .returned (.tuple #[r, .int .i64 (Ti.addE l more)]) ∧ Below w.heap.size w w' ∧ OT w' w.heap.size r (Ti.addR l more) := by
  have CK := check_any v l w hs
  have CO := hidD (fun (W : World) (b : Below w.heap.size w W) => clone_t v l W (hs.below b) hlen)
  have CI : Hid (Ti.chkE l = 0 → ∀ W, Below w.heap.size w W → Calls Try.prog 28 #[v] W fun e w' => e = .returned (.map (some W.heap.size)) ∧ MS w' W.heap.size l.length (Ti.uq l).length (Ti.uq l) ∧ Below W.heap.size W w') := hidD fun h W b => ids_any v l W (hs.below b) (fun x hx => Ti.wf_may (List.all_eq_true.1 (Ti.chk_zero h).2.1 x hx)) (by have := (Ti.chk_zero h).1; omega)
  have HM := hidD (fun (W : World) (b : Below w.heap.size w W) => hm.below b)
  have A0 : Hid (Ti.chkE l = 0 → Ti.addE l more = (Ti.addGo l more).2 ∧ Ti.addR l more = (Ti.addGo l more).1) := hidD (fun h => ⟨if_pos h, if_pos h⟩)
  have A1 : Hid (¬ Ti.chkE l = 0 → Ti.addE l more = Ti.chkE l ∧ Ti.addR l more = []) := hidD (fun h => ⟨if_neg h, if_neg h⟩)
  have AL := hidD (@Ti.chk_zero l)
  generalize Ti.addE l more = E at *
  generalize Ti.addR l more = R at *
  obtain ⟨ck, hck⟩ : ∃ ck, ck = Ti.chkE l := ⟨_, rfl⟩
  rw [← hck] at CK A0 A1 AL CI
  clear hck
  obtain ⟨a, cap, rfl, a1, a2, _, _⟩ := id hs
  obtain ⟨b, cap', rfl, b1, b2, _, _⟩ := id hm
  unfold maxLen at a2 b2
  obtain ⟨M, hM⟩ : ∃ M, M = more.length := ⟨_, rfl⟩
  rw [← hM] at b1 HM ⊢
  replace hM := hidD hM
  obtain ⟨B, hB⟩ : ∃ B, B = w.heap.size := ⟨_, rfl⟩
  rw [← hB] at CK CO HM CI ⊢
  replace hB := hidD hB
  clear hs hm
  go_enter Try.func10, Try.ntmps10
  go_wp2_with fail
  with_reducible refine CK.mono ?_
  rintro e w1 ⟨rfl, h1⟩
  have HB := hidD h1
  have HBS : Hid (B ≤ w1.heap.size) := hidD (by rw [hB.out]; exact h1.size)
  clear CK h1
  by_cases hk0 : ck = 0
  case neg =>
    obtain ⟨hE, hR⟩ := A1.out hk0
    subst hE hR
    have hk1 : (E != 0) = true := by simp [hk0]
    clear A0 A1 AL hk0 CI CO
    go_wp2_with fail
    go_ret2
    exact ⟨_, rfl, HB.out, World.ownsRow_nil _ _ _ _⟩
  subst hk0
  obtain ⟨hE, hR⟩ := A0.out rfl
  have hL := (AL.out rfl).1
  clear A0 A1 AL
  replace CI := hidD (CI.out rfl)
  have cO := CO.out w1 HB.out
  clear CO
  obtain ⟨G, hG⟩ : ∃ G, G = Ti.addGo l more := ⟨_, rfl⟩
  rw [← hG] at hE hR
  replace hG := hidD hG
  replace hE := hidD hE
  replace hR := hidD hR
  go_wp2_with fail
  refine cO.mono ?_
  rintro e w2 ⟨v7, rfl, o2, h2⟩
  have HO2 : Hid (OT w2 B v7 l) := hidD (own_lower' o2 HBS.out)
  replace HB := hidD (below_on HB.out HBS.out h2)
  replace HBS := hidD (Nat.le_trans HBS.out h2.size)
  have cI := CI.out w2 HB.out
  clear o2 h2 cO CI
  obtain ⟨a7, c7, rfl, _⟩ := id HO2.out.ts
  go_wp2_with fail
  with_reducible refine cI.mono ?_
  rintro e w3 ⟨rfl, m3, h3⟩
  have HO3 : Hid (OT w3 B (.slice a7 l.length c7) l) := hidD (own_below HO2.out h3)
  have HB3 := hidD (below_on HB.out HBS.out h3)
  have HBS3 := hidD (Nat.le_trans HBS.out h3.size)
  have M3 := hidD m3
  have U3 := hidD (Ti.uq_mem l)
  clear HO2 HB m3 h3 cI
  generalize Ti.uq l = U0 at *
  have HBM : Hid (B ≤ w2.heap.size) := HBS
  generalize w2.heap.size = bm at *
  clear HBS
  go_wp2_with fail
  go_loopw [7, 24] (fun s i wr => ∃ (k : Nat) (O : List Ti.T) (U : List Int), k ≤ M ∧ i = .int .i64 (k : Int) ∧ Hid (OT wr B s O ∧ O.length ≤ 1024 ∧ Ti.addGo O (more.drop k) = G ∧ Below B w wr ∧ B ≤ wr.heap.size ∧ MS wr bm O.length U.length U ∧ (∀ i, i ∈ U ↔ ∃ y ∈ O, y.id' = i))) (fun _ i _ => M - (intOf i).toNat)
  case atStart => exact ⟨0, l, U0, Nat.zero_le _, rfl, hidD ⟨HO3.out, hL, by rw [List.drop_zero]; exact hG.out.symm, HB3.out, HBS3.out, M3.out, U3.out⟩⟩
  case round =>
    clear HO3 HB3 HBS3 M3 U3
    obtain ⟨k, O, U, hk, rfl, hJ⟩ := hrel
    obtain ⟨j1, j2, j3, j4, j5, j6, j7⟩ := hJ.out
    obtain ⟨a7, c7, rfl, d1, d2, _, _⟩ := id j1.ts
    unfold maxLen at d2
    by_cases hlt : k < M
    · have hd := Ti.drop_at (l := more) (k := k) (by have := hM.out; omega)
      rw [hd] at j3
      clear hd
      obtain ⟨g1, g2, g3, g4⟩ := Ti.addGo_cons O (Ti.g more k) (more.drop (k + 1))
      rw [j3] at g1 g2 g3 g4
      replace g1 := hidD g1
      replace g2 := hidD g2
      replace g3 := hidD g3
      replace g4 := hidD g4
      have hi : (k : Int) < (M : Int) := by omega
      have hkw : IntKind.i64.wrap ((k : Int) + 1) = (k : Int) + 1 := by rw [IntKind.wrap_i64]; omega
      obtain ⟨gm, off, rfl, hgm, hcell⟩ := TS.at (HM.out wr j4) k (by have := hM.out; omega)
      obtain ⟨t1, t2⟩ := hcell k (by have := hM.out; omega)
      obtain ⟨n, hn⟩ : ∃ n, n = O.length := ⟨_, rfl⟩
      have HNR := hidD (ms_not_row j6 j1)
      have HLB := hidD j6.lt
      have J2 := hidD j2
      have J5 := hidD j5
      have J7 := hidD j7
      obtain ⟨x, hx⟩ : ∃ x, x = Ti.g more k := ⟨_, rfl⟩
      rw [← hx] at g2 g3 g4 t1 t2
      replace hx := hidD hx
      obtain ⟨xa, xi⟩ := x
      dsimp only at t1 t2
      have hb0 := (Below.refl wr.heap.size wr).alloc (Nat.le_refl _) (.cells #[.int .i64 xa, .int .i64 xi] 31)
      have J1 : Hid (OT (wr.alloc (.cells #[.int .i64 xa, .int .i64 xi] 31)) B (.slice a7 O.length c7) O) := hidD (own_below j1 hb0)
      have J4 := hidD (below_on j4 j5 hb0)
      have J6 := hidD (j6.below hb0)
      have X1 := hidD (Bo.new wr [.int .i64 xa, .int .i64 xi] 31)
      have JS := hidD (Nat.le_trans j5 hb0.size)
      rw [← hn] at j2 d1 g1 g2 g3 g4 J1 J6 HNR ⊢
      replace hn := hidD hn
      clear j1 j3 j4 j5 j6 j7 hJ hcell hb0
      by_cases hn1 : n = 1024
      · have hr := g1.out hn1
        rw [hr] at hE hR
        have hE2 := hE.out
        have hR2 := hR.out
        dsimp only at hE2 hR2
        subst hE2 hR2 hn1
        clear g1 g2 g3 g4 hr hE hR
        go_wp2_with fail
        go_ret2
        exact ⟨_, rfl, J4.out, World.ownsRow_nil _ _ _ _⟩
      have hn2 : ((n : Int) == 1024) = false := by simp; omega
      have cM := within_t ⟨xa, xi⟩ (wr.alloc (.cells #[.int .i64 xa, .int .i64 xi] 31))
      have HWF := hidD (fun h => Ti.wf_may (x := ⟨xa, xi⟩) h)
      obtain ⟨y, hy⟩ : ∃ y, y = Ti.may ⟨xa, xi⟩ := ⟨_, rfl⟩
      rw [← hy] at cM g2 g3 g4 HWF
      clear hy
      go_wp2_with fail
      generalize wr.alloc (.cells #[.int .i64 xa, .int .i64 xi] 31) = wa at *
      generalize wr.heap.size = bx at *
      with_reducible refine cM.mono ?_
      rintro e w4 ⟨rfl, h4⟩
      have K1 : Hid (OT w4 B (.slice a7 n c7) O) := hidD (own_below J1.out h4)
      have K4 := hidD (below_on J4.out JS.out h4)
      have K5 := hidD (Nat.le_trans JS.out h4.size)
      have K6 := hidD (J6.out.below h4)
      have KX : Hid (Bo w4 bx [.int .i64 xa, .int .i64 xi] 31) := hidD (X1.out.below h4)
      clear cM h4 t1 t2 J1 J4 JS J6 X1
      cases y
      · have hr := g2.out hn1 rfl
        rw [hr] at hE hR
        have hE2 := hE.out
        have hR2 := hR.out
        dsimp only at hE2 hR2
        subst hE2 hR2
        clear g1 g2 g3 g4 hr hE hR K1 K6 KX
        go_wp2_with fail
        go_ret2
        exact ⟨_, rfl, K4.out, World.ownsRow_nil _ _ _ _⟩
      replace g3 := hidD (g3.out hn1 rfl)
      replace g4 := hidD (g4.out hn1 rfl)
      replace HWF := hidD (HWF.out rfl)
      clear g1 g2
      obtain ⟨D, hown, hhas, hsz⟩ := K6.out
      have hh := hhas xi HWF.out
      have HOW := hidD hown
      have HHAS := hidD hhas
      have HSZ := hidD hsz
      have q1 := KX.out.cell 0 rfl
      have q2 := KX.out.cell 1 rfl
      clear hown hhas hsz
      by_cases hin : xi ∈ U
      · rw [decide_eq_true hin] at hh
        have hr := g3.out (by
          obtain ⟨z, hz, e⟩ := (J7.out xi).1 hin
          rw [List.any_eq_true]
          exact ⟨z, hz, decide_eq_true e⟩)
        rw [hr] at hE hR
        have hE2 := hE.out
        have hR2 := hR.out
        dsimp only at hE2 hR2
        subst hE2 hR2
        have KB := hidD (K4.out.alloc K5.out (.cells #[] 60))
        clear g3 g4 hr hE hR K1 K4 K6 hin
        go_wp2_with (first | (at_lookup; refine wpList_lookup_own_unit _ rfl _ _ 57 rfl 3 60 (Maps.int_keyed Try.underlying3) Try.underlying57 zeroU bm n D rfl HOW.out _ _ rfl (Maps.keyOf_int_mk Try.underlying3 HWF.out) ?_; rw [hh]))
        go_ret2
        exact ⟨_, rfl, KB.out, World.ownsRow_nil _ _ _ _⟩
      · rw [decide_eq_false hin] at hh
        have HGO := hidD (g4.out (by
          rw [← Bool.not_eq_true, List.any_eq_true]
          rintro ⟨z, hz, e⟩
          exact hin ((J7.out xi).2 ⟨z, hz, of_decide_eq_true e⟩)))
        have hb5 := (Below.refl w4.heap.size w4).alloc (Nat.le_refl _) (.cells #[] 60)
        have L1 : Hid (OT (w4.alloc (.cells #[] 60)) B (.slice a7 n c7) O) := hidD (own_below K1.out hb5)
        have L4 := hidD (below_on K4.out K5.out hb5)
        have L5 := hidD (Nat.le_trans K5.out hb5.size)
        have LX : Hid (Bo (w4.alloc (.cells #[] 60)) bx [.int .i64 xa, .int .i64 xi] 31) := hidD (KX.out.below hb5)
        have LO := hidD (HOW.out.alloc (.cells #[] 60))
        have hnm : n < maxLen := by unfold maxLen; omega
        have LQ1 := LX.out.cell 0 rfl
        have LQ2 := LX.out.cell 1 rfl
        clear g3 g4 K1 K4 K6 hb5 hin
        go_wp2_with (first | (at_lookup; refine wpList_lookup_own_unit _ rfl _ _ 57 rfl 3 60 (Maps.int_keyed Try.underlying3) Try.underlying57 zeroU bm n D rfl HOW.out _ _ rfl (Maps.keyOf_int_mk Try.underlying3 HWF.out) ?_; rw [hh]) | (at_mapUpdate; refine wpList_mapUpdate_own _ rfl _ _ _ 57 rfl 3 60 (Maps.int_keyed Try.underlying3) Try.underlying57 unitElem bm n D rfl LO.out hnm _ _ _ rfl rfl (Maps.keyOf_int_mk Try.underlying3 HWF.out) (.agg []) [] unitElem_mk ?_; intro w6 hown6 hg6; have HO6 := hidD hown6; have HG6 := hidD hg6; have X6 : Bo w6 bx [.int .i64 xa, .int .i64 xi] 31 := (hg6.block bx LX.out.lt (fun e => by cases e; have := HLB.out; omega)).trans LX.out; have p1 := X6.cell 0 rfl; have p2 := X6.cell 1 rfl; clear hown6 hg6 X6 q1 q2 LQ1 LQ2))
        have P1 : OT w6 B (.slice a7 n c7) O := L1.out.kept HG6.out (.inr HNR.out)
        have P4 : Below B w w6 := L4.out.grown HG6.out L5.out (fun j e => by cases e; have := HBM.out; omega)
        have P5 : B ≤ w6.heap.size := Nat.le_trans L5.out HG6.out.size
        have P6 : MS w6 bm (n + 1) (Ti.meet U xi).length (Ti.meet U xi) := ms_put HWF.out HOW.out HHAS.out HSZ.out HO6.out
        have cP := put_any B (.slice a7 n c7) O ⟨xa, xi⟩ w6 P1 P5 (by have := hn.out; omega)
        have R4 := hidD P4
        have h5z := hidD P5
        have R6 := hidD P6
        clear P1 P4 P5 P6 L1 L4 L5 LX LO HO6 HG6 HHAS HSZ HOW
        refine cP.mono ?_
        rintro e w7 ⟨v', rfl, o7, h7, g7⟩
        have S4 := hidD (below_then R4.out h7)
        have S5 := hidD (Nat.le_trans h5z.out h7.size)
        have S1 := hidD o7
        have S2 : Hid ((Ti.put O ⟨xa, xi⟩).length = n + 1) := hidD (by rw [Ti.put_len]; have := hn.out; omega)
        have S6 : Hid (MS w7 bm (n + 1) (Ti.meet U xi).length (Ti.meet U xi)) := hidD (R6.out.kept g7 (Ne.symm HNR.out))
        have S7 := hidD (Ti.put_ids (x := ⟨xa, xi⟩) J7.out)
        clear cP h7 o7 g7 p1 p2 R4 R6
        go_wp2_with fail
        exact ⟨⟨k + 1, Ti.put O ⟨xa, xi⟩, Ti.meet U xi, by omega, by go_num, hidD ⟨S1.out, by rw [S2.out]; omega, HGO.out.symm, S4.out, S5.out, by rw [S2.out]; exact S6.out, S7.out⟩⟩, by simp [intOf]; omega⟩
    · have hke : k = M := by omega
      subst hke
      have hd : more.drop k = [] := by rw [List.drop_eq_nil_iff]; have := hM.out; omega
      rw [hd] at j3
      have j3' : (O, (0 : Int)) = G := j3
      rw [← j3'] at hE hR
      have hE2 := hE.out
      have hR2 := hR.out
      dsimp only at hE2 hR2
      subst hE2 hR2
      have HE := hidD (And.intro j4 j1)
      clear j1 j2 j3 j4 j5 j6 j7 hJ hE hR
      go_wp2_with fail
      go_ret2
      exact ⟨_, rfl, HE.out.1, HE.out.2⟩
end Go.Proofs.Ytkamcjebihfdlaa
