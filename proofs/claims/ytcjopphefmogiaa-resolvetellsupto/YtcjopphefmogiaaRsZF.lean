/- resolve: Apply. -/
import Derived.Test.YtcjopphefmogiaaRsZA
import Derived.Test.YtcjopphefmogiaaRsH
namespace Go.Proofs.Ytcjopphefmogiaa
open Go.RowKit
set_option linter.unusedVariables false
set_option maxRecDepth 20000

abbrev TST : TypeId := 63
theorem put3s_bo {w : World} {b : Nat} {u v z : Value} {T : TypeId} (x y t : Value) (h : Bo w b [u, v, z] T) : Bo (((w.setCell ⟨b, 0, none⟩ x).setCell ⟨b, 1, none⟩ y).setCell ⟨b, 2, none⟩ t) b [x, y, t] T := ((h.set 0 x).set 1 y).set 2 t
theorem put3s_cg (w : World) (b : Nat) (x y t : Value) : Cg b w (((w.setCell ⟨b, 0, none⟩ x).setCell ⟨b, 1, none⟩ y).setCell ⟨b, 2, none⟩ t) := ((Cg.set w 0 x).trans (Cg.set _ 1 y)).trans (Cg.set _ 2 t)
def metL (cv : Int) (a : Option Addr) (n c : Nat) (m : Int) (sv : Int) (a' : Option Addr) (n' c' : Nat) : List Value := if cv < sv then [.int .i64 sv, .slice a' n' c', .int .i64 (m + 1)] else [.int .i64 cv, .slice a n c, .int .i64 m]
set_option maxHeartbeats 4000000 in
theorem rvmeet_any (T : Nat) (cv : Int) (a : Option Addr) (n c : Nat) (m : Int) (sv : Int) (a' : Option Addr) (n' c' : Nat) (w : World) (h : Bo w T [.int .i64 cv, .slice a n c, .int .i64 m] TST) (hm : 0 ≤ m ∧ m < 9223372036854775807) :
    Calls Try.prog 27 #[.pointer (some ⟨T, 0, none⟩), .agg #[.int .i64 sv, .slice a' n' c']] w fun e w' => e = .returned (.tuple #[]) ∧ Cg T w w' ∧ Bo w' T (metL cv a n c m sv a' n' c') TST := by
  obtain ⟨W, hW, X, B, Z⟩ := box_one w [.int .i64 sv, .slice a' n' c'] 24
  obtain ⟨b, hb⟩ : ∃ b, b = w.heap.size := ⟨_, rfl⟩
  have H := h.below B
  have q0 := X.cell 0 rfl
  have q1 := X.cell 1 rfl
  have p0 := H.cell 0 rfl
  have p1 := H.cell 1 rfl
  have p2 := H.cell 2 rfl
  have f0 := H.frozen 0
  have f1 := H.frozen 1
  have f2 := H.frozen 2
  have HH := hidD H
  have HB := hidD B
  have HX := hidD X
  have hmw : IntKind.i64.wrap (m + 1) = m + 1 := by rw [IntKind.wrap_i64]; omega
  have E1 : Hid (cv < sv → metL cv a n c m sv a' n' c' = [.int .i64 sv, .slice a' n' c', .int .i64 (m + 1)]) := hidD (fun h => if_pos h)
  have E2 : Hid (¬ cv < sv → metL cv a n c m sv a' n' c' = [.int .i64 cv, .slice a n c, .int .i64 m]) := hidD (fun h => if_neg h)
  generalize metL cv a n c m sv a' n' c' = R at *
  rw [← hb] at q0 q1 HX
  clear X B Z H h
  go_enter Try.func27, Try.ntmps27
  go_upto_region 1 with fail
  rw [← hb, ← hW]
  clear hb hW
  by_cases hgt : cv < sv
  · have hd : decide (cv < sv) = true := decide_eq_true hgt
    have hR := E1.out hgt
    subst hR
    clear E1 E2
    go_wp2_with fail
    go_quiet (fail)
    go_wp2_with fail
    go_end0
    exact ⟨rfl, ((Cg.of_below HB.out).trans (Cg.drewN W nq)).trans (put3s_cg _ T _ _ _), put3s_bo _ _ _ (HH.out.drewN _)⟩
  · have hd : decide (cv < sv) = false := decide_eq_false hgt
    have hR := E2.out hgt
    subst hR
    clear E1 E2
    go_wp2_with fail
    go_quiet (fail)
    go_wp2_with fail
    go_end0
    exact ⟨rfl, (Cg.of_below HB.out).trans (Cg.drewN W nq), HH.out.drewN _⟩
set_option maxHeartbeats 16000000 in
theorem rvapply_any (r u : Value) (s : Rv.S) (L : List Rv.S) (w : World) (hs : BS w r s.l) (hu : SS w u L) : Calls Try.prog 10 #[vS r s.v, u] w fun e w' => ∃ x, e = .returned (.tuple #[vS x (Rv.applyS s L).v, .int .i64 (Rv.applyN s L : Nat), .int .i64 (Rv.applyE s L)]) ∧ Below w.heap.size w w' ∧ OB w' w.heap.size x (Rv.applyS s L).l := by
  have A0 : Hid (Rv.applyE s L = 0 → Rv.applyS s L = (Rv.run s L).1 ∧ Rv.applyN s L = (Rv.run s L).2 ∧ (Rv.run s L).1.l.length ≤ 32) := hidD (fun h => ⟨if_pos h, if_pos h, Rv.few (Rv.apply_chk h)⟩)
  have A1 : Hid (¬ Rv.applyE s L = 0 → Rv.applyS s L = Rv.s0 ∧ Rv.applyN s L = 0) := hidD (fun h => ⟨if_neg h, if_neg h⟩)
  have A2 := hidD (fun k => Rv.first_stop s L k)
  have A3 : Hid (Rv.applyE s L = Rv.firstE (s :: L)) := hidD rfl
  have HF0 : Hid (Rv.firstE (s :: L.take 0) = Rv.chk s) := hidD (by
    show (if Rv.chk s = 0 then (0 : Int) else Rv.chk s) = Rv.chk s
    split
    · rename_i h; exact h.symm
    · rfl)
  obtain ⟨W1, hW1, X1, B1, Z1⟩ := box_one w [.int .i64 s.v, r] 24
  obtain ⟨W2, hW2, X2, B2, Z2⟩ := box_one W1 [.int .i64 0, .slice none 0 0] 24
  have C1 := X1.below B2
  have BB : Below w.heap.size w W2 := below_on B1 (by omega) B2
  have c1 := rvchk_any r s W2 (hs.below BB)
  have HU := hidD (fun (W : World) (b : Below w.heap.size w W) => hu.below b)
  have HUw := hidD hu
  have HSw := hidD hs
  generalize Rv.applyE s L = E at *
  generalize Rv.applyS s L = RS at *
  generalize Rv.applyN s L = RN at *
  obtain ⟨a, cap, rfl, _⟩ := id hs
  obtain ⟨a', cap', rfl, g1, g2, _, _⟩ := id hu
  obtain ⟨b, hb⟩ : ∃ b, b = w.heap.size := ⟨_, rfl⟩
  obtain ⟨M, hM⟩ : ∃ n, n = L.length := ⟨_, rfl⟩
  rw [Z1] at X2
  rw [← hM] at g1 HU HUw ⊢
  rw [← hb] at C1 X2 BB HU ⊢
  unfold maxLen at g2
  replace hM := hidD hM
  have D1 := hidD C1
  have D2 := hidD X2
  have HB := hidD BB
  have HBZ : Hid (b ≤ W2.heap.size) := hidD (by omega)
  have q0 := C1.cell 0 rfl
  have q1 := C1.cell 1 rfl
  generalize hck : Rv.chk s = ck at *
  replace hck := hidD hck
  clear X1 C1 X2 B1 B2 BB Z1 Z2 hs hu
  go_enter Try.func10, Try.ntmps10
  go_upto_region 1 with fail
  rw [← hb, ← hW1, ← hW2]
  clear hW1 hW2
  replace hb := hidD hb
  go_wp2_with fail
  with_reducible refine c1.mono ?_
  rintro e w1 ⟨rfl, b1⟩
  replace HB := hidD (below_on HB.out HBZ.out b1)
  replace HBZ := hidD (Nat.le_trans HBZ.out b1.size)
  replace D1 := hidD (D1.out.below b1)
  replace D2 := hidD (D2.out.below b1)
  clear c1 b1 q0 q1
  by_cases hk : ck = 0
  case neg =>
    have hE : E = ck := by
      have := A2.out 0 (by rw [HF0.out]; exact hk)
      rw [this, HF0.out]
    subst hE
    obtain ⟨hRS, hRN⟩ := A1.out hk
    subst hRS hRN
    have hk1 : (E != 0) = true := by simpa using hk
    have f0 := D2.out.frozen 0
    have f1 := D2.out.frozen 1
    have S := hidD (put2s_bo (.int .i64 0) (.slice none 0 0) D2.out)
    have SB := hidD ((put2s_cg w1 (b + 1) (.int .i64 0) (.slice none 0 0)).below (B := b) (by omega) HBZ.out HB.out)
    have p0 := D2.out.cell 0 rfl
    have p1 := D2.out.cell 1 rfl
    clear A0 A1 A2 A3 HF0 hk
    go_wp2_with fail
    refine bodyPost_ret (ret_s3 rfl rfl S.out) rfl ?_
    exact ⟨_, rfl, SB.out, World.ownsRow_nil _ _ _ _⟩
  subst hk
  obtain ⟨C, hC⟩ : ∃ C, C = w1.heap.size := ⟨_, rfl⟩
  have HC : Hid (b ≤ C ∧ C ≤ w1.heap.size) := hidD (by have := HBZ.out; omega)
  have D0 : Hid (Below C w1 w1) := hidD (Below.refl _ _)
  have HLT : Hid (b + 1 < C) := hidD (by have := D2.out.lt; omega)
  clear hC
  go_wp2_with fail
  go_loopw [22] (fun i wr => ∃ k : Nat, k ≤ M ∧ i = .int .i64 k ∧ Hid (Rv.firstE (s :: L.take k) = 0 ∧ Below b w wr ∧ Below C w1 wr ∧ C ≤ wr.heap.size)) (fun i _ => M - (intOf i).toNat)
  case atStart => exact ⟨0, Nat.zero_le _, rfl, hidD ⟨HF0.out, HB.out, D0.out, HC.out.2⟩⟩
  case round =>
    obtain ⟨k, hk, rfl, hJ⟩ := hrel
    obtain ⟨j0, j1, j2, j3⟩ := hJ.out
    by_cases hlt : k < M
    · obtain ⟨gu, offu, rk, rfl, hgu, t1, t2, t3⟩ := SS.at (HU.out wr j1) k (by have := hM.out; omega)
      have HN := hidD (Rv.first_next s L k (by have := hM.out; omega))
      have HS := hidD (fun h => A2.out (k + 1) h)
      rw [j0, if_pos rfl] at HN
      rw [HN.out] at HS
      obtain ⟨Y, hY, XY, BY, ZY⟩ := box_one wr [.int .i64 (Rv.sg L k).v, rk] 24
      have cK := rvchk_any rk (Rv.sg L k) Y (t3.below BY)
      have i1 : (k : Int) < (M : Int) := by omega
      have hkw : IntKind.i64.wrap ((k : Int) + 1) = (k : Int) + 1 := by rw [IntKind.wrap_i64]; omega
      have K1 := hidD (below_on j1 (Nat.le_trans HC.out.1 j3) BY)
      have K2 := hidD (below_on j2 j3 BY)
      have K3 := hidD (Nat.le_trans j3 BY.size)
      obtain ⟨ak, ck, rfl, _⟩ := id t3
      clear t3 j0 j1 j2 j3 hJ HF0 BY ZY A0 A2 A3
      generalize Rv.chk (Rv.sg L k) = e1 at *
      generalize Rv.sg L k = sk at *
      obtain ⟨vk, lk⟩ := sk
      dsimp only at t1 t2 cK XY hY
      have y0 := XY.cell 0 rfl
      have y1 := XY.cell 1 rfl
      generalize lk.length = nk at *
      clear XY
      go_upto_region 7 with fail
      rw [← hY]
      clear hY t1 t2
      go_wp2_with fail
      with_reducible refine cK.mono ?_
      rintro e w4 ⟨rfl, h4⟩
      replace K1 := hidD (below_on K1.out (Nat.le_trans HC.out.1 K3.out) h4)
      replace K2 := hidD (below_on K2.out K3.out h4)
      replace K3 := hidD (Nat.le_trans K3.out h4.size)
      clear cK h4 y0 y1
      by_cases he : e1 = 0
      · subst he
        go_wp2_with fail
        exact ⟨⟨k + 1, by omega, by go_num, hidD ⟨HN.out, K1.out, K2.out, K3.out⟩⟩, by simp [intOf]; omega⟩
      · have hE := HS.out he
        subst hE
        obtain ⟨hRS, hRN⟩ := A1.out he
        subst hRS hRN
        have hk1 : (E != 0) = true := by simpa using he
        have E2 := D2.out.under K2.out HLT.out
        have S := hidD (put2s_bo (.int .i64 0) (.slice none 0 0) E2)
        have SB := hidD ((put2s_cg w4 (b + 1) (.int .i64 0) (.slice none 0 0)).below (B := b) (by omega) (by have := K3.out; have := HC.out; omega) K1.out)
        have p0 := E2.cell 0 rfl
        have p1 := E2.cell 1 rfl
        have f0 := E2.frozen 0
        have f1 := E2.frozen 1
        clear HN HS A1 he E2
        go_wp2_with fail
        refine bodyPost_ret (ret_s3 rfl rfl S.out) rfl ?_
        exact ⟨_, rfl, SB.out, World.ownsRow_nil _ _ _ _⟩
    · have hkM : k = M := by omega
      have htk : L.take k = L := List.take_of_length_le (by have := hM.out; omega)
      rw [htk] at j0
      have hE : E = 0 := by rw [A3.out]; exact j0
      subst hE
      obtain ⟨hRS, hRN, hfew⟩ := A0.out rfl
      have i1 : ¬ (k : Int) < (M : Int) := by omega
      have E1 := D1.out.under j2 (by have := HLT.out; omega)
      have E2 := D2.out.under j2 HLT.out
      obtain ⟨Y, hY, XY, BY, ZY⟩ := box_one wr [.int .i64 s.v, .slice a s.l.length cap, .int .i64 0] TST
      obtain ⟨N, hN⟩ : ∃ N, N = wr.heap.size := ⟨_, rfl⟩
      rw [← hN] at XY
      have HBN : Hid (b + 1 < N) := hidD (by have := E2.lt; omega)
      have q0 := E1.cell 0 rfl
      have q1 := E1.cell 1 rfl
      have H0 := hidD (And.intro XY (And.intro (E2.below BY) (And.intro HSw.out (below_on j1 (Nat.le_trans HC.out.1 j3) BY))))
      replace hRS := hidD hRS
      replace hRN := hidD hRN
      replace hfew := hidD hfew
      have HR0 : Hid (Rv.run s (L.take 0) = (s, 0)) := hidD rfl
      clear A0 A1 A2 A3 HF0 j0 j1 j2 j3 hJ htk E1 E2 D0 D1 D2 HB HBZ HC HLT HSw HU XY BY ZY
      go_upto_region 12 with fail
      rw [← hN, ← hY]
      clear hN hY q0 q1
      go_wp2_with fail
      go_loopw [37] (fun i wx => ∃ (q nn : Nat) (ac : Option Addr) (cc : Nat) (cur : Rv.S), q ≤ M ∧ i = .int .i64 q ∧ Hid (Rv.run s (L.take q) = (cur, nn) ∧ Bo wx N [.int .i64 cur.v, .slice ac cur.l.length cc, .int .i64 (nn : Nat)] TST ∧ Bo wx (b + 1) [.int .i64 0, .slice none 0 0] 24 ∧ BS w (.slice ac cur.l.length cc) cur.l ∧ Below b w wx)) (fun i _ => M - (intOf i).toNat)
      case atStart => exact ⟨0, 0, a, cap, s, Nat.zero_le _, rfl, hidD ⟨HR0.out, H0.out⟩⟩
      case round =>
        clear H0 HR0
        obtain ⟨q, nn, ac, cc, cur, hq, rfl, hJ⟩ := hrel
        obtain ⟨j0, j1, j2, j3, j4⟩ := hJ.out
        by_cases hlq : q < M
        · obtain ⟨gu, offu, rk, rfl, hgu, t1, t2, t3⟩ := SS.at HUw.out q (by have := hM.out; omega)
          have t1' : wr.cell? ⟨gu, offu + q * 2, none⟩ = some (.int .i64 (Rv.sg L q).v) := (j4.cell (p := ⟨gu, offu + q * 2, none⟩) (by have := hb.out; show gu < b; omega)).trans t1
          have t2' : wr.cell? ⟨gu, offu + q * 2 + 1, none⟩ = some rk := (j4.cell (p := ⟨gu, offu + q * 2 + 1, none⟩) (by have := hb.out; show gu < b; omega)).trans t2
          have HN := hidD (Rv.run_next s L q (by have := hM.out; omega))
          have hnn := Rv.run_len s L q
          rw [j0] at HN hnn
          dsimp only at hnn
          have i2 : (q : Int) < (M : Int) := by omega
          have hqw : IntKind.i64.wrap ((q : Int) + 1) = (q : Int) + 1 := by rw [IntKind.wrap_i64]; omega
          obtain ⟨Y2, hY2, XY, BY, ZY⟩ := box_one wr [.int .i64 (Rv.sg L q).v, rk] 24
          have J1 := hidD (j1.below BY)
          have J2 := hidD (j2.below BY)
          have J3 := hidD j3
          have hbw : b ≤ wr.heap.size := by have := j1.lt; have := HBN.out; omega
          have J4 := hidD (below_on j4 hbw BY)
          have T3 := hidD t3
          obtain ⟨ak, ck, rfl, _⟩ := id t3
          have y0 := XY.cell 0 rfl
          have y1 := XY.cell 1 rfl
          clear j0 j1 j2 j3 j4 hJ t1 t2 t3 hbw XY BY ZY
          generalize Rv.sg L q = sk at *
          obtain ⟨vk, lk⟩ := sk
          obtain ⟨cv, cl⟩ := cur
          dsimp only at t1' J1 J3 HN T3 t2' hY2 y0 y1
          generalize hlk : lk.length = nk at *
          generalize hcl : cl.length = nc at *
          replace hlk := hidD hlk
          replace hcl := hidD hcl
          have cM := rvmeet_any N cv ac nc cc (nn : Int) vk ak nk ck Y2 J1.out (by omega)
          go_upto_region 15 with fail
          rw [← hY2]
          clear hY2 t1' t2'
          go_wp2_with fail
          with_reducible refine cM.mono ?_
          rintro e w4 ⟨rfl, h4, o4⟩
          have K2 := hidD (h4.bo (by have := HBN.out; omega) J2.out)
          have K4 := hidD (h4.below (B := b) (by have := HBN.out; omega) (by have := J1.out.lt; have := HBN.out; omega) J4.out)
          have O4 := hidD o4
          clear cM h4 o4 y0 y1 J1 J2 J4
          by_cases hgt : cv < vk
          · have HN2 := hidD (HN.out.trans (if_pos hgt))
            have O5 := hidD (O4.out.trans (congrArg (fun z : List Value => some (Obj.cells z.toArray TST)) (show metL cv ac nc cc (nn : Int) vk ak nk ck = [.int .i64 vk, .slice ak nk ck, .int .i64 ((nn : Int) + 1)] from if_pos hgt)))
            clear HN O4
            go_wp2_with fail
            exact ⟨⟨q + 1, nn + 1, ak, ck, ⟨vk, lk⟩, by omega, by go_num, hidD ⟨HN2.out, by dsimp only; rw [hlk.out]; exact O5.out, K2.out, by dsimp only; rw [hlk.out]; exact T3.out, K4.out⟩⟩, by simp [intOf]; omega⟩
          · have HN2 := hidD (HN.out.trans (if_neg hgt))
            have O5 := hidD (O4.out.trans (congrArg (fun z : List Value => some (Obj.cells z.toArray TST)) (show metL cv ac nc cc (nn : Int) vk ak nk ck = [.int .i64 cv, .slice ac nc cc, .int .i64 (nn : Int)] from if_neg hgt)))
            clear HN O4
            go_wp2_with fail
            exact ⟨⟨q + 1, nn, ac, cc, ⟨cv, cl⟩, by omega, by go_num, hidD ⟨HN2.out, by dsimp only; rw [hcl.out]; exact O5.out, K2.out, by dsimp only; rw [hcl.out]; exact J3.out, K4.out⟩⟩, by simp [intOf]; omega⟩
        · have hqM : q = M := by omega
          have htk : L.take q = L := List.take_of_length_le (by have := hM.out; omega)
          rw [htk] at j0
          have hi2 : ¬ (q : Int) < (M : Int) := by omega
          have e1 : (Rv.run s L).1 = cur := by rw [j0]
          have e2 : (Rv.run s L).2 = nn := by rw [j0]
          have hcf : cur.l.length ≤ 32 := by rw [← e1]; exact hfew.out
          have hRS1 : RS = cur := hRS.out.trans e1
          have hRN1 : RN = nn := hRN.out.trans e2
          subst hRS1 hRN1
          have j4' : Below w.heap.size w wr := by rw [← hb.out]; exact j4
          have cO := rvclone_any (.slice ac RS.l.length cc) RS.l wr (j3.below j4') (by omega)
          have q0 := j1.cell 0 rfl
          have q1 := j1.cell 1 rfl
          have q2 := j1.cell 2 rfl
          have J1 := hidD j1
          have J2 := hidD j2
          have J4 := hidD j4
          have HBW : Hid (b + 1 < wr.heap.size) := hidD j2.lt
          clear j0 j1 j2 j3 j4 j4' hJ htk HUw e1 e2 hRS hRN hfew
          obtain ⟨cv, cl⟩ := RS
          dsimp only at q0 q1 q2 cO hcf J1 ⊢
          generalize hcl : cl.length = nc at *
          replace hcl := hidD hcl
          go_wp2_with fail
          refine cO.mono ?_
          rintro e w6 ⟨r6, rfl, h6, o6⟩
          obtain ⟨a6, c6, rfl, _⟩ := id o6.ts
          have K1 := hidD (J1.out.below h6)
          have K2 := hidD (J2.out.below h6)
          have K4 := hidD (below_on J4.out (by have := HBW.out; omega) h6)
          have HNL : Hid (N < wr.heap.size) := hidD J1.out.lt
          have O6 := hidD o6
          have p0 := K1.out.cell 0 rfl
          have p1 := K1.out.cell 1 rfl
          have p2 := K1.out.cell 2 rfl
          have f1 := K1.out.frozen 1
          have CG := hidD (Cg.set w6 (b := N) 1 (.slice a6 cl.length c6))
          obtain ⟨w7, hw7⟩ : ∃ w7, w7 = w6.setCell ⟨N, 1, none⟩ (.slice a6 cl.length c6) := ⟨_, rfl⟩
          rw [← hw7] at CG
          have N7 : Hid (Bo w7 N [.int .i64 cv, .slice a6 cl.length c6, .int .i64 (RN : Nat)] TST) := hidD (by rw [hw7]; exact K1.out.set 1 _)
          have B7 := hidD (CG.out.bo (by have := HBN.out; omega) K2.out)
          have L7 := hidD (CG.out.below (B := b) (by have := HBN.out; omega) (by have := HBW.out; have := h6.size; omega) K4.out)
          have O7 := hidD (O6.out.cg CG.out HNL.out)
          have HS7 : Hid (b + 1 < w7.heap.size) := hidD B7.out.lt
          clear cO h6 o6 q0 q1 q2 K1 K2 K4 J1 J2 J4
          go_upto_region 18 with fail
          rw [← hw7]
          clear hw7 p0 p1 p2 f1
          have r0 := N7.out.cell 0 rfl
          have r1 := N7.out.cell 1 rfl
          have r2 := N7.out.cell 2 rfl
          have s0 := B7.out.cell 0 rfl
          have s1 := B7.out.cell 1 rfl
          have sf0 := B7.out.frozen 0
          have sf1 := B7.out.frozen 1
          have S := hidD (put2s_bo (.int .i64 cv) (.slice a6 cl.length c6) B7.out)
          have SC := hidD (put2s_cg w7 (b + 1) (.int .i64 cv) (.slice a6 cl.length c6))
          go_region_with (fail)
          all_goals (
            go_wp2_with fail
            refine bodyPost_ret (ret_s3 rfl rfl (show Bo _ (b + 1) [.int .i64 cv, .slice a6 cl.length c6] 24 from S.out)) rfl ?_
            have LB := SC.out.below (B := b) (by omega) (by have := HS7.out; omega) L7.out
            have OO := own_lower' (O7.out.cg SC.out HBW.out) (show b ≤ wr.heap.size by have := HBW.out; omega)
            exact ⟨_, rfl, ⟨LB.os, LB.tape, LB.output, LB.size, LB.block⟩, OO⟩)
end Go.Proofs.Ytcjopphefmogiaa
