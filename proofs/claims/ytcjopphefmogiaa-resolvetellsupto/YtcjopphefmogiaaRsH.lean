/- resolve: rows of snapshots; Apply, by the reference. -/
import Derived.Test.YtcjopphefmogiaaRsG
namespace Go.Proofs.Ytcjopphefmogiaa
open Go.RowKit
set_option linter.unusedVariables false
set_option maxRecDepth 20000

abbrev Rv.sg (L : List Rv.S) (i : Nat) : Rv.S := L.getD i Rv.s0
theorem Rv.sg_at {L : List Rv.S} {i : Nat} (h : i < L.length) : Rv.sg L i = L[i] := by simp [Rv.sg, List.getD, h]
/-- Snapshots in a row, as they read. -/
def SS (W : World) (v : Value) (L : List Rv.S) : Prop :=
  ∃ (a : Option Addr) (cap : Nat), v = .slice a L.length cap ∧ L.length ≤ cap ∧ cap ≤ maxLen ∧ (a = none → L = [] ∧ cap = 0) ∧
    ∀ g off ar, a = some ⟨g, off, ar⟩ → 0 < L.length → ar = none ∧ g < W.heap.size ∧ ∀ i, i < L.length → ∃ r, W.cell? ⟨g, off + i * 2, none⟩ = some (.int .i64 (Rv.sg L i).v) ∧ W.cell? ⟨g, off + i * 2 + 1, none⟩ = some r ∧ BS W r (Rv.sg L i).l
theorem SS.below {w w' : World} {v : Value} {L : List Rv.S} (h : SS w v L) (hb : Below w.heap.size w w') : SS w' v L := by
  obtain ⟨a, cap, h1, h2, h3, h4, h5⟩ := h
  refine ⟨a, cap, h1, h2, h3, h4, fun g off ar ha h0 => ?_⟩
  obtain ⟨k1, k2, k3⟩ := h5 g off ar ha h0
  refine ⟨k1, Nat.lt_of_lt_of_le k2 hb.size, fun i hi => ?_⟩
  obtain ⟨r, q1, q2, q3⟩ := k3 i hi
  exact ⟨r, (hb.cell k2).trans q1, (hb.cell k2).trans q2, q3.below hb⟩
theorem SS.at {w : World} {a : Option Addr} {n cap : Nat} {L : List Rv.S} (h : SS w (.slice a n cap) L) (k : Nat) (hk : k < L.length) :
    ∃ g off r, a = some ⟨g, off, none⟩ ∧ g < w.heap.size ∧ w.cell? ⟨g, off + k * 2, none⟩ = some (.int .i64 (Rv.sg L k).v) ∧ w.cell? ⟨g, off + k * 2 + 1, none⟩ = some r ∧ BS w r (Rv.sg L k).l := by
  obtain ⟨a', c', he, _, _, h3, h4⟩ := h
  injection he with he1 he2 he3
  subst he1 he3
  rcases a with _ | ⟨g, off, ar⟩
  · have := (h3 rfl).1; subst this; simp at hk
  · obtain ⟨rfl, q2, q3⟩ := h4 g off ar rfl (by omega)
    obtain ⟨r, t1, t2, t3⟩ := q3 k hk
    exact ⟨g, off, r, rfl, q2, t1, t2, t3⟩
theorem Rv.first_snoc (l : List Rv.S) (s : Rv.S) : Rv.firstE (l ++ [s]) = if Rv.firstE l = 0 then Rv.chk s else Rv.firstE l := by
  induction l with
  | nil =>
    show (if Rv.chk s = 0 then (0 : Int) else Rv.chk s) = Rv.chk s
    split
    · rename_i h; exact h.symm
    · rfl
  | cons a t ih =>
    show (if Rv.chk a = 0 then Rv.firstE (t ++ [s]) else Rv.chk a) = if (if Rv.chk a = 0 then Rv.firstE t else Rv.chk a) = 0 then Rv.chk s else (if Rv.chk a = 0 then Rv.firstE t else Rv.chk a)
    by_cases h : Rv.chk a = 0
    · rw [if_pos h, if_pos h, ih]
    · rw [if_neg h, if_neg h, if_neg h]
theorem Rv.first_cut (l t : List Rv.S) (h : Rv.firstE l ≠ 0) : Rv.firstE (l ++ t) = Rv.firstE l := by
  induction l with
  | nil => exact absurd rfl h
  | cons a r ih =>
    show (if Rv.chk a = 0 then Rv.firstE (r ++ t) else Rv.chk a) = if Rv.chk a = 0 then Rv.firstE r else Rv.chk a
    by_cases ha : Rv.chk a = 0
    · rw [if_pos ha, if_pos ha]
      refine ih (fun e => h ?_)
      show (if Rv.chk a = 0 then Rv.firstE r else Rv.chk a) = 0
      rw [if_pos ha]
      exact e
    · rw [if_neg ha, if_neg ha]
theorem Rv.first_next (o : Rv.S) (L : List Rv.S) (k : Nat) (hk : k < L.length) : Rv.firstE (o :: L.take (k + 1)) = if Rv.firstE (o :: L.take k) = 0 then Rv.chk (Rv.sg L k) else Rv.firstE (o :: L.take k) := by
  rw [List.take_succ_eq_append_getElem hk, ← List.cons_append, Rv.first_snoc, Rv.sg_at hk]
theorem Rv.first_stop (o : Rv.S) (L : List Rv.S) (k : Nat) (h : Rv.firstE (o :: L.take k) ≠ 0) : Rv.applyE o L = Rv.firstE (o :: L.take k) := by
  unfold Rv.applyE
  conv => lhs; rw [← List.take_append_drop k L]
  rw [← List.cons_append, Rv.first_cut _ _ h]
theorem Rv.run_next (o : Rv.S) (L : List Rv.S) (k : Nat) (hk : k < L.length) : Rv.run o (L.take (k + 1)) = if (Rv.run o (L.take k)).1.v < (Rv.sg L k).v then (Rv.sg L k, (Rv.run o (L.take k)).2 + 1) else Rv.run o (L.take k) := by
  unfold Rv.run
  rw [List.take_succ_eq_append_getElem hk, List.foldl_append, Rv.sg_at hk]
  rfl
theorem Rv.run_len (o : Rv.S) (L : List Rv.S) (k : Nat) : (Rv.run o (L.take k)).2 ≤ k := by
  have := (Rv.run_facts o (L.take k)).2.2.1
  rw [List.length_take] at this
  omega
theorem ret_s3 {fn : Func} {k m n : Nat} (h : fn.results = #[.cell k 24, .tmp m, .tmp n]) {W : World} {tmps : Array Value} {b : Nat} {x0 x1 : Value} (ht : tmps.getD k undef = .pointer (some ⟨b, 0, none⟩))
    (hB : Bo W b [x0, x1] 24) : (results fn tmps).run Try.prog W = .ok (.tuple #[.agg #[x0, x1], tmps.getD m undef, tmps.getD n undef]) W := by
  have h0 := hB.cell 0 rfl
  have h1 := hB.cell 1 rfl
  clear hB
  rw [Array.getD_eq_getD_getElem?] at ht
  simp [results, h]
  go_simp
theorem put2s_bo {w : World} {b : Nat} {u v : Value} {T : TypeId} (x y : Value) (h : Bo w b [u, v] T) : Bo ((w.setCell ⟨b, 0, none⟩ x).setCell ⟨b, 1, none⟩ y) b [x, y] T := (h.set 0 x).set 1 y
theorem put2s_cg (w : World) (b : Nat) (x y : Value) : Cg b w ((w.setCell ⟨b, 0, none⟩ x).setCell ⟨b, 1, none⟩ y) := (Cg.set w 0 x).trans (Cg.set _ 1 y)
set_option maxHeartbeats 16000000 in
theorem rapply_any (r u : Value) (s : Rv.S) (L : List Rv.S) (w : World) (hs : BS w r s.l) (hu : SS w u L) : Calls Try.prog 11 #[vS r s.v, u] w fun e w' => ∃ x, e = .returned (.tuple #[vS x (Rv.applyS s L).v, .int .i64 (Rv.applyN s L : Nat), .int .i64 (Rv.applyE s L)]) ∧ Below w.heap.size w w' ∧ OB w' w.heap.size x (Rv.applyS s L).l := by
  have A0 : Hid (Rv.applyE s L = 0 → Rv.applyS s L = (Rv.run s L).1 ∧ Rv.applyN s L = (Rv.run s L).2 ∧ (Rv.run s L).1.l.length ≤ 32) := hidD (fun h => ⟨if_pos h, if_pos h, Rv.few (Rv.apply_chk h)⟩)
  have A1 : Hid (¬ Rv.applyE s L = 0 → Rv.applyS s L = Rv.s0 ∧ Rv.applyN s L = 0) := hidD (fun h => ⟨if_neg h, if_neg h⟩)
  have A2 := hidD (fun k => Rv.first_stop s L k)
  have A3 : Hid (Rv.applyE s L = Rv.firstE (s :: L)) := hidD rfl
  obtain ⟨W1, hW1, X1, B1, Z1⟩ := box_one w [.int .i64 s.v, r] 24
  obtain ⟨W2, hW2, X2, B2, Z2⟩ := box_one W1 [.int .i64 0, .slice none 0 0] 24
  have C1 := X1.below B2
  have BB : Below w.heap.size w W2 := below_on B1 (by omega) B2
  have c1 := rchk_any r s W2 (hs.below BB)
  have HV := hidD (fun (W : World) (b : Below w.heap.size w W) => hs.below b)
  have HU := hidD (fun (W : World) (b : Below w.heap.size w W) => hu.below b)
  have HUw := hidD hu
  have HSw := hidD hs
  generalize Rv.applyE s L = E at *
  generalize Rv.applyS s L = RS at *
  generalize Rv.applyN s L = RN at *
  obtain ⟨a, cap, rfl, _⟩ := id hs
  obtain ⟨a', cap', rfl, g1, g2, _, _⟩ := id hu
  obtain ⟨b, hb⟩ : ∃ b, b = w.heap.size := ⟨_, rfl⟩
  obtain ⟨M, hM⟩ : ∃ n, n = L.length := ⟨_, rfl⟩
  rw [Z1] at X2
  rw [← hM] at g1 HU HUw ⊢
  rw [← hb] at C1 X2 BB HV HU ⊢
  unfold maxLen at g2
  replace hM := hidD hM
  have D1 := hidD C1
  have D2 := hidD X2
  have HB := hidD BB
  have HBZ : Hid (b ≤ W2.heap.size) := hidD (by omega)
  have q0 := C1.cell 0 rfl
  have q1 := C1.cell 1 rfl
  have HF0 : Hid (Rv.firstE (s :: L.take 0) = Rv.chk s) := hidD (by
    show (if Rv.chk s = 0 then (0 : Int) else Rv.chk s) = Rv.chk s
    split
    · rename_i h; exact h.symm
    · rfl)
  clear X1 C1 X2 B1 B2 BB Z1 Z2 hs hu
  go_enter Try.func11, Try.ntmps11
  go_upto_region 1 with fail
  rw [← hb, ← hW1, ← hW2]
  clear hW1 hW2
  replace hb := hidD hb
  go_wp2_with fail
  with_reducible refine c1.mono ?_
  rintro e w1 ⟨rfl, b1⟩
  replace HB := hidD (below_on HB.out HBZ.out b1)
  replace HBZ := hidD (Nat.le_trans HBZ.out b1.size)
  replace D1 := hidD (D1.out.below b1)
  replace D2 := hidD (D2.out.below b1)
  clear c1 b1 q0 q1
  obtain ⟨C, hC⟩ : ∃ C, C = w1.heap.size := ⟨_, rfl⟩
  have HC : Hid (b ≤ C ∧ C ≤ w1.heap.size) := hidD (by have := HBZ.out; omega)
  have D0 : Hid (Below C w1 w1) := hidD (Below.refl _ _)
  have HLT : Hid (b + 1 < C) := hidD (by have := D2.out.lt; omega)
  clear hC
  go_wp2_with fail
  go_loopw [7, 8] (fun e i wr => ∃ k : Nat, k ≤ M ∧ e = .int .i64 (Rv.firstE (s :: L.take k)) ∧ i = .int .i64 k ∧ Hid (Below b w wr ∧ Below C w1 wr ∧ C ≤ wr.heap.size)) (fun _ i _ => M - (intOf i).toNat)
  case atStart => exact ⟨0, Nat.zero_le _, by rw [HF0.out], rfl, hidD ⟨HB.out, D0.out, HC.out.2⟩⟩
  case round =>
    obtain ⟨k, hk, rfl, rfl, hJ⟩ := hrel
    obtain ⟨j1, j2, j3⟩ := hJ.out
    by_cases hgo : k < M ∧ Rv.firstE (s :: L.take k) = 0
    · obtain ⟨hlt, he0⟩ := hgo
      obtain ⟨gu, offu, rk, rfl, hgu, t1, t2, t3⟩ := SS.at (HU.out wr j1) k (by have := hM.out; omega)
      have HN := hidD (Rv.first_next s L k (by have := hM.out; omega))
      rw [he0, if_pos rfl] at HN
      rw [he0]
      have cK := rchk_any rk (Rv.sg L k) wr t3
      have i1 : (k : Int) < (M : Int) := by omega
      have hkw : IntKind.i64.wrap ((k : Int) + 1) = (k : Int) + 1 := by rw [IntKind.wrap_i64]; omega
      obtain ⟨ak, ck, rfl, _⟩ := id t3
      clear t3 he0 hJ HF0
      generalize Rv.chk (Rv.sg L k) = e1 at *
      generalize Rv.sg L k = sk at *
      obtain ⟨vk, lk⟩ := sk
      dsimp only at t1 t2 cK
      generalize lk.length = nk at *
      go_wp2_with fail
      with_reducible refine cK.mono ?_
      rintro e w4 ⟨rfl, h4⟩
      have K1 := hidD (below_on j1 (Nat.le_trans HC.out.1 j3) h4)
      have K2 := hidD (below_on j2 j3 h4)
      have K3 := hidD (Nat.le_trans j3 h4.size)
      clear cK h4 t1 t2 j1 j2 j3
      go_wp2_with fail
      exact ⟨⟨k + 1, by omega, by rw [HN.out], by go_num, hidD ⟨K1.out, K2.out, K3.out⟩⟩, by simp [intOf]; omega⟩
    · have E1 := D1.out.under j2 (by have := HLT.out; omega)
      have E2 := D2.out.under j2 HLT.out
      have HEE : Hid (E = Rv.firstE (s :: L.take k)) := hidD (by
        by_cases he : Rv.firstE (s :: L.take k) = 0
        · have hkM : k = M := by omega
          have : L.take k = L := List.take_of_length_le (by have := hM.out; omega)
          rw [A3.out, this]
        · exact A2.out k he)
      have hcond : ¬ k < M ∨ ¬ Rv.firstE (s :: L.take k) = 0 := by
        by_cases h : k < M
        · exact .inr (fun e => hgo ⟨h, e⟩)
        · exact .inl h
      rw [← HEE.out] at hcond ⊢
      clear hgo A2 A3 HEE HF0
      have HJ := hidD (And.intro j1 (And.intro j2 j3))
      have EE1 := hidD E1
      have EE2 := hidD E2
      clear j1 j2 j3 hJ D1 D2 D0 HB HBZ
      have q0 := E1.cell 0 rfl
      have q1 := E1.cell 1 rfl
      have p0 := E2.cell 0 rfl
      have p1 := E2.cell 1 rfl
      have f0 := E2.frozen 0
      have f1 := E2.frozen 1
      clear E1 E2
      by_cases hE : E = 0
      case neg =>
        obtain ⟨rfl, rfl⟩ := A1.out hE
        have hE1 : (E != 0) = true := by simpa using hE
        have hE2 : (E == 0) = false := by simpa using hE
        have S := hidD (put2s_bo (.int .i64 0) (.slice none 0 0) EE2.out)
        have SB := hidD ((put2s_cg wr (b + 1) (.int .i64 0) (.slice none 0 0)).below (B := b) (by omega) (by have := HJ.out.2.2; have := HC.out; omega) HJ.out.1)
        clear A0 A1 hcond HJ HC HLT
        by_cases hkM : k < M
        · have i1 : (k : Int) < (M : Int) := by omega
          go_wp2_with fail
          refine bodyPost_ret (ret_s3 rfl rfl S.out) rfl ?_
          exact ⟨_, rfl, SB.out, World.ownsRow_nil _ _ _ _⟩
        · have i1 : ¬ (k : Int) < (M : Int) := by omega
          go_wp2_with fail
          refine bodyPost_ret (ret_s3 rfl rfl S.out) rfl ?_
          exact ⟨_, rfl, SB.out, World.ownsRow_nil _ _ _ _⟩
      subst hE
      obtain ⟨hRS, hRN, hfew⟩ := A0.out rfl
      have hkM : ¬ k < M := by omega
      have i1 : ¬ (k : Int) < (M : Int) := by omega
      clear A0 A1 hcond
      replace hRS := hidD hRS
      replace hRN := hidD hRN
      replace hfew := hidD hfew
      have H0 := hidD (And.intro EE1.out (And.intro EE2.out (And.intro HSw.out (And.intro HJ.out.1 (show b + 1 < wr.heap.size from EE2.out.lt)))))
      have HR0 : Hid (Rv.run s (L.take 0) = (s, 0)) := hidD rfl
      clear HJ EE1 EE2 HSw HC HLT HU HV q0 q1 p0 p1 f0 f1
      go_wp2_with fail
      go_loopw [9, 10] (fun c i wx => ∃ (q nn : Nat) (ac : Option Addr) (cc : Nat) (cur : Rv.S), q ≤ M ∧ c = .int .i64 (nn : Nat) ∧ i = .int .i64 q ∧ Hid (Rv.run s (L.take q) = (cur, nn) ∧ Bo wx b [.int .i64 cur.v, .slice ac cur.l.length cc] 24 ∧ Bo wx (b + 1) [.int .i64 0, .slice none 0 0] 24 ∧ BS w (.slice ac cur.l.length cc) cur.l ∧ Below b w wx ∧ b + 1 < wx.heap.size)) (fun _ i _ => M - (intOf i).toNat)
      case atStart => exact ⟨0, 0, a, cap, s, Nat.zero_le _, rfl, rfl, hidD ⟨HR0.out, H0.out⟩⟩
      case round =>
        clear H0 HR0
        obtain ⟨q, nn, ac, cc, cur, hq, rfl, rfl, hJ⟩ := hrel
        obtain ⟨j0, j1, j2, j3, j4, j5⟩ := hJ.out
        have q0 := j1.cell 0 rfl
        have q1 := j1.cell 1 rfl
        have f0 := j1.frozen 0
        have f1 := j1.frozen 1
        by_cases hlq : q < M
        · obtain ⟨gu, offu, rk, rfl, hgu, t1, t2, t3⟩ := SS.at HUw.out q (by have := hM.out; omega)
          have t1' : wr.cell? ⟨gu, offu + q * 2, none⟩ = some (.int .i64 (Rv.sg L q).v) := (j4.cell (p := ⟨gu, offu + q * 2, none⟩) (by have := hb.out; show gu < b; omega)).trans t1
          have t2' : wr.cell? ⟨gu, offu + q * 2 + 1, none⟩ = some rk := (j4.cell (p := ⟨gu, offu + q * 2 + 1, none⟩) (by have := hb.out; show gu < b; omega)).trans t2
          have HN := hidD (Rv.run_next s L q (by have := hM.out; omega))
          have hnn := Rv.run_len s L q
          rw [j0] at HN hnn
          dsimp only at hnn
          have i2 : (q : Int) < (M : Int) := by omega
          have hqw : IntKind.i64.wrap ((q : Int) + 1) = (q : Int) + 1 := by rw [IntKind.wrap_i64]; omega
          have hnw : IntKind.i64.wrap ((nn : Int) + 1) = (nn : Int) + 1 := by rw [IntKind.wrap_i64]; omega
          have J1 := hidD j1
          have J2 := hidD j2
          have J3 := hidD j3
          have J4 := hidD j4
          have J5 := hidD j5
          have T3 := hidD t3
          obtain ⟨ak, ck, rfl, _⟩ := id t3
          clear j0 j1 j2 j3 j4 j5 hJ t1 t2 t3
          generalize Rv.sg L q = sk at *
          obtain ⟨vk, lk⟩ := sk
          obtain ⟨cv, cl⟩ := cur
          dsimp only at t1' q0 q1 J1 J3 HN T3 t2'
          generalize hlk : lk.length = nk at *
          generalize hcl : cl.length = nc at *
          replace hlk := hidD hlk
          replace hcl := hidD hcl
          by_cases hgt : cv < vk
          · have HN2 := hidD (HN.out.trans (if_pos hgt))
            have hd : decide (cv < vk) = true := decide_eq_true hgt
            have S := hidD (put2s_bo (.int .i64 vk) (.slice ak nk ck) J1.out)
            clear HN
            go_wp2_with fail
            go_quiet (fail)
            go_wp2_with fail
            have PC := put2s_cg (wr.drewN nq) b (.int .i64 vk) (.slice ak nk ck)
            exact ⟨⟨q + 1, nn + 1, ak, ck, ⟨vk, lk⟩, by omega, by go_num, by go_num, hidD ⟨HN2.out, by dsimp only; rw [hlk.out]; exact put2s_bo _ _ (J1.out.drewN _), PC.bo (by omega) (J2.out.drewN _), by dsimp only; rw [hlk.out]; exact T3.out, PC.below (Nat.le_refl _) (by have := J5.out; show b ≤ wr.heap.size; omega) (below_drewN J4.out _), Nat.lt_of_lt_of_le J5.out PC.size⟩⟩, by simp [intOf]; omega⟩
          · have HN2 := hidD (HN.out.trans (if_neg hgt))
            have hd : decide (cv < vk) = false := decide_eq_false hgt
            clear HN
            go_wp2_with fail
            go_quiet (fail)
            go_wp2_with fail
            exact ⟨⟨q + 1, nn, ac, cc, ⟨cv, cl⟩, by omega, by first | rfl | go_num, by go_num, hidD ⟨HN2.out, by dsimp only; rw [hcl.out]; exact J1.out.drewN _, J2.out.drewN _, by dsimp only; rw [hcl.out]; exact J3.out, below_drewN J4.out _, J5.out⟩⟩, by simp [intOf]; omega⟩
        · have hqM : q = M := by omega
          have htk : L.take q = L := List.take_of_length_le (by have := hM.out; omega)
          rw [htk] at j0
          have hi2 : ¬ (q : Int) < (M : Int) := by omega
          have e1 : (Rv.run s L).1 = cur := by rw [j0]
          have e2 : (Rv.run s L).2 = nn := by rw [j0]
          have hcf : cur.l.length ≤ 32 := by rw [← e1]; exact hfew.out
          have hRS1 : RS = cur := hRS.out.trans e1
          have hRN1 : RN = nn := hRN.out.trans e2
          subst hRS1 hRN1
          have j4' : Below w.heap.size w wr := by rw [← hb.out]; exact j4
          have cO := rownS_any (.slice ac RS.l.length cc) RS wr (j3.below j4') (by omega)
          have J2 := hidD j2
          have J4 := hidD j4
          have J5 := hidD j5
          clear j0 j1 j2 j3 j4 j5 j4' hJ htk HUw e1 e2 hRS hRN hfew
          obtain ⟨cv, cl⟩ := RS
          dsimp only at q0 q1 cO hcf ⊢
          generalize hcl : cl.length = nc at *
          replace hcl := hidD hcl
          go_wp2_with fail
          refine cO.mono ?_
          rintro e w6 ⟨r6, rfl, h6, o6⟩
          have K2 := hidD (J2.out.below h6)
          have K4 := hidD (below_on J4.out (by have := J5.out; omega) h6)
          have K5 := hidD (Nat.lt_of_lt_of_le J5.out h6.size)
          have O6 := hidD o6
          obtain ⟨a6, c6, rfl, _⟩ := id o6.ts
          have p0 := K2.out.cell 0 rfl
          have p1 := K2.out.cell 1 rfl
          have pf0 := K2.out.frozen 0
          have pf1 := K2.out.frozen 1
          have S := hidD (put2s_bo (.int .i64 cv) (.slice a6 cl.length c6) K2.out)
          have SC := hidD (put2s_cg w6 (b + 1) (.int .i64 cv) (.slice a6 cl.length c6))
          clear cO h6 o6 q0 q1 f0 f1
          go_wp2_with fail
          refine bodyPost_ret (ret_s3 rfl rfl S.out) rfl ?_
          exact ⟨_, rfl, SC.out.below (B := b) (by omega) (by have := K5.out; omega) K4.out, own_lower' (O6.out.cg SC.out (by have := J5.out; omega)) (by have := J5.out; omega)⟩
end Go.Proofs.Ytcjopphefmogiaa
