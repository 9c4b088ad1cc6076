/- timers: Order, by the reference. -/
import Derived.Test.YtkamcjebihfdlaaTmC
import Derived.Deep.CutBlock
namespace Go.Proofs.Ytkamcjebihfdlaa
open Go.RowKit
set_option linter.unusedVariables false
set_option maxRecDepth 20000

/-- A row with a gap at place a. -/
def Ti.gap (O : List Ti.T) (a : Nat) (d : Ti.T) : List Ti.T := O.take a ++ d :: O.drop a
theorem Ti.gap_len (O : List Ti.T) (a : Nat) (d : Ti.T) : (Ti.gap O a d).length = O.length + 1 := by
  unfold Ti.gap
  rw [List.length_append, List.length_cons, List.length_take, List.length_drop]
  omega
theorem Ti.gap_end (O : List Ti.T) (x : Ti.T) : Ti.gap O O.length x = O ++ [x] := by
  unfold Ti.gap
  rw [List.take_length, List.drop_length]
theorem Ti.gap_g {O : List Ti.T} {a j : Nat} {d : Ti.T} (h : j < a) (ha : a ≤ O.length) : Ti.g (Ti.gap O a d) j = Ti.g O j := by
  unfold Ti.gap Ti.g
  rw [List.getD, List.getElem?_append_left (by rw [List.length_take]; omega), List.getElem?_take, if_pos h]
  rfl
theorem Ti.gap_set (O : List Ti.T) (a : Nat) (d y : Ti.T) (ha : a ≤ O.length) : (Ti.gap O a d).set a y = Ti.gap O a y := by
  unfold Ti.gap
  rw [List.set_append_right _ _ (by rw [List.length_take]; omega), List.length_take, show a - min a O.length = 0 by omega]
  rfl
/-- One place down. -/
theorem Ti.gap_down {O : List Ti.T} {a : Nat} {d : Ti.T} (h0 : 0 < a) (ha : a ≤ O.length) : (Ti.gap O a d).set a (Ti.g O (a - 1)) = Ti.gap O (a - 1) (Ti.g O (a - 1)) := by
  rw [Ti.gap_set _ _ _ _ ha]
  unfold Ti.gap
  have h1 : a - 1 < O.length := by omega
  have e1 : O.take a = O.take (a - 1) ++ [Ti.g O (a - 1)] := by
    have := List.take_succ_eq_append_getElem h1
    rw [show a - 1 + 1 = a by omega] at this
    rw [this, Ti.g_at h1]
  have e2 : O.drop (a - 1) = Ti.g O (a - 1) :: O.drop a := by
    have := List.drop_eq_getElem_cons h1
    rw [show a - 1 + 1 = a by omega] at this
    rw [this, Ti.g_at h1]
  rw [e1, e2, List.append_assoc]
  rfl
theorem Ti.gap_perm (O : List Ti.T) (a : Nat) (x : Ti.T) : (Ti.gap O a x).Perm (x :: O) := by
  unfold Ti.gap
  have := List.perm_middle (a := x) (l₁ := O.take a) (l₂ := O.drop a)
  rw [List.take_append_drop] at this
  exact this
/-- It stays in order. -/
theorem Ti.gap_so {O : List Ti.T} {a : Nat} {x : Ti.T} (hso : Ti.so O) (ha : a ≤ O.length) (hid : ∀ y ∈ O, y.id' ≠ x.id') (h1 : ∀ j, a ≤ j → j < O.length → Ti.ah x (Ti.g O j) = true) (h2 : a = 0 ∨ Ti.ah x (Ti.g O (a - 1)) = false) : Ti.so (Ti.gap O a x) := by
  unfold Ti.gap
  rw [Ti.so, List.pairwise_append]
  have hp : ∀ y ∈ O.take a, Ti.ah y x = true := by
    intro y hy
    obtain ⟨j, hj, rfl⟩ := List.getElem_of_mem hy
    rw [List.length_take] at hj
    rw [List.getElem_take]
    rcases h2 with h2 | h2
    · omega
    · have hj2 : j < O.length := by omega
      have hm : O[j] ∈ O := List.getElem_mem hj2
      rcases Ti.ah_or (hid _ hm) with e | e
      · exact e
      · exfalso
        by_cases hja : j = a - 1
        · subst hja
          rw [Ti.g_at hj2, e] at h2
          cases h2
        · have hlt := (List.pairwise_iff_getElem.1 hso) j (a - 1) hj2 (by omega) (by omega)
          have := Ti.ah_trans e hlt
          rw [← Ti.g_at (by omega : a - 1 < O.length), h2] at this
          cases this
  have hq : ∀ y ∈ O.drop a, Ti.ah x y = true := by
    intro y hy
    obtain ⟨j, hj, rfl⟩ := List.getElem_of_mem hy
    rw [List.length_drop] at hj
    rw [List.getElem_drop]
    have := h1 (a + j) (by omega) (by omega)
    rwa [Ti.g_at (by omega)] at this
  refine ⟨hso.sublist (List.take_sublist _ _), ?_, ?_⟩
  · rw [List.pairwise_cons]
    exact ⟨hq, hso.sublist (List.drop_sublist _ _)⟩
  · intro y hy z hz
    rcases List.mem_cons.1 hz with rfl | hz
    · exact hp y hy
    · exact Ti.ah_trans (hp y hy) (hq z hz)
def Ti.orR (l : List Ti.T) : List Ti.T := if Ti.chkE l = 0 then Ti.ord l else []
theorem OT.drew' {W : World} {B : Nat} {v : Value} {l : List Ti.T} (h : OT W B v l) : OT W.drew B v l := h
set_option maxHeartbeats 16000000 in
theorem rorder_any (v : Value) (l : List Ti.T) (w : World) (hs : TS w v l) :
    Calls Try.prog 19 #[v] w fun e w' => ∃ r, e = .returned (.tuple #[r, .int .i64 (Ti.chkE l)]) ∧ Below w.heap.size w w' ∧ OT w' w.heap.size r (Ti.orR l) := by
  have CK := rcheck_any v l w hs
  have HV := hidD (fun (W : World) (b : Below w.heap.size w W) => hs.below b)
  have A0 : Hid (Ti.chkE l = 0 → Ti.orR l = Ti.ord l) := hidD (fun h => if_pos h)
  have A1 : Hid (¬ Ti.chkE l = 0 → Ti.orR l = []) := hidD (fun h => if_neg h)
  have AL := hidD (@Ti.chk_zero l)
  generalize Ti.orR l = R at *
  generalize Ti.chkE l = ck at *
  obtain ⟨a0, cap, rfl, a1, a2, _, _⟩ := id hs
  unfold maxLen at a2
  obtain ⟨n, hn⟩ : ∃ n, n = l.length := ⟨_, rfl⟩
  rw [← hn] at a1 HV CK ⊢
  replace hn := hidD hn
  obtain ⟨B, hB⟩ : ∃ B, B = w.heap.size := ⟨_, rfl⟩
  rw [← hB] at CK HV ⊢
  replace hB := hidD hB
  clear hs
  go_enter Try.func19, Try.ntmps19
  go_wp2_with fail
  with_reducible refine CK.mono ?_
  rintro e w1 ⟨rfl, h1⟩
  have HB := hidD h1
  have HBS : Hid (B ≤ w1.heap.size) := hidD (by rw [hB.out]; exact h1.size)
  clear CK h1
  by_cases hk0 : ck = 0
  case neg =>
    have hR := A1.out hk0
    subst hR
    have hk1 : (ck != 0) = true := by simp [hk0]
    clear A0 A1 AL hk0
    go_wp2_with fail
    go_ret2
    exact ⟨_, rfl, HB.out, World.ownsRow_nil _ _ _ _⟩
  subst hk0
  have hR := hidD (A0.out rfl)
  have hL : n ≤ 1024 := by rw [hn.out]; exact (AL.out rfl).1
  have HND := hidD (AL.out rfl).2.2.1
  clear A0 A1 AL
  go_wp2_with fail
  go_loopw [5, 6] (fun s i wr => ∃ (k : Nat) (O : List Ti.T), k ≤ n ∧ i = .int .i64 (k : Int) ∧ Hid (OT wr B s O ∧ Ti.so O ∧ O.Perm (l.take k) ∧ Below B w wr ∧ B ≤ wr.heap.size)) (fun _ i _ => 2000 - (intOf i).toNat)
  case atStart => exact ⟨0, [], Nat.zero_le _, rfl, hidD ⟨World.ownsRow_nil _ _ _ _, List.Pairwise.nil, by rw [List.take_zero], HB.out, HBS.out⟩⟩
  case round =>
    clear HB HBS
    obtain ⟨k, O, hk, rfl, hJ⟩ := hrel
    obtain ⟨j1, j2, j3, j4, j5⟩ := hJ.out
    by_cases hlt : k < n
    · have hi : (k : Int) < (n : Int) := by omega
      obtain ⟨ga, offa, rfl, hga, hcell⟩ := TS.at (HV.out wr j4) k (by have := hn.out; omega)
      obtain ⟨t1, t2⟩ := hcell k (by have := hn.out; omega)
      have HOL : Hid (O.length = k) := hidD (by rw [j3.length_eq, List.length_take]; have := hn.out; omega)
      have HPM : Hid (∀ O' : List Ti.T, O'.Perm (Ti.g l k :: O) → O'.Perm (l.take (k + 1))) := hidD (fun O' h => by
        rw [List.take_succ_eq_append_getElem (by have := hn.out; omega), ← Ti.g_at (by have := hn.out; omega)]
        exact h.trans ((List.Perm.cons _ j3).trans (List.perm_append_singleton _ _).symm))
      have HID : Hid (∀ y ∈ O, y.id' ≠ (Ti.g l k).id') := hidD (fun y hy => by
        have hm := j3.mem_iff.1 hy
        obtain ⟨j, hj, rfl⟩ := List.getElem_of_mem hm
        rw [List.length_take] at hj
        rw [List.getElem_take]
        have hnd := HND.out
        rw [List.nodup_iff_pairwise_ne, List.pairwise_iff_getElem] at hnd
        have := hnd j k (by rw [List.length_map]; omega) (by rw [List.length_map]; have := hn.out; omega) (by omega)
        simp only [List.getElem_map] at this
        rw [Ti.g_at (by have := hn.out; omega)]
        exact this)
      have HSO := hidD j2
      have HCL : Hid (∀ W, Below B w W → W.cell? ⟨ga, offa + k * 2, none⟩ = some (.int .i64 (Ti.g l k).at') ∧ W.cell? ⟨ga, offa + k * 2 + 1, none⟩ = some (.int .i64 (Ti.g l k).id') ∧ ga < W.heap.size) := hidD (fun W b => by
        obtain ⟨g2, o2, e, q1, q2⟩ := TS.at (HV.out W b) k (by have := hn.out; omega)
        injection e with e
        injection e with e1 e2 e3
        subst e1 e2
        obtain ⟨q3, q4⟩ := q2 k (by have := hn.out; omega)
        exact ⟨q3, q4, q1⟩)
      obtain ⟨x, hx⟩ : ∃ x, x = Ti.g l k := ⟨_, rfl⟩
      rw [← hx] at t1 t2 HPM HID HCL
      replace hx := hidD hx
      obtain ⟨xa, xi⟩ := x
      dsimp only at t1 t2
      obtain ⟨a5, c5, rfl, d1, d2, _, _⟩ := id j1.ts
      unfold maxLen at d2
      have hb0 := (Below.refl wr.heap.size wr).alloc (Nat.le_refl _) (.cells #[.int .i64 xa, .int .i64 xi] 31)
      have X1 := Bo.new wr [.int .i64 xa, .int .i64 xi] 31
      obtain ⟨W3, hW3⟩ : ∃ W3, W3 = wr.alloc (.cells #[.int .i64 xa, .int .i64 xi] 31) := ⟨_, rfl⟩
      have X2 : Bo W3 wr.heap.size [.int .i64 xa, .int .i64 xi] 31 := by rw [hW3]; exact X1
      have T0 : Hid (TS W3 (.slice (some ⟨wr.heap.size, 0, none⟩) 1 1) [⟨xa, xi⟩]) := hidD ⟨some ⟨wr.heap.size, 0, none⟩, 1, rfl, Nat.le_refl _, by unfold maxLen; decide, fun e => (by cases e), fun g off ar e h0 => by
        cases e
        refine ⟨rfl, X2.lt, fun i hi => ?_⟩
        obtain rfl : i = 0 := by simpa using hi
        exact ⟨X2.cell 0 rfl, X2.cell 1 rfl⟩⟩
      rw [← hW3] at hb0
      have O2 : Hid (OT W3 B (.slice a5 O.length c5) O) := hidD (own_below j1 hb0)
      have B1 : Hid (Below B w W3) := hidD (below_on j4 j5 hb0)
      have B2 : Hid (B ≤ W3.heap.size) := hidD (Nat.le_trans j5 hb0.size)
      obtain ⟨len, hlen⟩ : ∃ len, len = O.length := ⟨_, rfl⟩
      have hlk : len = k := by rw [hlen]; exact HOL.out
      rw [← hlen] at d1 O2 ⊢
      replace hlen := hidD hlen
      clear j1 j2 j3 j4 j5 hJ hcell hb0 X1 X2 HOL
      go_wp2_with (first | (at_builtin; rw [← hW3]; refine wpList_append_tm W3 rfl _ _ rfl B (.slice a5 len c5) (.slice (some ⟨wr.heap.size, 0, none⟩) 1 1) O [⟨xa, xi⟩] rfl O2.out rfl T0.out (by have := hlen.out; simp; omega) B2.out ?_; intro v2 w6 hown' hB6 hgrow; obtain ⟨gb, cb, rfl, hg1, hg2, hc1, hc2⟩ := hown'.lies (by simp); rw [List.length_append, List.length_singleton, ← hlen.out] at hown' hc1 ⊢))
      obtain rfl : k = len := hlk.symm
      have HO : Hid (OT w6 B (.slice (some ⟨gb, 0, none⟩) (k + 1) cb) (Ti.gap O k ⟨xa, xi⟩)) := hidD (by rw [hlen.out, Ti.gap_end, ← hlen.out]; exact hown')
      have H6 := hidD (below_then B1.out hB6)
      have H7 : Hid (B ≤ w6.heap.size) := hidD (Nat.le_trans hg1 (Nat.le_of_lt hg2))
      have HGB : Hid (B ≤ gb) := hidD hg1
      unfold maxLen at hc2
      clear hown' hB6 hgrow O2 B1 B2 T0 hW3 t1 t2 hga d1 d2 hg1
      go_wp2_with fail
      go_loopw [7] (fun p wz => ∃ (a : Nat) (d : Ti.T), a ≤ k ∧ p = .int .i64 (a : Int) ∧ Hid (OT wz B (.slice (some ⟨gb, 0, none⟩) (k + 1) cb) (Ti.gap O a d) ∧ (∀ j, a ≤ j → j < O.length → Ti.ah ⟨xa, xi⟩ (Ti.g O j) = true) ∧ Below B w wz ∧ gb < wz.heap.size ∧ B ≤ wz.heap.size)) (fun p _ => (intOf p).toNat)
      case atStart => exact ⟨k, ⟨xa, xi⟩, Nat.le_refl _, by first | rfl | go_num, hidD ⟨HO.out, fun j h1 h2 => by have := hlen.out; omega, H6.out, hg2, H7.out⟩⟩
      case round =>
        clear HO H6 H7 hg2
        obtain ⟨a, d, ha, rfl, hJ⟩ := hrel
        obtain ⟨b, hb⟩ : ∃ b, b = a - 1 := ⟨_, rfl⟩
        obtain ⟨y, hy⟩ : ∃ y, y = (decide (0 < a) && Ti.ah ⟨xa, xi⟩ (Ti.g O b)) := ⟨_, rfl⟩
        have HY := hidD hy
        have HBA := hidD hb
        clear hy hb
        have cA := hidD (rahead_any ⟨xa, xi⟩ (Ti.g O b))
        go_upto_region 10 with fail
        go_cut [41] (fun v wx => v = .bool y ∧ Below wr.heap.size wr wx)
        case first =>
          obtain ⟨j1, _, j3, j4, _⟩ := hJ.out
          by_cases h0 : a = 0
          · subst h0
            have hY : y = false := HY.out
            subst hY
            rw [show (((0 : Nat) : Int)) = 0 from rfl]
            clear HY HBA cA hJ j1 j3 j4 HCL HPM HID HSO HGB hx hlen hR HND
            go_region
            go_wp2
            go_meet
            exact ⟨rfl, below_undrew (Below.refl _ _)⟩
          · have h0' : 0 < a := by omega
            have hb := HBA.out
            have e1 : IntKind.i64.wrap ((a : Int) - 1) = (b : Int) := by rw [show (a : Int) - 1 = (b : Int) by omega]; exact wrap_ok (by omega) (by omega)
            have hOk := hlen.out
            obtain ⟨q1, q2, qg⟩ := HCL.out wr j3
            obtain ⟨u1, u2, _, _⟩ := j1.at b (by rw [Ti.gap_len]; omega)
            rw [Ti.gap_g (by omega) (by omega)] at u1 u2
            have hY := HY.out
            rw [decide_eq_true h0', Bool.true_and] at hY
            rw [← hY] at cA
            have hbk : (b : Int) < ((k + 1 : Nat) : Int) := by omega
            have hbk2 : (b : Int) < (k : Int) + 1 := by omega
            have hbk3 : b < k + 1 := by omega
            have G5 : gb < wr.drew.heap.size := j4
            have G6 : ga < wr.drew.heap.size := qg
            clear HY HBA hJ j1 j3 j4 HCL HPM HID HSO HGB hx hlen hR HND hOk hY hb
            generalize Ti.g O b = xb at *
            obtain ⟨ba, bi⟩ := xb
            dsimp only at u1 u2
            go_region_held (fun w' => w'.cell? ⟨ga, offa + k * 2, none⟩ = some (.int .i64 xa) ∧ w'.cell? ⟨ga, offa + k * 2 + 1, none⟩ = some (.int .i64 xi) ∧ w'.cell? ⟨gb, b * 2, none⟩ = some (.int .i64 ba) ∧ w'.cell? ⟨gb, b * 2 + 1, none⟩ = some (.int .i64 bi)) (first | exact ⟨q1, q2, u1, u2⟩ | exact ⟨(H9.out.cell (p := ⟨ga, offa + k * 2, none⟩) G6).trans q1, (H9.out.cell (p := ⟨ga, offa + k * 2 + 1, none⟩) G6).trans q2, (H9.out.cell (p := ⟨gb, b * 2, none⟩) G5).trans u1, (H9.out.cell (p := ⟨gb, b * 2 + 1, none⟩) G5).trans u2⟩)
              ((go_at_call 26; refine (cA.out _).mono ?_; rintro e w9 ⟨rfl, h9⟩; have H9 := hidD h9; clear h9))
            all_goals (
              go_wp2
              go_meet
              exact ⟨rfl, below_undrew H9.out⟩)
        case rest =>
          obtain ⟨rfl, h9⟩ := hcut
          generalize wc = w9 at *
          obtain ⟨j1, j2, j3, j4, j5⟩ := hJ.out
          have hOk := hlen.out
          have K1 : OT w9 B (.slice (some ⟨gb, 0, none⟩) (k + 1) cb) (Ti.gap O a d) := own_below j1 h9
          have K2 := hidD j2
          have K3 := hidD (below_then j3 (below_low h9 j5))
          have K4 : gb < w9.heap.size := Nat.lt_of_lt_of_le j4 h9.size
          have K5 : B ≤ w9.heap.size := Nat.le_trans j5 h9.size
          obtain ⟨v1, v2, v3, v4⟩ := K1.at a (by rw [Ti.gap_len]; omega)
          have hak : (a : Int) < ((k + 1 : Nat) : Int) := by omega
          have hak2 : (a : Int) < (k : Int) + 1 := by omega
          have hak3 : a < k + 1 := by omega
          clear j1 j2 j3 j4 j5 h9 hJ cA
          cases y
          · obtain ⟨q1, q2, qg⟩ := HCL.out w9 K3.out
            have P1 := K1.put a (by rw [Ti.gap_len]; omega) ⟨xa, xi⟩
            rw [Ti.gap_set _ _ _ _ (by omega)] at P1
            have hs2 : a = 0 ∨ Ti.ah ⟨xa, xi⟩ (Ti.g O (a - 1)) = false := by
              have := HY.out
              rw [HBA.out] at this
              rcases Nat.eq_zero_or_pos a with h | h
              · exact .inl h
              · rw [decide_eq_true h, Bool.true_and] at this
                exact .inr this.symm
            have HSN := hidD (Ti.gap_so (x := ⟨xa, xi⟩) HSO.out (by omega) (fun y hy => HID.out y hy) K2.out hs2)
            have HPN := hidD (HPM.out _ (Ti.gap_perm O a ⟨xa, xi⟩))
            have KB := hidD (((putT_cg w9 gb a ⟨xa, xi⟩)).below HGB.out K5 K3.out)
            have KC := hidD (Nat.le_trans K5 (putT_cg w9 gb a ⟨xa, xi⟩).size)
            have KP := hidD P1
            have e2 : IntKind.i64.wrap ((k : Int) + 1) = ((k + 1 : Nat) : Int) := wrap_ok (by omega) (by omega)
            have hk1 := hidD (show k + 1 ≤ n by omega)
            clear K1 K2 K3 K4 K5 P1 hs2 HY HBA HCL HPM HID HSO HGB HND hOk hx hlen hR
            generalize Ti.g (Ti.gap O a d) a = xg at *
            go_wp2_with fail
            exact ⟨⟨k + 1, _, hk1.out, by first | rfl | go_num, hidD ⟨KP.out, HSN.out, HPN.out, KB.out, KC.out⟩⟩, by simp [intOf]; have := hk1.out; omega⟩
          · have h0 : 0 < a := by
              have := HY.out
              rcases Nat.eq_zero_or_pos a with h | h
              · subst h; cases this
              · exact h
            have hb := HBA.out
            have e1 : IntKind.i64.wrap ((a : Int) - 1) = (b : Int) := by rw [show (a : Int) - 1 = (b : Int) by omega]; exact wrap_ok (by omega) (by omega)
            have hbk : (b : Int) < ((k + 1 : Nat) : Int) := by omega
            have hbk2 : (b : Int) < (k : Int) + 1 := by omega
            have hbk3 : b < k + 1 := by omega
            obtain ⟨u1, u2, _, _⟩ := K1.at b (by rw [Ti.gap_len]; omega)
            rw [Ti.gap_g (by omega) (by omega)] at u1 u2
            have P1 := K1.put a (by rw [Ti.gap_len]; omega) (Ti.g O b)
            rw [hb, Ti.gap_down h0 (by omega), ← hb] at P1
            have HAH := hidD (fun (j : Nat) (hj : b ≤ j) (hj2 : j < O.length) => show Ti.ah ⟨xa, xi⟩ (Ti.g O j) = true by
              rcases (by omega : j = b ∨ a ≤ j) with e | e
              · have := HY.out
                rw [decide_eq_true h0, Bool.true_and] at this
                rw [e]; exact this.symm
              · exact K2.out j e hj2)
            have KB := hidD (((putT_cg w9 gb a (Ti.g O b))).below HGB.out K5 K3.out)
            have KD := hidD (Nat.lt_of_lt_of_le K4 (putT_cg w9 gb a (Ti.g O b)).size)
            have KC := hidD (Nat.le_trans K5 (putT_cg w9 gb a (Ti.g O b)).size)
            have KP := hidD P1
            have HLT := hidD (And.intro h0 hb)
            clear K1 K2 K3 K4 K5 P1 HY HBA hOk h0 hb
            generalize Ti.g (Ti.gap O a d) a = xg at *
            obtain ⟨z, hz⟩ : ∃ z, z = Ti.g O b := ⟨_, rfl⟩
            rw [← hz] at u1 u2 KP KB KD KC
            replace hz := hidD hz
            obtain ⟨za, zi⟩ := z
            dsimp only at u1 u2
            go_wp2_with fail
            exact ⟨⟨b, ⟨za, zi⟩, by have := HLT.out; omega, by first | rfl | go_num, hidD ⟨KP.out, HAH.out, KB.out, KD.out, KC.out⟩⟩, by have := HLT.out; simp [intOf]; omega⟩
    · have HE := hidD (And.intro j1 (And.intro j2 (And.intro j3 j4)))
      have hk' : k = n := by omega
      subst hk'
      have HR : Hid (Ti.ord l = O) := hidD (by
        have hp := HE.out.2.2.1
        rw [hn.out, List.take_length] at hp
        exact (Ti.ord_is (by have h := HND.out; rw [List.nodup_iff_pairwise_ne, List.pairwise_map] at h; rw [List.nodup_iff_pairwise_ne]; exact h.imp (fun h e => h (by rw [e]))) HE.out.2.1 hp).symm)
      clear j1 j2 j3 j4 j5 hJ
      go_wp2_with fail
      go_ret2
      exact ⟨_, rfl, HE.out.2.2.2, by rw [hR.out, HR.out]; exact HE.out.1⟩
end Go.Proofs.Ytkamcjebihfdlaa
