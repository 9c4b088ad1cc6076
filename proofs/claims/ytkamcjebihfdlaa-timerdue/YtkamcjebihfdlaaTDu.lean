/- TimerDue: those that are due are told, in the order of all, and none that is left is: for every row of timers and every tick that fit a machine. -/
import Derived.Test.YtkamcjebihfdlaaRows
import Derived.BigQuiet
import Derived.Deep.QuietTactic
import Derived.WalkKit
import Derived.ProofKit
import Derived.OpenShut
import Derived.ShutString
import Derived.Test.YtkamcjebihfdlaaTmZ
import Derived.Test.YtkamcjebihfdlaaOpenTm
namespace Go.Proofs.Ytkamcjebihfdlaa.timerDue
open Go.ChangeShapes Go.WideShapes Go.ChangeAt Go.RowKit
open Go.ChangeMaps (open_string shut_string)
set_option linter.unusedVariables false
set_option maxRecDepth 20000

theorem Ti.cnt {t : Int} (l : List Ti.T) : ∃ m, m = (l.takeWhile (Ti.isDue t)).length ∧ m ≤ l.length ∧ (∀ k, k < m → (Ti.g l k).at' ≤ t) ∧ (m < l.length → ¬ (Ti.g l m).at' ≤ t) ∧ l.take m = l.takeWhile (Ti.isDue t) ∧ l.drop m = l.dropWhile (Ti.isDue t) := by
  refine ⟨_, rfl, (List.takeWhile_sublist _).length_le, ?_, ?_, ?_, ?_⟩
  · intro k hk
    have h1 : k < l.length := Nat.lt_of_lt_of_le hk (List.takeWhile_sublist _).length_le
    rw [Ti.g_at h1]
    have h2 : (l.takeWhile (Ti.isDue t))[k] = l[k] := by
      have := List.takeWhile_prefix (p := Ti.isDue t) (l := l)
      exact this.getElem hk
    have h3 := List.all_eq_true.1 (List.all_takeWhile (p := Ti.isDue t) (l := l)) _ (List.getElem_mem hk)
    rw [h2] at h3
    exact of_decide_eq_true h3
  · induction l with
    | nil => intro h; simp at h
    | cons x r ih =>
      by_cases hx : Ti.isDue t x = true
      · rw [List.takeWhile_cons_of_pos hx]
        intro h
        simp only [List.length_cons] at h ⊢
        exact ih (by omega)
      · rw [List.takeWhile_cons_of_neg hx]
        intro _ h
        exact hx (decide_eq_true h)
  · have := List.takeWhile_prefix (p := Ti.isDue t) (l := l)
    exact (List.prefix_iff_eq_take.1 this).symm
  · have h1 := List.takeWhile_append_dropWhile (p := Ti.isDue t) (l := l)
    have h2 := congrArg (List.drop (l.takeWhile (Ti.isDue t)).length) h1
    rw [List.drop_left] at h2
    exact h2.symm
theorem Ti.id_at (l : List Ti.T) (k : Nat) (h : k < l.length) : (l.map Ti.T.id').getD k 0 = (Ti.g l k).id' := by
  rw [Ti.g_at h]
  simp [List.getD, h]
theorem Ti.g_take (l : List Ti.T) (m k : Nat) (h : k < m) : Ti.g (l.take m) k = Ti.g l k := by
  simp [Ti.g, List.getD, h]
theorem TS.dropped {w : World} {g n cap k : Nat} {l : List Ti.T} (h : TS w (.slice (some ⟨g, 0, none⟩) n cap) l) (hn : l.length = n) (hk : k ≤ n) : TS w (.slice (some ⟨g, k * 2, none⟩) (n - k) (cap - k)) (l.drop k) := by
  obtain ⟨a, c, e, h1, h2, h3, h4⟩ := h
  cases e
  refine ⟨some ⟨g, k * 2, none⟩, cap - k, by rw [List.length_drop], by rw [List.length_drop]; omega, by omega, fun e => (by cases e), fun g' off ar e h0 => ?_⟩
  cases e
  rw [List.length_drop] at h0
  obtain ⟨q1, q2, q3⟩ := h4 g 0 none rfl (by omega)
  refine ⟨rfl, q2, fun i hi => ?_⟩
  rw [List.length_drop] at hi
  obtain ⟨r1, r2⟩ := q3 (k + i) (by omega)
  have e1 : Ti.g (l.drop k) i = Ti.g l (k + i) := by simp [Ti.g, List.getD]
  rw [e1]
  rw [show 0 + (k + i) * 2 = k * 2 + i * 2 by omega] at r1 r2
  exact ⟨r1, r2⟩
theorem TS.empty (w : World) (A : Addr) (c : Nat) (hc : c ≤ maxLen) : TS w (.slice (some A) 0 c) [] := ⟨some A, c, rfl, Nat.zero_le _, hc, fun e => (by cases e), fun g off ar e h0 => by simp at h0⟩
set_option maxHeartbeats 16000000 in
theorem due_walk (v0 : Value) (l : List Ti.T) (t : Int) (w : World) (hs : TS w v0 l) (z0 : l.length ≤ 8796093022208) :
    Calls Try.prog 5 #[v0, .int .i64 t] w fun e w' => e = .returned (.bool true) ∧ Below w.heap.size w w' := by
  have cal := calive w
  have HS := hidD (fun (W : World) (b : Below w.heap.size w W) => hs.below b)
  have CD := hidD (fun (x : Value) (W : World) (h : TS W x l) => cdue x l t W h z0)
  have CR := hidD (fun (x : Value) (W : World) (h : TS W x l) => order_any x l W h)
  have CR2 := hidD (fun (x : Value) (W : World) (h : TS W x (Ti.dueL l t)) => order_any x (Ti.dueL l t) W h)
  have D0 : Hid (Ti.chkE l = 0 → Ti.chkE (Ti.dueL l t) = 0 ∧ Ti.dueI l t = ((Ti.orR l).takeWhile (Ti.isDue t)).map Ti.T.id' ∧ Ti.orR (Ti.dueL l t) = (Ti.orR l).dropWhile (Ti.isDue t)) := hidD (fun h => ⟨Ti.due_chk t h, (Ti.due_all t h).1, (Ti.due_all t h).2⟩)
  have D1 : Hid (¬ Ti.chkE l = 0 → (Ti.dueL l t).length = 0 ∧ (Ti.dueI l t).length = 0) := hidD (fun h => by rw [Ti.dueL, if_neg h, Ti.dueI, if_neg h]; exact ⟨rfl, rfl⟩)
  generalize Ti.dueI l t = iD at *
  generalize Ti.chkE (Ti.dueL l t) = ck2 at *
  generalize Ti.orR (Ti.dueL l t) = rR2 at *
  generalize Ti.dueL l t = rD at *
  generalize Ti.orR l = rR at *
  generalize Ti.chkE l = ck at *
  obtain ⟨a0, c0, rfl, _⟩ := id hs
  clear hs z0
  go_enter Try.func5, Try.ntmps5
  go_wp2_with fail
  with_reducible refine cal.mono ?_
  rintro e w1 ⟨rfl, b1⟩
  have B1 := hidD b1
  clear cal b1
  go_wp2_with fail
  refine (CD.out _ w1 (HS.out w1 B1.out)).mono ?_
  rintro e w2 ⟨rd, sd, rfl, b2, od, od2⟩
  have B2 := hidD (below_then B1.out (below_low b2 B1.out.size))
  have OD := hidD od
  obtain ⟨aOD, cOD, rfl, _⟩ := id od.ts
  have SD := hidD (Seg.own od2)
  obtain ⟨asd, csd, rfl, _, dsd, _⟩ := id (Seg.own od2)
  clear b2 od od2 CD
  go_wp2_with fail
  refine (CR.out _ w2 (HS.out w2 B2.out)).mono ?_
  rintro e w3 ⟨rr, rfl, b3, orr⟩
  have B3 := hidD (below_then B2.out (below_low b3 B2.out.size))
  replace OD := hidD (OD.out.on b3)
  replace SD := hidD (SD.out.below b3)
  have OR := hidD orr
  obtain ⟨aOR, cOR, rfl, dON, dOR, _⟩ := id orr.ts
  unfold maxLen at dOR dsd
  clear b3 orr CR HS
  by_cases hk : ck = 0
  case neg =>
    obtain ⟨e1, e2⟩ := D1.out hk
    have hk1 : (ck != 0) = true := by simp [hk]
    rw [e1, e2]
    clear D0 D1 CR2 hk e1 e2 OD OR SD
    go_wp2_with (first | (go_at_call 21; refine (num_any _ _).mono ?_; rintro e ww ⟨rfl, rfl⟩))
    go_ret
    exact ⟨by first | rfl | simp, B3.out⟩
  subst hk
  obtain ⟨e1, e2, e3⟩ := D0.out rfl
  subst e1
  obtain ⟨m, hm, m1, m2, m3, m4, m5⟩ := Ti.cnt (t := t) rR
  rw [← m4] at e2
  rw [← m5] at e3
  have HM2 := hidD m2
  have HM3 := hidD m3
  have cR := CR2.out _ w3 OD.out.ts
  rw [e3] at cR
  have HI : Hid (iD.length = m ∧ ∀ k, k < m → iD.getD k 0 = (Ti.g rR k).id') := hidD (by
    refine ⟨by rw [e2, List.length_map, List.length_take]; omega, fun k hk => ?_⟩
    rw [e2, Ti.id_at _ _ (by rw [List.length_take]; omega), Ti.g_take _ _ _ hk])
  clear D0 D1 CR2 hm m2 m3 m4 m5 e2 e3
  obtain ⟨n, hn⟩ : ∃ n, n = rR.length := ⟨_, rfl⟩
  have hil := HI.out.1
  rw [← hn] at m1 dON
  have HN := hidD hn
  rw [← hn] at HM3 ⊢
  rw [hil]
  have OR2 : Hid (OT w3 w2.heap.size (.slice aOR n cOR) rR) := hidD (by rw [hn]; exact OR.out)
  have SD2 : Hid (Seg .i64 w3 (.slice asd m csd) iD) := hidD (by rw [← hil]; exact SD.out)
  clear hn hil OR SD
  go_wp2_with (first | (go_at_call 21; refine (num_any _ _).mono ?_; rintro e ww ⟨rfl, rfl⟩))
  refine cR.mono ?_
  rintro e w4 ⟨rt, rfl, b4, ot⟩
  have B4 := hidD (below_then B3.out (below_low b4 B3.out.size))
  replace OR2 := hidD (OR2.out.on b4)
  replace SD2 := hidD (SD2.out.below b4)
  have OT4 := hidD ot.ts
  obtain ⟨aT, cT, rfl, _⟩ := id ot.ts
  obtain ⟨nT, hnT⟩ : ∃ nT, nT = (rR.drop m).length := ⟨_, rfl⟩
  rw [← hnT] at OT4 ⊢
  replace hnT := hidD hnT
  clear b4 ot cR OD
  go_wp2_with fail
  go_loopw [12] (fun i wr => ∃ k : Nat, k ≤ m ∧ i = .int .i64 (k : Int) ∧ w4 = wr) (fun i _ => n - (intOf i).toNat)
  case atStart => exact ⟨0, Nat.zero_le _, rfl, rfl⟩
  case round =>
    obtain ⟨k, hk, rfl, rfl⟩ := hrel
    by_cases hlt : k < m
    · obtain ⟨g, off, rfl, hg, hcell⟩ := TS.at OR2.out.ts k (by have := HN.out; omega)
      obtain ⟨q1, q2⟩ := hcell k (by have := HN.out; omega)
      have hat := HM2.out k hlt
      have hi : (k : Int) < (n : Int) := by omega
      have hkw : IntKind.i64.wrap ((k : Int) + 1) = (k : Int) + 1 := by rw [IntKind.wrap_i64]; omega
      clear hcell
      generalize Ti.g rR k = x at *
      obtain ⟨xa, xi⟩ := x
      dsimp only at q1 q2 hat
      go_wp2_with fail
      exact ⟨⟨k + 1, by omega, by go_num, (by first | rfl | trivial)⟩, by simp [intOf]; omega⟩
    · have hkm : k = m := by omega
      subst hkm
      have HDR : Hid (∀ (g cap : Nat), OT w4 w2.heap.size (.slice (some ⟨g, 0, none⟩) n cap) rR → TS w4 (.slice (some ⟨g, k * 2, none⟩) (n - k) (cap - k)) (rR.drop k)) := hidD (fun g cap h => TS.dropped h.ts HN.out.symm m1)
      have hsl : ((n : Int) - (k : Int)).toNat = n - k := by omega
      have B4S := B4.out.size
      rcases OR2.out.2 with ⟨e0, e1⟩ | ⟨g, cap9, cur, e0, hg0, _⟩
      · cases e0
        obtain rfl : k = 0 := by omega
        have hr0 : rR = [] := List.length_eq_zero_iff.1 e1
        subst hr0
        have cS := tsame_true (.slice aT nT cT) (.slice none 0 0) [] w4 OT4.out (TS.nil _)
        have SG := hidD (fun (W : World) (b : Below w4.heap.size w4 W) => SD2.out.below b)
        have TR := hidD (fun (W : World) (b : Below w4.heap.size w4 W) => OR2.out.ts.below b)
        clear OT4 OR2 SD2 HDR HM2 HM3
        go_wp2_with (first | (go_at_call 21; refine (num_any _ _).mono ?_; rintro e ww ⟨rfl, rfl⟩))
        with_reducible refine cS.mono ?_
        rintro e w5 ⟨rfl, b5⟩
        have B5 := hidD b5
        clear cS b5
        go_wp2_with fail
        go_loopw [13] (fun i wr => ∃ q : Nat, q ≤ 0 ∧ i = .int .i64 (q : Int) ∧ Hid (Below w4.heap.size w4 wr)) (fun i _ => 0 - (intOf i).toNat)
        case atStart => exact ⟨0, Nat.zero_le _, rfl, B5⟩
        case round =>
          clear B5
          obtain ⟨q, hq, rfl, hJ⟩ := hrel
          have hq0 : q = 0 := by omega
          subst hq0
          have hE := hidD (below_then B4.out (below_low hJ.out B4.out.size))
          clear hJ
          go_wp2_with fail
          go_ret
          exact ⟨rfl, hE.out⟩
      · injection e0 with e01 e02 e03
        subst e01 e03
        clear e02 hg0
        have cS := tsame_true _ (.slice (some ⟨g, k * 2, none⟩) (n - k) (cOR - k)) (rR.drop k) w4 OT4.out (HDR.out g cOR OR2.out)
        have hkn : (k : Int) ≤ (n : Int) := by omega
        have hkc : (k : Int) ≤ (cOR : Int) := by omega
        have hkc2 : k ≤ cOR := by omega
        have hsc : ((cOR : Int) - (k : Int)).toNat = cOR - k := by omega
        by_cases hkn2 : k < n
        · obtain ⟨g9, off9, e9, _, hcell⟩ := TS.at OR2.out.ts k (by have := HN.out; omega)
          cases e9
          obtain ⟨q1, _⟩ := hcell k (by have := HN.out; omega)
          rw [Nat.zero_add] at q1
          have hat := HM3.out hkn2
          have hcc : ¬ k = cOR := by omega
          have hcc2 : ¬ (k : Int) = (cOR : Int) := by omega
          have hki : (k : Int) < (n : Int) := by omega
          clear hcell
          generalize (Ti.g rR k).at' = xa at *
          have SG := hidD (fun (W : World) (b : Below w4.heap.size w4 W) => SD2.out.below b)
          have TR := hidD (fun (W : World) (b : Below w4.heap.size w4 W) => OR2.out.ts.below b)
          clear OT4 OR2 SD2 HDR HM2 HM3
          go_wp2_with (first | (go_at_call 21; refine (num_any _ _).mono ?_; rintro e ww ⟨rfl, rfl⟩))
          with_reducible refine cS.mono ?_
          rintro e w5 ⟨rfl, b5⟩
          have B5 := hidD b5
          clear cS b5
          go_wp2_with fail
          go_loopw [13] (fun i wr => ∃ q : Nat, q ≤ k ∧ i = .int .i64 (q : Int) ∧ Hid (Below w4.heap.size w4 wr)) (fun i _ => n - (intOf i).toNat)
          case atStart => exact ⟨0, Nat.zero_le _, rfl, B5⟩
          case round =>
            clear B5
            obtain ⟨q, hq, rfl, hJ⟩ := hrel
            by_cases hlq : q < k
            · have HID := HI.out.2 q hlq
              obtain ⟨gb, offb, rfl, hgb, Q⟩ := Seg.atE (SG.out wr hJ.out) q (by have := HI.out.1; omega)
              obtain ⟨gt, offt, e4, hgt, hcell⟩ := TS.at (TR.out wr hJ.out) q (by have := HN.out; omega)
              cases e4
              obtain ⟨_, q2⟩ := hcell q (by have := HN.out; omega)
              rw [Nat.zero_add] at q2
              rw [HID] at Q
              have hqw : IntKind.i64.wrap ((q : Int) + 1) = (q : Int) + 1 := by rw [IntKind.wrap_i64]; omega
              have hi1 : (q : Int) < (n : Int) := by omega
              have hi2 : (q : Int) < (k : Int) := by omega
              clear hcell HID
              generalize (Ti.g rR q).id' = y at *
              go_wp2_with fail
              go_quiet (fail)
              go_wp2_with fail
              exact ⟨⟨q + 1, by omega, by go_num, hidD (below_drewN hJ.out _)⟩, by simp [intOf]; omega⟩
            · have hqk : q = k := by omega
              have hi2 : ¬ (q : Int) < (k : Int) := by omega
              have hE := hidD (below_then B4.out (below_low hJ.out B4.out.size))
              clear hJ
              go_wp2_with fail
              go_ret
              exact ⟨rfl, hE.out⟩
        · have hki : ¬ (k : Int) < (n : Int) := by omega
          have hnk : n - k = 0 := by omega
          have hdr : rR.drop k = [] := by rw [List.drop_eq_nil_iff]; have := HN.out; omega
          by_cases hcc : k = cOR
          · have cS2 := tsame_true (.slice aT nT cT) (.slice (some ⟨g, 0, none⟩) 0 0) (rR.drop k) w4 OT4.out (by rw [hdr]; exact TS.empty _ _ _ (by unfold maxLen; omega))
            clear cS hnk hdr
            subst hcc
            have SG := hidD (fun (W : World) (b : Below w4.heap.size w4 W) => SD2.out.below b)
            have TR := hidD (fun (W : World) (b : Below w4.heap.size w4 W) => OR2.out.ts.below b)
            clear OT4 OR2 SD2 HDR HM2 HM3
            go_wp2_with (first | (go_at_call 21; refine (num_any _ _).mono ?_; rintro e ww ⟨rfl, rfl⟩))
            with_reducible refine cS2.mono ?_
            rintro e w5 ⟨rfl, b5⟩
            have B5 := hidD b5
            clear cS2 b5
            go_wp2_with fail
            go_loopw [13] (fun i wr => ∃ q : Nat, q ≤ k ∧ i = .int .i64 (q : Int) ∧ Hid (Below w4.heap.size w4 wr)) (fun i _ => n - (intOf i).toNat)
            case atStart => exact ⟨0, Nat.zero_le _, rfl, B5⟩
            case round =>
              clear B5
              obtain ⟨q, hq, rfl, hJ⟩ := hrel
              by_cases hlq : q < k
              · have HID := HI.out.2 q hlq
                obtain ⟨gb, offb, rfl, hgb, Q⟩ := Seg.atE (SG.out wr hJ.out) q (by have := HI.out.1; omega)
                obtain ⟨gt, offt, e4, hgt, hcell⟩ := TS.at (TR.out wr hJ.out) q (by have := HN.out; omega)
                cases e4
                obtain ⟨_, q2⟩ := hcell q (by have := HN.out; omega)
                rw [Nat.zero_add] at q2
                rw [HID] at Q
                have hqw : IntKind.i64.wrap ((q : Int) + 1) = (q : Int) + 1 := by rw [IntKind.wrap_i64]; omega
                have hi1 : (q : Int) < (n : Int) := by omega
                have hi2 : (q : Int) < (k : Int) := by omega
                clear hcell HID
                generalize (Ti.g rR q).id' = y at *
                go_wp2_with fail
                go_quiet (fail)
                go_wp2_with fail
                exact ⟨⟨q + 1, by omega, by go_num, hidD (below_drewN hJ.out _)⟩, by simp [intOf]; omega⟩
              · have hqk : q = k := by omega
                have hi2 : ¬ (q : Int) < (k : Int) := by omega
                have hE := hidD (below_then B4.out (below_low hJ.out B4.out.size))
                clear hJ
                go_wp2_with fail
                go_ret
                exact ⟨rfl, hE.out⟩
          · have hcc2 : ¬ (k : Int) = (cOR : Int) := by omega
            clear hnk hdr
            have SG := hidD (fun (W : World) (b : Below w4.heap.size w4 W) => SD2.out.below b)
            have TR := hidD (fun (W : World) (b : Below w4.heap.size w4 W) => OR2.out.ts.below b)
            clear OT4 OR2 SD2 HDR HM2 HM3
            go_wp2_with (first | (go_at_call 21; refine (num_any _ _).mono ?_; rintro e ww ⟨rfl, rfl⟩))
            with_reducible refine cS.mono ?_
            rintro e w5 ⟨rfl, b5⟩
            have B5 := hidD b5
            clear cS b5
            go_wp2_with fail
            go_loopw [13] (fun i wr => ∃ q : Nat, q ≤ k ∧ i = .int .i64 (q : Int) ∧ Hid (Below w4.heap.size w4 wr)) (fun i _ => n - (intOf i).toNat)
            case atStart => exact ⟨0, Nat.zero_le _, rfl, B5⟩
            case round =>
              clear B5
              obtain ⟨q, hq, rfl, hJ⟩ := hrel
              by_cases hlq : q < k
              · have HID := HI.out.2 q hlq
                obtain ⟨gb, offb, rfl, hgb, Q⟩ := Seg.atE (SG.out wr hJ.out) q (by have := HI.out.1; omega)
                obtain ⟨gt, offt, e4, hgt, hcell⟩ := TS.at (TR.out wr hJ.out) q (by have := HN.out; omega)
                cases e4
                obtain ⟨_, q2⟩ := hcell q (by have := HN.out; omega)
                rw [Nat.zero_add] at q2
                rw [HID] at Q
                have hqw : IntKind.i64.wrap ((q : Int) + 1) = (q : Int) + 1 := by rw [IntKind.wrap_i64]; omega
                have hi1 : (q : Int) < (n : Int) := by omega
                have hi2 : (q : Int) < (k : Int) := by omega
                clear hcell HID
                generalize (Ti.g rR q).id' = y at *
                go_wp2_with fail
                go_quiet (fail)
                go_wp2_with fail
                exact ⟨⟨q + 1, by omega, by go_num, hidD (below_drewN hJ.out _)⟩, by simp [intOf]; omega⟩
              · have hqk : q = k := by omega
                have hi2 : ¬ (q : Int) < (k : Int) := by omega
                have hE := hidD (below_then B4.out (below_low hJ.out B4.out.size))
                clear hJ
                go_wp2_with fail
                go_ret
                exact ⟨rfl, hE.out⟩

theorem walk {w : World} (v0 : Value) (l0 : List Ti.T) (hs0 : TS w v0 l0) (ho0 : ∀ x, x ∈ l0 → okTimer x) (z0 : l0.length ≤ 8796093022208) (a1 : Int) (w1 : (Lit.int .i64 a1).wf = true) :
    Calls Try.prog 5 #[v0, .int .i64 a1] w fun e w' => e = .returned (.bool true) ∧ Below w.heap.size w w' :=
  due_walk v0 l0 a1 w hs0 z0

set_option maxRecDepth 100000 in
theorem lifted (os : Os) (started : os.Started) (H : Type) (enc : TypeId × Value → H) :
    ReturnsInHanded {} Try.checked os 5 .any (Rows.timerDueSpec.pre6 enc Try.prog Try.f5 Rows.timerDueRow.domain false) (Rows.timerDueSpec.post enc Try.prog Try.f5 false true false false) := by
  refine returnsInHanded_of_change_sized (C := Try.checked) own started (by kernel_rfl) Try.func5
    (ChangeSpec.witness6 (enc := enc) (C := Try.checked) false ⟨#[], #[.slice none 0 0, .int .i64 0], []⟩ 8 (by kernel_rfl) (by kernel_rfl) (by kernel_rfl) (by kernel_rfl)) ?_
  intro W base args ds gs before hval0 hW hcnd hsz0 _
  have hval : ∀ (j : Nat) t v, Try.f5.params[j]? = some t → args[j]? = some v → Value.okWide Try.prog W .any base t v := hval0
  have hsz : (DataW.weightsEach Try.prog (Try.f5.params.toList ++ Rows.timerDueSpec.plain.varTypes Try.prog) (ds ++ gs)).all (· ≤ reachBytes) = true := hsz0
  have hW' := hW
  obtain ⟨p, q, hA0, hV, rfl, hfz, hnd⟩ := hW
  have hA : DataW.TrodAll enc Try.prog W 0 (fun _ => true) true Try.f5.params.toList args.toList ds p := hA0
  rw [Try.params5] at hA hval hsz
  obtain ⟨v0, vs0, d0, ds0, p0, q0, hargs, rfl, rfl, h0, r0⟩ := trodAll_cons hA
  obtain ⟨v1, vs1, d1, ds1, p1, q1, rfl, rfl, rfl, h1, r1⟩ := trodAll_cons r0
  obtain ⟨rfl, rfl, rfl⟩ := trodAll_nil r1
  obtain rfl : args = #[v0, v1] := by cases args; simp_all
  obtain ⟨rfl, rfl⟩ := trodVars_none hV
  have k0 := h0
  have lt0 : ∀ x ∈ p0, x.block < W.heap.size := by obtain ⟨m, hm⟩ := k0; exact DataW.trod_lt m _ _ _ hm
  obtain ⟨l0, hs0, ho0, e0⟩ := open_timers (hval 0 22 v0 rfl rfl) h0
  have z0 : l0.length ≤ 8796093022208 := by
    rcases e0 with ⟨_, rfl⟩ | ⟨elems, spare, rfl, hl⟩
    · simp
    · have := sized_slice hsz (j := 0) (t := 22) (e := 31) rfl rfl Try.underlying22
      rw [Try.bytesT] at this
      simp only [reachBytes] at this
      omega
  obtain ⟨a1, rfl, rfl, rfl, w1⟩ := open_int Try.underlying3 (hval 1 3 v1 rfl rfl) h1
  clear hA0 hval0
  refine (walk v0 l0 hs0 ho0 z0 a1 w1).mono fun e W' ⟨he, bel⟩ => ?_
  subst he
  exact ⟨_, rfl, _, _, _, [], _, [], hW', trodAll_mk1 (shut_bool Try.underlying4 _), (trodAll_cons_mk (Below.trod laidOut (by kernel_rfl) (of_decide_eq_true (by kernel_rfl)) k0 bel lt0) (trodAll_cons_mk (shut_int Try.underlying3 w1) trodAll_mk0)), rfl, bel.frame _, fun h => by cases h⟩

theorem over : Rows.timerDueRow.holds Try.pinned (OpenSpec.ofChange Rows.timerDueSpec) :=
  OpenClaim.holds_of_wide 5 Try.f5 rfl rfl rfl rfl rfl rfl rfl ⟨rfl, rfl, rfl, rfl, rfl⟩ rfl rfl rfl rfl rfl (by kernel_rfl) Try.func5 (by kernel_rfl)
    (of_decide_eq_true (by kernel_rfl)) (by unfold Func.isWrapper; first | (rw [if_pos (by decide +kernel)]; kernel_rfl) | (rw [if_neg (by decide +kernel)]; exact ⟨rfl, rfl⟩))
    (fun os started H enc _ => lifted os started H enc)
end Go.Proofs.Ytkamcjebihfdlaa.timerDue

namespace Go.Proofs.Ytkamcjebihfdlaa
/-- THE STATEMENT. -/
theorem timerDue_holds : Rows.TimerDueSaid := timerDue.over
#print axioms timerDue_holds
end Go.Proofs.Ytkamcjebihfdlaa
