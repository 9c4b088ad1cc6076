/- timers: Cancel (the code's). -/
import Derived.Test.YtkamcjebihfdlaaTmT
import Derived.Test.YtkamcjebihfdlaaTmU
namespace Go.Proofs.Ytkamcjebihfdlaa
open Go.RowKit
set_option linter.unusedVariables false
set_option maxRecDepth 20000

set_option maxHeartbeats 2000000 in
theorem gone_t (bb bs n z : Nat) (U : List Int) (x : Ti.T) (W : World) (hb : W.cell? ⟨bb, 0, none⟩ = some (.map (some bs))) (hm : MS W bs n z U) (hx : (Lit.int .i64 x.id').wf = true) :
    Calls Try.prog 35 #[vT x, .pointer (some ⟨bb, 0, none⟩)] W fun e w' => e = .returned (.bool (!decide (x.id' ∈ U))) ∧ Below W.heap.size W w' := by
  obtain ⟨a, i⟩ := x
  obtain ⟨D, hown, hhas, _⟩ := hm
  have hh := hhas i hx
  have HX := hidD hx
  have HOW := hidD (hown.alloc (.cells #[.int .i64 a, .int .i64 i] 31))
  have hb2 : (W.alloc (.cells #[.int .i64 a, .int .i64 i] 31)).cell? ⟨bb, 0, none⟩ = some (.map (some bs)) := Lib.cell?_alloc_some _ hb
  have HB := hidD (((Below.refl W.heap.size W).alloc (Nat.le_refl _) (.cells #[.int .i64 a, .int .i64 i] 31)).alloc (by rw [World.size_alloc]; omega) (.cells #[] 60))
  dsimp only
  generalize decide (i ∈ U) = y at *
  clear hhas hown hx hb
  go_enter Try.func35, Try.ntmps35
  go_wp2_with (first | (at_lookup; refine wpList_lookup_own_unit _ rfl _ _ 57 rfl 3 60 (Maps.int_keyed Try.underlying3) Try.underlying57 zeroU bs n D rfl HOW.out _ _ rfl (Maps.keyOf_int_mk Try.underlying3 HX.out) ?_; rw [hh]))
  go_ret
  exact ⟨rfl, HB.out⟩
theorem Ti.rest_next' (ids : List Int) (k : Nat) (hk : k < ids.length) (U V : List Int) (h : ∀ i, i ∈ V ↔ i ∈ U ∧ i ∉ ids.take k) : ∀ i, i ∈ V.filter (fun y => decide (y ≠ ids.getD k 0)) ↔ i ∈ U ∧ i ∉ ids.take (k + 1) := by
  intro i
  have e : ids.getD k 0 = ids[k] := by simp [List.getD, hk]
  rw [List.take_succ_eq_append_getElem hk, List.mem_filter, h, e, List.mem_append, List.mem_singleton, decide_eq_true_iff]
  constructor
  · rintro ⟨⟨h1, h2⟩, h3⟩
    exact ⟨h1, fun h4 => h4.elim h2 h3⟩
  · rintro ⟨h1, h2⟩
    exact ⟨⟨h1, fun h3 => h2 (.inl h3)⟩, fun h3 => h2 (.inr h3)⟩
theorem Ti.gone_rest (ids : List Int) (l : List Ti.T) : l.length = Ti.gone ids l + (Ti.rest ids l).length := by
  unfold Ti.gone Ti.rest Ti.off
  induction l with
  | nil => rfl
  | cons x r ih =>
    by_cases h : ids.contains x.id' = true
    · rw [List.filter_cons_of_pos (p := fun x : Ti.T => ids.contains x.id') h, List.filter_cons_of_neg (p := fun x : Ti.T => !ids.contains x.id') (by rw [h]; decide)]
      simp only [List.length_cons]
      omega
    · rw [List.filter_cons_of_neg (p := fun x : Ti.T => ids.contains x.id') h, List.filter_cons_of_pos (p := fun x : Ti.T => !ids.contains x.id') (by simpa using h)]
      simp only [List.length_cons]
      omega
theorem Ti.puts_next (l : List Ti.T) (k : Nat) (hk : k < l.length) : Ti.puts [] (l.take (k + 1)) = Ti.put (Ti.puts [] (l.take k)) (Ti.g l k) := by
  unfold Ti.puts
  rw [List.take_succ_eq_append_getElem hk, List.foldl_append, ← Ti.g_at hk]
  rfl
set_option maxHeartbeats 16000000 in
theorem cancel_any (v u : Value) (l : List Ti.T) (ids : List Int) (w : World) (hs : TS w v l) (hm : Seg .i64 w u ids) (hlen : l.length ≤ 8796093022208) (hwf : ∀ i ∈ ids, (Lit.int .i64 i).wf = true) :
    Calls Try.prog 16 #[v, u] w fun e w' => ∃ r, e = .returned (.tuple #[r, .int .i64 (Ti.canN l ids), .int .i64 (Ti.chkE l)]) ∧ Below w.heap.size w w' ∧ OT w' w.heap.size r (Ti.canR l ids) := by
  have CK := check_any v l w hs
  have CO := hidD (fun (W : World) (b : Below w.heap.size w W) => clone_t v l W (hs.below b) hlen)
  have CI : Hid (Ti.chkE l = 0 → ∀ W, Below w.heap.size w W → Calls Try.prog 28 #[v] W fun e w' => e = .returned (.map (some W.heap.size)) ∧ MS w' W.heap.size l.length (Ti.uq l).length (Ti.uq l) ∧ Below W.heap.size W w') := hidD fun h W b => ids_any v l W (hs.below b) (fun x hx => Ti.wf_may (List.all_eq_true.1 (Ti.chk_zero h).2.1 x hx)) (by have := (Ti.chk_zero h).1; omega)
  have HM := hidD (fun (W : World) (b : Below w.heap.size w W) => hm.below b)
  have HWF := hidD hwf
  have A0 : Hid (Ti.chkE l = 0 → Ti.canN l ids = (Ti.gone ids l : Nat) ∧ Ti.canR l ids = Ti.puts [] (Ti.rest ids l)) := hidD (fun h => ⟨if_pos h, if_pos h⟩)
  have A1 : Hid (¬ Ti.chkE l = 0 → Ti.canN l ids = 0 ∧ Ti.canR l ids = []) := hidD (fun h => ⟨if_neg h, if_neg h⟩)
  have AL := hidD (@Ti.chk_zero l)
  generalize Ti.canN l ids = E at *
  generalize Ti.canR l ids = R at *
  obtain ⟨ck, hck⟩ : ∃ ck, ck = Ti.chkE l := ⟨_, rfl⟩
  rw [← hck] at CK A0 A1 AL CI ⊢
  clear hck
  obtain ⟨a, cap, rfl, a1, a2, _, _⟩ := id hs
  obtain ⟨b, cap', rfl, b1, b2, _, _⟩ := id hm
  unfold maxLen at a2 b2
  obtain ⟨M, hM⟩ : ∃ M, M = ids.length := ⟨_, rfl⟩
  rw [← hM] at b1 HM ⊢
  replace hM := hidD hM
  obtain ⟨B, hB⟩ : ∃ B, B = w.heap.size := ⟨_, rfl⟩
  rw [← hB] at CK CO HM CI ⊢
  replace hB := hidD hB
  clear hs hm hwf
  go_enter Try.func16, Try.ntmps16
  go_wp2_with fail
  with_reducible refine CK.mono ?_
  rintro e w1 ⟨rfl, h1⟩
  have HB := hidD h1
  have HBS : Hid (B ≤ w1.heap.size) := hidD (by rw [hB.out]; exact h1.size)
  clear CK h1
  by_cases hk0 : ck = 0
  case neg =>
    obtain ⟨hE, hR⟩ := A1.out hk0
    subst hE hR
    have hk1 : (ck != 0) = true := by simp [hk0]
    clear A0 A1 AL hk0 CI CO
    go_wp2_with fail
    go_ret3
    exact ⟨_, rfl, HB.out, World.ownsRow_nil _ _ _ _⟩
  subst hk0
  obtain ⟨hE, hR⟩ := A0.out rfl
  have hL := (AL.out rfl).1
  have HAM := hidD (AL.out rfl).2.1
  clear A0 A1 AL
  replace hE := hidD hE
  replace hR := hidD hR
  have cI := CI.out rfl w1 HB.out
  clear CI
  go_wp2_with fail
  with_reducible refine cI.mono ?_
  rintro e w2 ⟨rfl, m2, h2⟩
  have HB2 := hidD (below_on HB.out HBS.out h2)
  have HBS2 := hidD (Nat.le_trans HBS.out h2.size)
  have U2 := hidD (Ti.uq_mem l)
  have hb3 := (Below.refl w2.heap.size w2).alloc (Nat.le_refl _) (.cells #[.map (some w1.heap.size)] 57)
  have M3 := hidD (m2.below hb3)
  have X3 := hidD (Bo.new w2 [.map (some w1.heap.size)] 57)
  have HB3 := hidD (below_on HB2.out HBS2.out hb3)
  have HBS3 := hidD (Nat.le_trans HBS2.out hb3.size)
  have HNB : Hid (w1.heap.size < w2.heap.size) := hidD m2.lt
  have HB1 : Hid (B ≤ w1.heap.size) := HBS
  clear m2 h2 cI hb3 HB HB2 HBS2 HBS
  generalize Ti.uq l = U0 at *
  go_wp2_with fail
  generalize w2.alloc (.cells #[.map (some w1.heap.size)] 57) = w3 at *
  generalize w1.heap.size = bs at *
  generalize w2.heap.size = bb at *
  go_loopw [24] (fun i wr => ∃ (k : Nat) (U : List Int) (z : Nat), k ≤ M ∧ i = .int .i64 (k : Int) ∧ Hid (MS wr bs l.length z U ∧ (∀ i, i ∈ U ↔ i ∈ U0 ∧ i ∉ ids.take k) ∧ Bo wr bb [.map (some bs)] 57 ∧ Below B w wr ∧ B ≤ wr.heap.size)) (fun i _ => M - (intOf i).toNat)
  case atStart => exact ⟨0, U0, _, Nat.zero_le _, rfl, hidD ⟨M3.out, fun i => by simp, X3.out, HB3.out, HBS3.out⟩⟩
  case round =>
    clear M3 X3 HB3 HBS3
    obtain ⟨k, U, z, hk, rfl, hJ⟩ := hrel
    obtain ⟨j1, j2, j3, j4, j5⟩ := hJ.out
    by_cases hlt : k < M
    · have hi : (k : Int) < (M : Int) := by omega
      have hkw : IntKind.i64.wrap ((k : Int) + 1) = (k : Int) + 1 := by rw [IntKind.wrap_i64]; omega
      obtain ⟨gb, offb, rfl, hgb, Q⟩ := Seg.atE (HM.out wr j4) k (by have := hM.out; omega)
      have HW := hidD (HWF.out (ids.getD k 0) (by
        have e : ids.getD k 0 = ids[k]'(by have := hM.out; omega) := by simp [List.getD, (show k < ids.length by have := hM.out; omega)]
        rw [e]
        exact List.getElem_mem _))
      have HN := hidD (Ti.rest_next' ids k (by have := hM.out; omega) U0 U j2)
      obtain ⟨D, hown, hhas, hsz⟩ := j1
      have q := j3.cell 0 rfl
      have HOW := hidD hown
      have HHAS := hidD hhas
      have J3 := hidD j3
      have J4 := hidD j4
      have J5 := hidD j5
      clear hown hhas hsz j2 j3 j4 j5 hJ
      generalize ids.getD k 0 = x at *
      go_wp2_with (first | (at_delete; refine wpList_delete_own _ rfl _ _ 57 3 rfl 60 (Maps.int_keyed Try.underlying3) Try.underlying57 _ bs l.length D rfl HOW.out _ _ rfl (Maps.keyOf_int_mk Try.underlying3 HW.out) ?_; intro w6 hown6 ht6; have HO6 := hidD hown6; have HG6 := hidD ht6.grown; clear hown6 ht6))
      exact ⟨⟨k + 1, _, _, by omega, by go_num, hidD ⟨ms_del (W := wr) HHAS.out HO6.out, HN.out, (HG6.out.block bb J3.out.lt (fun e => by cases e; have := HNB.out; omega)).trans J3.out, J4.out.grown HG6.out J5.out (fun j e => by cases e; exact HB1.out), Nat.le_trans J5.out HG6.out.size⟩⟩, by simp [intOf]; omega⟩
    · have hke : k = M := by omega
      have htk : ids.take k = ids := List.take_of_length_le (by have := hM.out; omega)
      rw [htk] at j2
      clear htk
      have HIN : Hid (∀ x ∈ l, (!decide (x.id' ∈ U)) = Ti.off ids x) := hidD (fun x hx => by
        have h1 : x.id' ∈ U ↔ x.id' ∉ ids := by
          rw [j2, U2.out]
          exact ⟨fun h => h.2, fun h => ⟨⟨x, hx, rfl⟩, h⟩⟩
        unfold Ti.off
        by_cases e : x.id' ∈ ids
        · rw [decide_eq_false (fun h => h1.1 h e), List.contains_iff_mem.2 e]; rfl
        · rw [decide_eq_true (h1.2 e)]
          symm
          rw [Bool.not_true, ← Bool.not_eq_true, List.contains_iff_mem]
          exact e)
      have cO := CO.out wr j4
      have J1 := hidD j1
      have J3 := hidD j3
      have J4 := hidD j4
      have J5 := hidD j5
      clear j1 j2 j3 j4 j5 hJ CO
      go_wp2_with fail
      refine cO.mono ?_
      rintro e w4 ⟨v4, rfl, o4, h4⟩
      have K1 := hidD (J1.out.below h4)
      have K3 := hidD (J3.out.below h4)
      have K4 := hidD (below_on J4.out J5.out h4)
      have K5 := hidD (Nat.le_trans J5.out h4.size)
      have cD := delT 35 ⟨bb, 0, none⟩ (fun _ _ => rfl) (Ti.off ids) B v4 l w4 (own_lower' o4 J5.out) K5.out (by omega) (fun x W hx hc => by
        rw [← HIN.out x hx]
        have hg : ∃ g, v4.ownBlock = some g := by
          rcases o4.2 with ⟨_, h0⟩ | ⟨g, c, cur, rfl, _⟩
          · have : l = [] := List.length_eq_zero_iff.1 h0
            subst this
            cases hx
          · exact ⟨g, rfl⟩
        obtain ⟨g, hg⟩ := hg
        have hge := (o4.lt g hg).1
        have C := hc g hg
        have B3 : Bo W bb [.map (some bs)] 57 := C.bo (by have := J3.out.lt; omega) K3.out
        exact gone_t bb bs l.length z U x W (B3.cell 0 rfl) (K1.out.kept (grown_cg (grown_row (grown_of_below (Below.refl _ w4)) (some g)) C (.inl rfl)) (by intro e; injection e with e; have := J1.out.lt; omega)) (Ti.wf_may (List.all_eq_true.1 HAM.out x hx)))
      clear cO o4 h4 J1 J3 J4 J5 K1 K3 HIN U2
      go_wp2_with fail
      refine cD.mono ?_
      rintro e w5 ⟨v5, rfl, o5, h5, _⟩
      have L4 := hidD (below_then K4.out h5)
      have L5 := hidD (Nat.le_trans K5.out h5.size)
      have HRS : Hid ((l.filter fun x => !Ti.off ids x) = Ti.rest ids l) := hidD rfl
      rw [HRS.out] at o5
      have HGR := hidD (Ti.gone_rest ids l)
      have HRL := hidD (Ti.rest_len ids l)
      obtain ⟨S, hS⟩ : ∃ S, S = Ti.rest ids l := ⟨_, rfl⟩
      rw [← hS] at o5 hR HGR HRL
      clear cD h5 K4 K5 hS HRS
      have HT5 := hidD (fun (W : World) (b : Below w5.heap.size w5 W) => o5.ts.below b)
      obtain ⟨a5, c5, rfl, d1, d2, _, _⟩ := id o5.ts
      unfold maxLen at d2
      obtain ⟨n, hn⟩ : ∃ n, n = S.length := ⟨_, rfl⟩
      rw [← hn] at d1 HT5 HGR HRL ⊢
      replace hn := hidD hn
      have hn1 : n ≤ 1024 := by have := HRL.out; omega
      obtain ⟨C, hC⟩ : ∃ C, C = w5.heap.size := ⟨_, rfl⟩
      rw [← hC] at HT5
      have HBC : Hid (B ≤ C) := hidD (by rw [hC]; exact L5.out)
      have HC0 : Hid (C ≤ w5.heap.size) := hidD (by rw [hC]; exact Nat.le_refl _)
      have HBW : Hid (Below C w5 w5) := hidD (Below.refl _ _)
      clear o5 hC
      go_wp2_with fail
      go_loopw [12, 37] (fun s i wr => ∃ (q : Nat), q ≤ n ∧ i = .int .i64 (q : Int) ∧ Hid (OT wr C s (Ti.puts [] (S.take q)) ∧ Below C w5 wr ∧ C ≤ wr.heap.size)) (fun _ i _ => n - (intOf i).toNat)
      case atStart => exact ⟨0, Nat.zero_le _, rfl, hidD ⟨World.ownsRow_nil _ _ _ _, HBW.out, HC0.out⟩⟩
      case round =>
        clear HBW HC0
        obtain ⟨q, hq, rfl, hJ⟩ := hrel
        obtain ⟨j1, j2, j3⟩ := hJ.out
        by_cases hlq : q < n
        · have hiq : (q : Int) < (n : Int) := by omega
          have hqw : IntKind.i64.wrap ((q : Int) + 1) = (q : Int) + 1 := by rw [IntKind.wrap_i64]; omega
          obtain ⟨gs, offs, rfl, hgs, hcell⟩ := TS.at (HT5.out wr j2) q (by have := hn.out; omega)
          obtain ⟨t1, t2⟩ := hcell q (by have := hn.out; omega)
          have HPN := hidD (Ti.puts_next S q (by have := hn.out; omega))
          have hol : (Ti.puts [] (S.take q)).length ≤ 1024 := by
            rw [Ti.puts_len, List.length_take]
            have := hn.out
            omega
          generalize Ti.puts [] (S.take q) = O at *
          obtain ⟨x, hx⟩ : ∃ x, x = Ti.g S q := ⟨_, rfl⟩
          rw [← hx] at t1 t2 HPN
          clear hx
          obtain ⟨xa, xi⟩ := x
          dsimp only at t1 t2
          have hb0 := (Below.refl wr.heap.size wr).alloc (Nat.le_refl _) (.cells #[.int .i64 xa, .int .i64 xi] 31)
          have cP := put_any C _ O ⟨xa, xi⟩ _ (own_below j1 hb0) (Nat.le_trans j3 hb0.size) (by omega)
          have J2 := hidD (below_on j2 j3 hb0)
          have J3 := hidD (Nat.le_trans j3 hb0.size)
          clear j1 j2 j3 hJ hcell hb0
          go_wp2_with fail
          generalize wr.alloc (.cells #[.int .i64 xa, .int .i64 xi] 31) = wa at *
          refine cP.mono ?_
          rintro e w7 ⟨v', rfl, o7, h7, _⟩
          have S1 := hidD o7
          have S2 := hidD (below_then J2.out h7)
          have S3 := hidD (Nat.le_trans J3.out h7.size)
          clear cP h7 o7 t1 t2
          go_wp2_with fail
          exact ⟨⟨q + 1, by omega, by go_num, hidD ⟨by rw [HPN.out]; exact S1.out, S2.out, S3.out⟩⟩, by simp [intOf]; omega⟩
        · have hqn : q = n := by omega
          have htk : S.take q = S := List.take_of_length_le (by have := hn.out; omega)
          rw [htk] at j1
          obtain ⟨a6, c6, rfl, _⟩ := id j1.ts
          have hpl : (Ti.puts [] S).length = n := by rw [Ti.puts_len]; exact hn.out.symm
          have HE : Hid (OT wr B (.slice a6 (Ti.puts [] S).length c6) (Ti.puts [] S) ∧ Below B w wr) := hidD ⟨own_lower' j1 HBC.out, below_then L4.out (below_low j2 HBC.out)⟩
          have hsub : IntKind.i64.wrap ((l.length : Int) - (n : Int)) = ((Ti.gone ids l : Nat) : Int) := by
            have := HGR.out
            rw [show (l.length : Int) - (n : Int) = ((Ti.gone ids l : Nat) : Int) by omega]
            exact wrap_ok (by omega) (by omega)
          rw [hpl] at HE ⊢
          rw [← hR.out] at HE
          rw [← hE.out] at hsub
          clear j1 j2 j3 hJ htk hpl
          go_wp2_with fail
          go_ret3
          exact ⟨_, rfl, HE.out.2, HE.out.1⟩
end Go.Proofs.Ytkamcjebihfdlaa
