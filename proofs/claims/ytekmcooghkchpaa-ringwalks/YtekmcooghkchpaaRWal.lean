/- For all points and all uint64 hashes: Walk tells each ID once, first the one that Lookup tells (the law RingWalks answers true), and the arguments stay: without a bound. -/
import Derived.Test.YtekmcooghkchpaaRows
import Derived.BigQuiet
import Derived.Deep.QuietTactic
import Derived.WalkKit
import Derived.ProofKit
import Derived.OpenShut
import Derived.ShutString
import Derived.Test.YtekmcooghkchpaaRWp
import Derived.Test.YtekmcooghkchpaaOpenP
namespace Go.Proofs.Ytekmcooghkchpaa.ringWalks
open Go.ChangeShapes Go.WideShapes Go.ChangeAt Go.RowKit
open Go.ChangeMaps (open_string shut_string)
open Go.Sort Go.Shelf
set_option linter.unusedVariables false
set_option maxRecDepth 20000

theorem take_mem_succ (U : List Int) (q : Nat) (h : q < U.length) (y : Int) : (y ∈ U.take (q + 1)) ↔ (y ∈ U.take q ∨ U.getD q 0 = y) := by
  rw [List.take_succ_eq_append_getElem h, List.mem_append, List.mem_singleton]
  simp [List.getD, h, eq_comm]
theorem nodup_ne {U : List Int} (h : U.Nodup) (i k : Nat) (hk : k < i) (hi : i < U.length) : U.getD i 0 ≠ U.getD k 0 := by
  rw [List.Nodup, List.pairwise_iff_getElem] at h
  have := h k i (by omega) hi hk
  simp [List.getD, hi, (by omega : k < U.length)]
  exact fun e => this e.symm

set_option maxHeartbeats 4000000 in
theorem walk_v (v : Value) (r : List Rp.Pt) (h : Int) (w : World) (hv : PSeg .u64 w v r) (E I : Int) (U : List Int) (hbad : E ≠ 0 → U = [])
    (hgood : E = 0 → r.length ≤ 1024 ∧ U.Nodup ∧ (∀ i, i < r.length → (r.getD i (0, 0)).2 ∈ U) ∧ U.getD 0 0 = I ∧ 0 < U.length)
    (CA : ∀ w' : World, Below w.heap.size w w' → Calls Try.prog 14 #[v, .int .u64 h] w' fun e w'' => ∃ v', e = .returned (.tuple #[v', .int .i64 E]) ∧ Seg .i64 w'' v' U ∧ Below w'.heap.size w' w'')
    (CL : ∀ w' : World, Below w.heap.size w w' → Calls Try.prog 12 #[v, .int .u64 h] w' fun e w'' => e = .returned (.tuple #[.int .i64 I, .int .i64 E]) ∧ Below w'.heap.size w' w'') :
    Calls Try.prog 6 #[v, .int .u64 h] w fun e w' => e = .returned (.bool true) ∧ Below w.heap.size w w' := by
  obtain ⟨a, cap, rfl, h1, h2, h3, h4⟩ := id hv
  have HV := hidD hv
  obtain ⟨N, hN⟩ : ∃ N, N = r.length := ⟨_, rfl⟩
  have HN := hidD hN
  have HB := hidD hbad
  have HG := hidD hgood
  rw [← hN] at h1 CA CL ⊢
  unfold maxLen at h2
  clear hN hv h3 h4 hbad hgood
  have c0 := alive_any w
  go_enter Try.func6, Try.ntmps6
  go_wp2_with fail
  with_reducible refine c0.mono ?_
  rintro e w1 ⟨rfl, b1⟩
  have c1 := CA w1 b1
  clear CA c0
  go_wp2_with fail
  with_reducible refine c1.mono ?_
  rintro e w2 ⟨v', rfl, s2, b2⟩
  clear c1
  have b12 := Below.step b1 b2
  have c2 := CL w2 b12
  clear CL b1 b2
  obtain ⟨ua, ucap, rfl, u1, u2, -, -⟩ := id s2
  have HS := hidD s2
  clear s2
  obtain ⟨M, hM⟩ : ∃ M, M = U.length := ⟨_, rfl⟩
  have HM := hidD hM
  rw [← hM] at u1 ⊢
  unfold maxLen at u2
  clear hM
  go_wp2_with fail
  with_reducible refine c2.mono ?_
  rintro e w3 ⟨rfl, b3⟩
  clear c2
  have B3 := hidD (Below.step b12 b3)
  have HS3 := hidD (HS.out.below b3)
  clear b12 b3 HS
  by_cases hE : E = 0
  · subst hE
    obtain ⟨g1, g2, g3, g4, g5⟩ := HG.out rfl
    have G2 := hidD (fun i k h1 h2 => nodup_ne g2 i k h1 h2)
    have G3 := hidD g3
    have G4 := hidD g4
    rw [← HM.out] at g5
    rw [← HN.out] at g1
    clear g2 g3 g4 HG HB
    go_wp2_with (go_at_call 19; refine (num_any _ _).mono ?_; rintro e w4 ⟨rfl, rfl⟩)
    go_loopw [9] (fun i wr => ∃ k : Nat, k ≤ M ∧ i = .int .i64 k ∧ Below w3.heap.size w3 wr) (fun i _ => M - (intOf i).toNat)
    case atStart => exact ⟨0, Nat.zero_le _, rfl, Below.refl _ _⟩
    case round =>
      obtain ⟨k, hk, rfl, hbl⟩ := hrel
      obtain ⟨wo, rfl⟩ : ∃ wo, wo = wr := ⟨_, rfl⟩
      by_cases hlt : k < M
      · go_wp2_with fail
        go_loopw [10] (fun j wr2 => ∃ q : Nat, q ≤ k ∧ j = .int .i64 q ∧ Below w3.heap.size w3 wr2) (fun j _ => k - (intOf j).toNat)
        case atStart => exact ⟨0, Nat.zero_le _, rfl, hbl⟩
        case round =>
          obtain ⟨q, hq, rfl, hbi⟩ := hrel
          by_cases hlq : q < k
          · obtain ⟨ua', ucap', e1, _, _, h3, h4⟩ := HS3.out.below hbi
            rw [← HM.out] at e1
            cases e1
            obtain ⟨g, off, rfl, hg, hcell⟩ := seg_at (l := U) (by have := HM.out; omega) h3 h4
            have Q1 := hcell k (by have := HM.out; omega)
            have Q2 := hcell q (by have := HM.out; omega)
            have hne := G2.out k q hlq (by have := HM.out; omega)
            have hb' : (U.getD k 0 == U.getD q 0) = false := by simpa using hne
            clear hcell h3 h4 hne
            generalize U.getD k 0 = x at *
            generalize U.getD q 0 = y at *
            have i1 : (k : Int) < (M : Int) := by omega
            have i2 : (q : Int) < (M : Int) := by omega
            go_wp2_with fail
            go_quiet (fail)
            go_wp2
            exact ⟨⟨q + 1, by omega, by go_num, belowD_drewN hbi _⟩, by simp [intOf]; omega⟩
          · go_wp2
            exact ⟨⟨k + 1, by omega, by go_num, hbi⟩, by simp [intOf]; omega⟩
      · go_wp2_with fail
        go_loopw [11] (fun i wr => ∃ k : Nat, k ≤ N ∧ i = .int .i64 k ∧ Below w3.heap.size w3 wr) (fun i _ => N - (intOf i).toNat)
        case atStart => exact ⟨0, Nat.zero_le _, rfl, hbl⟩
        case round =>
          clear hbl hlt hk
          obtain ⟨k2, hk2, rfl, hbl⟩ := hrel
          obtain ⟨wp, rfl⟩ : ∃ wp, wp = wr := ⟨_, rfl⟩
          by_cases hlt : k2 < N
          · have hin := hidD (G3.out k2 (by have := HN.out; omega))
            go_wp2_with fail
            go_loopw [12, 13] (fun s j wr2 => ∃ q : Nat, q ≤ M ∧ j = .int .i64 q ∧ s = .bool (decide ((r.getD k2 (0, 0)).2 ∈ U.take q)) ∧ Below w3.heap.size w3 wr2) (fun _ j _ => M - (intOf j).toNat)
            case atStart => exact ⟨0, Nat.zero_le _, rfl, by simp, hbl⟩
            case round =>
              obtain ⟨q, hq, rfl, rfl, hbi⟩ := hrel
              by_cases hlq : q < M
              · obtain ⟨ua', ucap', e1, _, _, h3, h4⟩ := HS3.out.below hbi
                rw [← HM.out] at e1
                cases e1
                obtain ⟨g, off, rfl, hg, hcell⟩ := seg_at (l := U) (by have := HM.out; omega) h3 h4
                have Q1 := hcell q (by have := HM.out; omega)
                obtain ⟨a', cap', e1, _, _, h3', h4'⟩ := HV.out.below (Below.step B3.out hbi)
                rw [← HN.out] at e1
                cases e1
                obtain ⟨g', off', rfl, hg', hcell'⟩ := pseg_at (l := r) (by have := HN.out; omega) h3' h4'
                have Q2 := (hcell' k2 (by have := HN.out; omega)).2
                have hts := hidD (take_mem_succ U q (by have := HM.out; omega) (r.getD k2 (0, 0)).2)
                clear hcell h3 h4 hcell' h3' h4'
                have i1 : (k2 : Int) < (N : Int) := by omega
                have i2 : (q : Int) < (M : Int) := by omega
                by_cases hm : (r.getD k2 (0, 0)).2 ∈ U.take q
                · have hnx : Hid (decide ((r.getD k2 (0, 0)).2 ∈ U.take (q + 1)) = true) := hidD (decide_eq_true (hts.out.2 (.inl hm)))
                  rw [decide_eq_true hm]
                  clear hm hts
                  generalize (r.getD k2 (0, 0)).2 = y at *
                  generalize U.getD q 0 = x at *
                  go_wp2_with fail
                  go_quiet (fail)
                  go_wp2
                  exact ⟨⟨q + 1, by omega, by go_num, by rw [hnx.out], belowD_drewN hbi _⟩, by simp [intOf]; omega⟩
                · have hnx : Hid (decide ((r.getD k2 (0, 0)).2 ∈ U.take (q + 1)) = (U.getD q 0 == (r.getD k2 (0, 0)).2)) := hidD (by
                    rw [Bool.eq_iff_iff, decide_eq_true_iff, hts.out, beq_iff_eq]
                    exact ⟨fun h => h.elim (fun h => absurd h hm) id, .inr⟩)
                  rw [decide_eq_false hm]
                  clear hm hts
                  have hbb : ∃ b, b = (U.getD q 0 == (r.getD k2 (0, 0)).2) := ⟨_, rfl⟩
                  obtain ⟨bb, hbb⟩ := hbb
                  rw [← hbb] at hnx
                  obtain ⟨y, hy⟩ : ∃ y, y = (r.getD k2 (0, 0)).2 := ⟨_, rfl⟩
                  rw [← hy] at Q2 hnx hbb
                  have HBB := hidD hbb
                  have HY := hidD hy
                  clear hbb hy
                  generalize U.getD q 0 = x at *
                  go_wp2_with fail
                  go_quiet (fail)
                  go_wp2
                  exact ⟨⟨q + 1, by omega, by go_num, by rw [← HY.out, hnx.out, HBB.out], belowD_drewN hbi _⟩, by simp [intOf]; omega⟩
              · have hke : U.take q = U := List.take_of_length_le (by have := HM.out; omega)
                rw [hke, decide_eq_true hin.out]
                clear hke
                go_wp2
                exact ⟨⟨k2 + 1, by omega, by go_num, hbi⟩, by simp [intOf]; omega⟩
          · obtain ⟨ua', ucap', e1, _, _, h3, h4⟩ := HS3.out.below hbl
            rw [← HM.out] at e1
            cases e1
            obtain ⟨g, off, rfl, hg, hcell⟩ := seg_at (l := U) (by have := HM.out; omega) h3 h4
            have Q1 := hcell 0 (by have := HM.out; omega)
            rw [G4.out, Nat.add_zero] at Q1
            clear hcell h3 h4
            have i2 : (0 : Int) < (M : Int) := by omega
            go_wp2
            go_ret
            exact ⟨rfl, Below.step B3.out hbl⟩
  · have hr := HB.out hE
    have hM0 : M = 0 := by rw [HM.out, hr]; rfl
    subst hM0
    have hb' : (E != 0) = true := by simpa using hE
    clear HG HB HM hr
    go_wp2_with (go_at_call 19; refine (num_any _ _).mono ?_; rintro e w4 ⟨rfl, rfl⟩)
    go_ret
    exact ⟨rfl, B3.out⟩

theorem walk (v : Value) (r : List Rp.Pt) {w : World} (hv : PSeg .u64 w v r) (hwf : ∀ t ∈ r, (Lit.int .i64 t.2).wf = true) (h : Int) (w0 : (Lit.int .u64 h).wf = true) :
    Calls Try.prog 6 #[v, .int .u64 h] w fun e w' => e = .returned (.bool true) ∧ Below w.heap.size w w' := by
  refine walk_v v r h w hv (Rp.peopledE r) (Rp.lookI r h) (Rp.walkL r h) (fun hp => if_neg hp) (fun hp => ?_) (fun w' b => ?_) (fun w' b => lookup_any v r h w' (hv.below b))
  · obtain ⟨p1, p2, p3, p4⟩ := Rp.people_ok hp
    obtain ⟨t, ht⟩ := Rp.walk_head h hp
    refine ⟨p3, Rp.walk_nodup r h, fun i hi => (Rp.walk_mem h hp _).2 ⟨r.getD i (0, 0), by rw [pgetD_at hi]; exact List.getElem_mem _, rfl⟩, ?_, by rw [ht]; simp⟩
    rw [ht]
    exact (if_pos hp).symm
  · refine (walk_any v r h w' (hv.below b) hwf).mono ?_
    rintro e w2 ⟨v', rfl, h1, _, h2⟩
    exact ⟨v', rfl, h1, h2⟩

set_option maxRecDepth 100000 in
theorem lifted (os : Os) (started : os.Started) (H : Type) (enc : TypeId × Value → H) :
    ReturnsInHanded {} Try.checked os 6 .any (Rows.ringWalksSpec.pre6 enc Try.prog Try.f6 Rows.ringWalksRow.domain false) (Rows.ringWalksSpec.post enc Try.prog Try.f6 false true false false) := by
  refine returnsInHanded_of_change (C := Try.checked) own started (by kernel_rfl) Try.func6
    (ChangeSpec.witness6 (enc := enc) (C := Try.checked) false ⟨#[], #[.slice none 0 0, .int .u64 0], []⟩ 8 (by kernel_rfl) (by kernel_rfl) (by kernel_rfl) (by kernel_rfl)) ?_
  intro W base args ds gs before hval0 hW hcnd _
  have hval : ∀ (j : Nat) t v, Try.f6.params[j]? = some t → args[j]? = some v → Value.okWide Try.prog W .any base t v := hval0
  have hW' := hW
  obtain ⟨p, q, hA0, hV, rfl, hfz, hnd⟩ := hW
  have hA : DataW.TrodAll enc Try.prog W 0 (fun _ => true) true Try.f6.params.toList args.toList ds p := hA0
  rw [Try.params6] at hA hval
  obtain ⟨v0, vs0, d0, ds0, p0, q0, hargs, rfl, rfl, h0, r0⟩ := trodAll_cons hA
  obtain ⟨v1, vs1, d1, ds1, p1, q1, rfl, rfl, rfl, h1, r1⟩ := trodAll_cons r0
  obtain ⟨rfl, rfl, rfl⟩ := trodAll_nil r1
  obtain rfl : args = #[v0, v1] := by cases args; simp_all
  obtain ⟨rfl, rfl⟩ := trodVars_none hV
  have k0 := h0
  have lt0 : ∀ x ∈ p0, x.block < W.heap.size := by obtain ⟨m, hm⟩ := k0; exact DataW.trod_lt m _ _ _ hm
  obtain ⟨l0, hs0, ho0, _⟩ := open_points (hval 0 23 v0 rfl rfl) h0
  obtain ⟨a1, rfl, rfl, rfl, w1⟩ := open_int Try.underlying24 (hval 1 24 v1 rfl rfl) h1
  clear hA0 hval0
  refine (walk v0 l0 hs0 ho0 a1 w1).mono fun e W' ⟨he, bel⟩ => ?_
  subst he
  exact ⟨_, rfl, _, _, _, [], _, [], hW', trodAll_mk1 (shut_bool Try.underlying4 _), (trodAll_cons_mk (Below.trod laidOut (by kernel_rfl) (of_decide_eq_true (by kernel_rfl)) k0 bel lt0) (trodAll_cons_mk (shut_int Try.underlying24 w1) trodAll_mk0)), rfl, bel.frame _, fun h => by cases h⟩

theorem over : Rows.ringWalksRow.holds Try.pinned (OpenSpec.ofChange Rows.ringWalksSpec) :=
  OpenClaim.holds_of_wide 6 Try.f6 rfl rfl rfl rfl rfl rfl rfl ⟨rfl, rfl, rfl, rfl, rfl⟩ rfl rfl rfl rfl rfl (by kernel_rfl) Try.func6 (by kernel_rfl)
    (of_decide_eq_true (by kernel_rfl)) (by unfold Func.isWrapper; first | (rw [if_pos (by decide +kernel)]; kernel_rfl) | (rw [if_neg (by decide +kernel)]; exact ⟨rfl, rfl⟩))
    (fun os started H enc _ => lifted os started H enc)
end Go.Proofs.Ytekmcooghkchpaa.ringWalks

namespace Go.Proofs.Ytekmcooghkchpaa
/-- THE STATEMENT. -/
theorem ringWalks_holds : Rows.RingWalksSaid := ringWalks.over
#print axioms ringWalks_holds
end Go.Proofs.Ytekmcooghkchpaa
