/- For all ints points, all loads, all backends and all uint64 hashes: on a ring that the reference builds, what Ring tells is the first of the walk that is one of the loads; where there is none, or the loads may not be, it tells an error and 0 (the law ChoiceRing answers true): without a bound. -/
import Derived.Test.YtcpcnajifdicmaaRows
import Derived.BigQuiet
import Derived.Deep.QuietTactic
import Derived.WalkKit
import Derived.ProofKit
import Derived.OpenShut
import Derived.ShutString
import Derived.Test.YtcpcnajifdicmaaCB4
import Derived.Test.YtcpcnajifdicmaaRN
import Derived.Test.YtcpcnajifdicmaaOpenL
namespace Go.Proofs.Ytcpcnajifdicmaa.choiceRing
open Go.ChangeShapes Go.WideShapes Go.ChangeAt Go.RowKit
open Go.ChangeMaps (open_string shut_string)
open Go.Sort Go.Shelf
set_option linter.unusedVariables false
set_option maxRecDepth 20000

theorem lit_wf {x : Int} (h0 : 0 ≤ x) (h1 : x ≤ 2147483647) : (Lit.int .i64 x).wf = true := by
  have e1 : IntKind.i64.min = -9223372036854775808 := by decide
  have e2 : IntKind.i64.max = 9223372036854775807 := by decide
  simp [Lit.wf, e1, e2]
  omega
theorem build_check {n : Int} {b : List Rp.Pt} (h : Rp.buildE n b = 0) : Rp.checkE b = 0 := by
  unfold Rp.buildE at h
  by_cases hc : Rp.checkE b = 0
  · exact hc
  · rw [if_pos hc] at h; exact h
theorem ring_wf {n : Int} {b : List Rp.Pt} : ∀ p ∈ Rp.ring n b, (Lit.int .i64 p.2).wf = true := by
  intro p hp
  unfold Rp.ring at hp
  by_cases hb : Rp.buildE n b = 0
  · rw [if_pos hb] at hp
    have hp2 : p ∈ Rp.pts n b := (List.mergeSort_perm _ _).mem_iff.1 hp
    unfold Rp.pts at hp2
    obtain ⟨x, hx, hpx⟩ := List.mem_flatMap.1 hp2
    unfold Rp.ptsOf at hpx
    obtain ⟨k, _, rfl⟩ := List.mem_map.1 hpx
    have hc := build_check hb
    unfold Rp.checkE at hc
    have ho : ¬ Rp.outside x = true := by
      intro e
      have ha : b.any Rp.outside = true := List.any_eq_true.2 ⟨x, hx, e⟩
      split at hc
      · cases hc
      · first | cases hc | (rw [if_pos ha] at hc; cases hc)
    rw [out_iff] at ho
    exact lit_wf (by omega) (by omega)
  · rw [if_neg hb] at hp; cases hp

set_option maxHeartbeats 8000000 in
theorem walk_v (pn : Int) (v : Value) (l : List Rp.Pt) (vb : Value) (b r : List Rp.Pt) (h EB EC RE RI PE : Int) (ids : List Int) (w : World) (hs : PSeg .i64 w v l) (hsb : PSeg .i64 w vb b)
    (hA : EC = 0 → ∀ k, k < ids.length → (ids.take k).any (Lo.has l) = false → Lo.has l (ids.getD k 0) = true → RE = 0 ∧ RI = ids.getD k 0) (hB : EB = 0 → EC ≠ 0 ∨ ids.any (Lo.has l) = false → RE ≠ 0 ∧ RI = 0) (hH : EC = 0 → ∀ x, decide (0 ≤ Lo.busy l x) = Lo.has l x)
    (C0 : ∀ W : World, Below w.heap.size w W → Calls Try.prog 24 #[.int .i64 pn, vb] W fun e w' => ∃ v', e = .returned (.tuple #[v', .int .i64 EB]) ∧ PSeg .u64 w' v' r ∧ Below W.heap.size W w')
    (C1 : EB = 0 → ∀ (vr : Value) (W : World), Below w.heap.size w W → PSeg .u64 W vr r → Calls Try.prog 14 #[vr, .int .u64 h, v] W fun e w' => e = .returned (.tuple #[.int .i64 RI, .int .i64 RE]) ∧ Below W.heap.size W w')
    (C2 : ∀ (vr : Value) (W : World), PSeg .u64 W vr r → Calls Try.prog 25 #[vr, .int .u64 h] W fun e w' => ∃ v', e = .returned (.tuple #[v', .int .i64 PE]) ∧ w'.ownsRow W.heap.size 3 1 v' ids.length (i64s ids) ∧ Below W.heap.size W w')
    (C3 : ∀ W : World, Below w.heap.size w W → Calls Try.prog 20 #[v] W fun e w' => e = .returned (.int .i64 EC) ∧ Below W.heap.size W w') :
    Calls Try.prog 6 #[.int .i64 pn, v, vb, .int .u64 h] w fun e w' => e = .returned (.bool true) ∧ Below w.heap.size w w' := by
  have ca := lalive_any w
  have HS := hidD hs
  have HA := hidD hA
  have HB := hidD hB
  have HH := hidD hH
  have HC1 := hidD C1
  have HC2 := hidD C2
  have HC3 := hidD C3
  obtain ⟨a, cap, rfl, q1, q2, _, _⟩ := hs
  obtain ⟨a2, cap2, rfl, q3, q4, _, _⟩ := hsb
  clear hA hB hH C1 C2 C3
  go_enter Try.func6, Try.ntmps6
  go_wp2_with fail
  with_reducible refine ca.mono ?_
  rintro e w1 ⟨rfl, b1⟩
  have c0 := C0 w1 b1
  clear C0 ca
  go_wp2_with fail
  with_reducible refine c0.mono ?_
  rintro e w2 ⟨vr, rfl, hr, b2⟩
  have B2 := Below.step b1 b2
  clear c0 b1 b2
  by_cases hE : EB = 0
  · subst hE
    have c1 := HC1.out rfl vr w2 B2 hr
    have HR := hidD hr
    obtain ⟨a3, cap3, rfl, q5, q6, _, _⟩ := hr
    clear HC1
    go_wp2_with fail
    with_reducible refine c1.mono ?_
    rintro e w3 ⟨rfl, b3⟩
    have B3 := Below.step B2 b3
    have c2 := HC2.out _ w3 (HR.out.below b3)
    clear c1 HC2 B2
    go_wp2_with fail
    with_reducible refine c2.mono ?_
    rintro e w4 ⟨vi, rfl, row, b4⟩
    have B4 := Below.step B3 b4
    have HROW := hidD row
    obtain ⟨a5, cap5, rfl, q7⟩ : ∃ a cap, vi = .slice a ids.length cap ∧ ids.length ≤ maxLen := by
      rcases row.2 with ⟨rfl, h0⟩ | ⟨gg, cc, cur, rfl, _, _, h1, h2, _⟩
      · exact ⟨none, 0, by rw [h0], by rw [h0]; exact Nat.zero_le _⟩
      · exact ⟨_, _, rfl, Nat.le_trans h1 h2⟩
    unfold maxLen at q7
    obtain ⟨M, hM⟩ : ∃ M, M = ids.length := ⟨_, rfl⟩
    have HM := hidD hM
    rw [← hM] at q7 ⊢
    clear c2 B3 b4 row hM b3
    go_wp2_with fail
    go_loopw [15] (fun i wr => ∃ k : Nat, k ≤ M ∧ i = .int .i64 k ∧ Hid (EC = 0 → (ids.take k).any (Lo.has l) = false) ∧ Below w4.heap.size w4 wr) (fun i _ => M - (intOf i).toNat)
    case atStart => exact ⟨0, Nat.zero_le _, rfl, hidD (fun _ => rfl), Below.refl _ _⟩
    case round =>
      obtain ⟨k, hk, rfl, hc, hbl⟩ := hrel
      by_cases hlt : k < M
      · have kl : k < ids.length := by have := HM.out; omega
        obtain ⟨g, c', e1, _, _, hg, hcell⟩ := irow_cell HROW.out (by omega)
        rw [← HM.out] at e1
        cases e1
        have B5 := Below.step B4 hbl
        have c3 := HC3.out wr B5
        have Q0 := hidD ((hbl.cell (p := ⟨g, k, none⟩) hg).trans (hcell k kl))
        have HT := hidD (iany_take (Lo.has l) ids k kl)
        have HA2 := hidD (fun e h1 h2 => HA.out e k kl h1 h2)
        have i1 : (k : Int) < (M : Int) := by omega
        have hgw : g < wr.heap.size := Nat.lt_of_lt_of_le hg hbl.size
        clear hcell kl
        generalize ids.getD k 0 = x at *
        by_cases hEC : EC = 0
        · subst hEC
          cases hx : Lo.has l x with
          | true =>
            obtain ⟨e1, e2⟩ := HA2.out rfl (hc.out rfl) hx
            have hbz : decide (0 ≤ Lo.busy l x) = true := by rw [HH.out rfl x]; exact hx
            have hb0 : 0 ≤ Lo.busy l x := of_decide_eq_true hbz
            subst e1 e2
            have c5 := fun W (hW : Below w.heap.size w W) => lbusy_any _ l RI W (HS.out.below hW)
            clear HA2 HT hc HA HB HH
            generalize Lo.busy l RI = bz at *
            go_wp2_with fail
            with_reducible refine c3.mono ?_
            rintro e w5 ⟨rfl, b5⟩
            have B6 := Below.step B5 b5
            have c6 := c5 w5 B6
            have Q1 := (b5.cell (p := ⟨g, k, none⟩) hgw).trans Q0.out
            clear c5 c3
            have hbe : (RI == RI) = true := by simp
            go_wp2_with (first | (go_at_call 18; refine (num_any _ _).mono ?_; rintro e w7 ⟨rfl, rfl⟩) | (go_at_call 23; with_reducible refine c6.mono ?_; rintro e w6 ⟨rfl, rfl⟩))
            go_ret
            exact ⟨by first | rfl | simp, B6⟩
          | false =>
            have hc2 : Hid ((0 : Int) = 0 → (ids.take (k + 1)).any (Lo.has l) = false) := hidD (fun _ => by rw [HT.out, hc.out rfl, hx]; rfl)
            have hbz : decide (0 ≤ Lo.busy l x) = false := by rw [HH.out rfl x]; exact hx
            have c5 := fun W (hW : Below w.heap.size w W) => lbusy_any _ l x W (HS.out.below hW)
            clear HA2 HT hc hx
            generalize Lo.busy l x = bz at *
            go_wp2_with fail
            with_reducible refine c3.mono ?_
            rintro e w5 ⟨rfl, b5⟩
            have B6 := Below.step B5 b5
            have c6 := c5 w5 B6
            have Q1 := (b5.cell (p := ⟨g, k, none⟩) hgw).trans Q0.out
            have b7 := Below.step hbl b5
            clear c5 c3 hbl b5
            go_wp2_with (first | (go_at_call 18; refine (num_any _ _).mono ?_; rintro e w7 ⟨rfl, rfl⟩) | (go_at_call 23; with_reducible refine c6.mono ?_; rintro e w6 ⟨rfl, rfl⟩))
            exact ⟨⟨k + 1, by omega, by go_num, hc2, b7⟩, by simp [intOf]; omega⟩
        · have hb0 : (EC == 0) = false := by simp [hEC]
          have hc2 : Hid (EC = 0 → (ids.take (k + 1)).any (Lo.has l) = false) := hidD (fun e => absurd e hEC)
          clear HA2 HT hc HA HB HH
          go_wp2_with fail
          with_reducible refine c3.mono ?_
          rintro e w5 ⟨rfl, b5⟩
          have b7 := Below.step hbl b5
          clear c3 hbl b5
          go_wp2_with (go_at_call 18; refine (num_any _ _).mono ?_; rintro e w7 ⟨rfl, rfl⟩)
          exact ⟨⟨k + 1, by omega, by go_num, hc2, b7⟩, by simp [intOf]; omega⟩
      · have hke : ids.take k = ids := List.take_of_length_le (by have := HM.out; omega)
        rw [hke] at hc
        have hn : EC ≠ 0 ∨ ids.any (Lo.has l) = false := by
          by_cases e : EC = 0
          · exact .inr (hc.out e)
          · exact .inl e
        obtain ⟨e1, e2⟩ := HB.out (by first | rfl | trivial) hn
        subst e2
        have hb0 : (RE == 0) = false := by simp [e1]
        have HRE := hidD e1
        clear HA HB HH hc hke hn
        go_wp2_with (go_at_call 18; refine (num_any _ _).mono ?_; rintro e w7 ⟨rfl, rfl⟩)
        go_ret
        exact ⟨by first | rfl | simp [HRE.out], Below.step B4 hbl⟩
  · have hb0 : (EB == 0) = false := by simp [hE]
    clear HA HB HH HC1 HC2 HC3
    obtain ⟨a3, cap3, rfl, q5, q6, _, _⟩ := hr
    go_wp2
    go_ret
    exact ⟨rfl, B2⟩

theorem walk (pn : Int) (hw0 : (Lit.int .i64 pn).wf = true) (v : Value) (l : List Rp.Pt) {w : World} (hs : PSeg .i64 w v l) (ho : ∀ t ∈ l, (Lit.int .i64 t.2).wf = true) (vb : Value) (b : List Rp.Pt) (hsb : PSeg .i64 w vb b) (hob : ∀ t ∈ b, (Lit.int .i64 t.2).wf = true) (h : Int) (hw1 : (Lit.int .u64 h).wf = true) :
    Calls Try.prog 6 #[.int .i64 pn, v, vb, .int .u64 h] w fun e w' => e = .returned (.bool true) ∧ Below w.heap.size w w' := by
  refine walk_v pn v l vb b (Rp.ring pn b) h (Rp.buildE pn b) (Lo.checkE l) (Lo.ringE (Rp.ring pn b) h l) (Lo.ringI (Rp.ring pn b) h l) (Rp.peopledE (Rp.ring pn b)) (Rp.walkL (Rp.ring pn b) h) w hs hsb (fun hc k hk h1 h2 => ?_) (fun hb hn => ?_) (fun hc x => ?_) (fun W hW => rbuild_any pn vb b W (hsb.below hW)) (fun _ vr W hW hr => lring_any vr _ h v l W hr ring_wf (hs.below hW)) (fun vr W hr => rwalk_any vr _ h W hr) (fun W hW => lcheck_any v l W (hs.below hW))
  · have hp : Rp.peopledE (Rp.ring pn b) = 0 := by
      by_cases hp : Rp.peopledE (Rp.ring pn b) = 0
      · exact hp
      · have : Rp.walkL (Rp.ring pn b) h = [] := by unfold Rp.walkL; rw [if_neg hp]
        rw [this] at hk; cases hk
    exact Lo.ringE_some hc (Rp.people_whole hp) (ifind_at hk h1 h2)
  · by_cases hc : Lo.checkE l = 0
    · have hany : (Rp.walkL (Rp.ring pn b) h).any (Lo.has l) = false := by
        rcases hn with hn | hn
        · exact absurd hc hn
        · exact hn
      by_cases hp : Rp.peopledE (Rp.ring pn b) = 0
      · obtain ⟨e1, e2⟩ := Lo.ringE_none hc (Rp.people_whole hp) (ifind_none hany)
        exact ⟨by rw [e1]; decide, e2⟩
      · obtain ⟨e1, e2⟩ := Lo.ringE_bad2 (h := h) hc hp
        exact ⟨by rw [e1]; exact hp, e2⟩
    · obtain ⟨e1, e2⟩ := Lo.ringE_bad1 (r := Rp.ring pn b) (h := h) hc
      exact ⟨by rw [e1]; exact hc, e2⟩
  · exact Lo.busy_has (fun p hp => ((Lo.check_ok hc).2.1 p hp).2.2.1) x

set_option maxRecDepth 100000 in
theorem lifted (os : Os) (started : os.Started) (H : Type) (enc : TypeId × Value → H) :
    ReturnsInHanded {} Try.checked os 6 .any (Rows.choiceRingSpec.pre6 enc Try.prog Try.f6 Rows.choiceRingRow.domain false) (Rows.choiceRingSpec.post enc Try.prog Try.f6 false true false false) := by
  refine returnsInHanded_of_change (C := Try.checked) own started (by kernel_rfl) Try.func6
    (ChangeSpec.witness6 (enc := enc) (C := Try.checked) false ⟨#[], #[.int .i64 0, .slice none 0 0, .slice none 0 0, .int .u64 0], []⟩ 8 (by kernel_rfl) (by kernel_rfl) (by kernel_rfl) (by kernel_rfl)) ?_
  intro W base args ds gs before hval0 hW hcnd _
  have hval : ∀ (j : Nat) t v, Try.f6.params[j]? = some t → args[j]? = some v → Value.okWide Try.prog W .any base t v := hval0
  have hW' := hW
  obtain ⟨p, q, hA0, hV, rfl, hfz, hnd⟩ := hW
  have hA : DataW.TrodAll enc Try.prog W 0 (fun _ => true) true Try.f6.params.toList args.toList ds p := hA0
  rw [Try.params6] at hA hval
  obtain ⟨v0, vs0, d0, ds0, p0, q0, hargs, rfl, rfl, h0, r0⟩ := trodAll_cons hA
  obtain ⟨v1, vs1, d1, ds1, p1, q1, rfl, rfl, rfl, h1, r1⟩ := trodAll_cons r0
  obtain ⟨v2, vs2, d2, ds2, p2, q2, rfl, rfl, rfl, h2, r2⟩ := trodAll_cons r1
  obtain ⟨v3, vs3, d3, ds3, p3, q3, rfl, rfl, rfl, h3, r3⟩ := trodAll_cons r2
  obtain ⟨rfl, rfl, rfl⟩ := trodAll_nil r3
  obtain rfl : args = #[v0, v1, v2, v3] := by cases args; simp_all
  obtain ⟨rfl, rfl⟩ := trodVars_none hV
  obtain ⟨a0, rfl, rfl, rfl, w0⟩ := open_int Try.underlying3 (hval 0 3 v0 rfl rfl) h0
  have k1 := h1
  have lt1 : ∀ x ∈ p1, x.block < W.heap.size := by obtain ⟨m, hm⟩ := k1; exact DataW.trod_lt m _ _ _ hm
  obtain ⟨l1, hs1, ho1, e1⟩ := open_loads (hval 1 23 v1 rfl rfl) h1
  have k2 := h2
  have lt2 : ∀ x ∈ p2, x.block < W.heap.size := by obtain ⟨m, hm⟩ := k2; exact DataW.trod_lt m _ _ _ hm
  obtain ⟨l2, hs2, ho2, _⟩ := open_backs (hval 2 52 v2 rfl rfl) h2
  obtain ⟨a3, rfl, rfl, rfl, w3⟩ := open_int Try.underlying22 (hval 3 22 v3 rfl rfl) h3
  clear hA0 hval0
  refine (walk a0 w0 v1 l1 hs1 ho1 v2 l2 hs2 ho2 a3 w3).mono fun e W' ⟨he, bel⟩ => ?_
  subst he
  exact ⟨_, rfl, _, _, _, [], _, [], hW', trodAll_mk1 (shut_bool Try.underlying4 _), (trodAll_cons_mk (shut_int Try.underlying3 w0) (trodAll_cons_mk (Below.trod laidOut (by kernel_rfl) (of_decide_eq_true (by kernel_rfl)) k1 bel lt1) (trodAll_cons_mk (Below.trod laidOut (by kernel_rfl) (of_decide_eq_true (by kernel_rfl)) k2 bel lt2) (trodAll_cons_mk (shut_int Try.underlying22 w3) trodAll_mk0)))), rfl, bel.frame _, fun h => by cases h⟩

theorem over : Rows.choiceRingRow.holds Try.pinned (OpenSpec.ofChange Rows.choiceRingSpec) :=
  OpenClaim.holds_of_wide 6 Try.f6 rfl rfl rfl rfl rfl rfl rfl ⟨rfl, rfl, rfl, rfl, rfl⟩ rfl rfl rfl rfl rfl (by kernel_rfl) Try.func6 (by kernel_rfl)
    (of_decide_eq_true (by kernel_rfl)) (by unfold Func.isWrapper; first | (rw [if_pos (by decide +kernel)]; kernel_rfl) | (rw [if_neg (by decide +kernel)]; exact ⟨rfl, rfl⟩))
    (fun os started H enc _ => lifted os started H enc)
end Go.Proofs.Ytcpcnajifdicmaa.choiceRing

namespace Go.Proofs.Ytcpcnajifdicmaa
/-- THE STATEMENT. -/
theorem choiceRing_holds : Rows.ChoiceRingSaid := choiceRing.over
#print axioms choiceRing_holds
end Go.Proofs.Ytcpcnajifdicmaa
