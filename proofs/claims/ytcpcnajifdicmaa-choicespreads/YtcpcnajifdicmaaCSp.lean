/- For all uint64 states, all ints n and all loads: so many choices (n modulo 200) make the loads so much more in all, none less, and their IDs stay; where the loads may not be none are told (the law ChoiceSpreads answers true): without a bound. -/
import Derived.Test.YtcpcnajifdicmaaRows
import Derived.BigQuiet
import Derived.Deep.QuietTactic
import Derived.WalkKit
import Derived.ProofKit
import Derived.OpenShut
import Derived.ShutString
import Derived.Test.YtcpcnajifdicmaaC8
import Derived.Test.YtcpcnajifdicmaaOpenL
namespace Go.Proofs.Ytcpcnajifdicmaa.choiceSpreads
open Go.ChangeShapes Go.WideShapes Go.ChangeAt Go.RowKit
open Go.ChangeMaps (open_string shut_string)
open Go.Sort Go.Shelf
set_option linter.unusedVariables false
set_option maxRecDepth 20000

def dif (a b : List Rp.Pt) : Nat → Int
  | 0 => 0
  | k + 1 => dif a b k + Lo.bu a k - Lo.bu b k
theorem dif_succ (a b : List Rp.Pt) (k : Nat) : dif a b (k + 1) = dif a b k + Lo.bu a k - Lo.bu b k := rfl
theorem dif_same (l : List Rp.Pt) (k : Nat) : dif l l k = 0 := by
  induction k with
  | zero => rfl
  | succ k ih => rw [dif_succ, ih]; omega
theorem dif_bump (m l : List Rp.Pt) (i : Nat) (hi : i < m.length) (k : Nat) : dif (Lo.bump m i) l k = dif m l k + if i < k then 1 else 0 := by
  induction k with
  | zero => rfl
  | succ k ih =>
    rw [dif_succ, dif_succ, ih, Lo.bump_bu m i k hi]
    by_cases h1 : i = k
    · rw [if_pos h1, if_neg (by omega), if_pos (by omega)]; omega
    · rw [if_neg h1]
      by_cases h2 : i < k
      · rw [if_pos h2, if_pos (by omega)]; omega
      · rw [if_neg h2, if_neg (by omega)]; omega
theorem dif_run (s : Nat) {l : List Rp.Pt} (h : 0 < l.length) (n : Nat) : dif (Lo.run s l n).2 l l.length = n := by
  induction n with
  | zero => exact dif_same l _
  | succ n ih =>
    rw [Lo.run_succ]
    show dif (Lo.bump _ _) l _ = _
    rw [dif_bump _ _ _ (by rw [Lo.run_length]; exact Lo.run_pick s h n), ih, if_pos (Lo.run_pick s h n)]
    omega
theorem dif_bound (s : Nat) {l : List Rp.Pt} (h : 0 < l.length) (n : Nat) (hn : n ≤ 200) (k : Nat) : 0 ≤ dif (Lo.run s l n).2 l k ∧ dif (Lo.run s l n).2 l k ≤ 200 * k := by
  induction k with
  | zero => exact ⟨Int.le_refl _, Int.le_refl _⟩
  | succ k ih =>
    rw [dif_succ]
    have := Lo.run_bu s h n k
    omega

set_option maxHeartbeats 8000000 in
theorem walk_v (v : Value) (l L : List Rp.Pt) (s : Nat) (n A : Int) (K : Nat) (E : Int) (w : World) (hs : PSeg .i64 w v l) (hA0 : -200 < A) (hA1 : A < 200) (hA : Int.tmod n 200 = A) (hK : Int.tmod (A + 200) 200 = (K : Int)) (hE0 : E ≠ 0 → L = [])
    (hE1 : E = 0 → L.length = l.length ∧ l.length ≤ 32 ∧ dif L l l.length = (K : Int) ∧ ∀ j, j < l.length → (L.getD j (0, 0)).1 = (l.getD j (0, 0)).1 ∧ (l.getD j (0, 0)).2 ≤ (L.getD j (0, 0)).2 ∧ 0 ≤ (l.getD j (0, 0)).2 ∧ (L.getD j (0, 0)).2 ≤ 2000000 ∧ 0 ≤ dif L l j ∧ dif L l j ≤ 200 * j)
    (C1 : ∀ W : World, Below w.heap.size w W → Calls Try.prog 16 #[.int .u64 s, .int .i64 K, v] W fun e w' => ∃ v', e = .returned (.tuple #[v', .int .i64 E]) ∧ PSeg .i64 w' v' L ∧ Below W.heap.size W w') :
    Calls Try.prog 7 #[.int .u64 s, .int .i64 n, v] w fun e w' => e = .returned (.bool true) ∧ Below w.heap.size w w' := by
  have ca := lalive_any w
  have HS := hidD hs
  obtain ⟨a, cap, rfl, q1, q2, _, _⟩ := hs
  unfold maxLen at q2
  have HE1 := hidD hE1
  have hwA : IntKind.i64.wrap (A + 200) = A + 200 := by rw [IntKind.wrap_i64]; omega
  clear hE1
  go_enter Try.func7, Try.ntmps7
  go_wp2_with fail
  with_reducible refine ca.mono ?_
  rintro e w1 ⟨rfl, b1⟩
  have c2 := C1 w1 b1
  clear C1 ca
  go_wp2_with fail
  with_reducible refine c2.mono ?_
  rintro e w2 ⟨v2, rfl, hs2, b2⟩
  have B2 := Below.step b1 b2
  have HS2 := hidD hs2
  obtain ⟨a2, cap2, rfl, q3, q4, _, _⟩ := hs2
  unfold maxLen at q4
  clear c2 b1 b2
  by_cases hE : E = 0
  · subst hE
    obtain ⟨F1, F2, F3, F4⟩ := HE1.out rfl
    have HF4 := hidD F4
    obtain ⟨N, hN⟩ : ∃ N, N = l.length := ⟨_, rfl⟩
    have HN := hidD hN
    rw [F1] at q3 ⊢
    rw [← hN] at q1 q3 F2 ⊢
    have HF3 := hidD F3
    have HF1 := hidD F1
    clear F4 HE1 hE0 F3 F1 hN
    go_wp2_with (go_at_call 18; refine (num_any _ _).mono ?_; rintro e w4 ⟨rfl, rfl⟩)
    go_loopw [9, 10] (fun d i wr => ∃ k : Nat, k ≤ N ∧ i = .int .i64 k ∧ d = .int .i64 (dif L l k) ∧ Below w2.heap.size w2 wr) (fun _ i _ => N - (intOf i).toNat)
    case atStart => exact ⟨0, Nat.zero_le _, rfl, rfl, Below.refl _ _⟩
    case round =>
      obtain ⟨k, hk, rfl, rfl, hbl⟩ := hrel
      by_cases hlt : k < N
      · obtain ⟨a', cap', e1, _, _, h3, h4⟩ := (HS.out.below B2).below hbl
        rw [← HN.out] at e1
        cases e1
        obtain ⟨g, off, rfl, hg, hcell⟩ := pseg_at (l := l) (by have := HN.out; omega) h3 h4
        obtain ⟨Q1, Q2⟩ := hcell k (by have := HN.out; omega)
        clear hcell h3 h4
        obtain ⟨a', cap', e1, _, _, h3, h4⟩ := HS2.out.below hbl
        rw [HF1.out, ← HN.out] at e1
        cases e1
        obtain ⟨g2, off2, rfl, hg2, hcell⟩ := pseg_at (l := L) (by have := HN.out; have := HF1.out; omega) h3 h4
        obtain ⟨Q3, Q4⟩ := hcell k (by have := HN.out; have := HF1.out; omega)
        obtain ⟨G1, G2, G3, G4, G5, G6⟩ := HF4.out k (by have := HN.out; omega)
        have HDS : Hid (dif L l (k + 1) = dif L l k + (L.getD k (0, 0)).2 - (l.getD k (0, 0)).2) := hidD rfl
        clear hcell h3 h4
        rw [G1] at Q3
        generalize dif L l k = D at *
        generalize (L.getD k (0, 0)).2 = y2 at *
        generalize (l.getD k (0, 0)).2 = x2 at *
        generalize (l.getD k (0, 0)).1 = x1 at *
        have i1 : (k : Int) < (N : Int) := by omega
        have d1 : decide (y2 < x2) = false := decide_eq_false (by omega)
        have d2 : (x1 != x1) = false := by simp
        have d3 : (x1 == x1) = true := by simp
        have hw1 : IntKind.i64.wrap (D + y2) = D + y2 := by rw [IntKind.wrap_i64]; omega
        have hw2 : IntKind.i64.wrap (D + y2 - x2) = D + y2 - x2 := by rw [IntKind.wrap_i64]; omega
        clear G1
        go_wp2_with fail
        go_quiet (fail)
        go_wp2_with fail
        go_quiet (fail)
        go_wp2
        exact ⟨⟨k + 1, by omega, by go_num, by rw [HDS.out], by first | exact belowD_drewN (belowD_drewN hbl _) _ | exact belowD_drewN hbl _⟩, by simp [intOf]; omega⟩
      · obtain rfl : k = N := by omega
        have h3 := HF3.out
        rw [← HN.out] at h3
        rw [h3]
        clear HF4 h3 HF3
        go_wp2
        go_ret
        exact ⟨by first | rfl | simp, Below.step B2 hbl⟩
  · have hL := hE0 hE
    subst hL
    have hb0 : (E == 0) = false := by simp [hE]
    clear HE1 hE0
    go_wp2_with (go_at_call 18; refine (num_any _ _).mono ?_; rintro e w4 ⟨rfl, rfl⟩)
    go_ret
    exact ⟨rfl, B2⟩

theorem walk (s0 : Int) (hw0 : (Lit.int .u64 s0).wf = true) (n : Int) (hw1 : (Lit.int .i64 n).wf = true) (v : Value) (l : List Rp.Pt) {w : World} (hs : PSeg .i64 w v l) (ho : ∀ t ∈ l, (Lit.int .i64 t.2).wf = true) :
    Calls Try.prog 7 #[.int .u64 s0, .int .i64 n, v] w fun e w' => e = .returned (.bool true) ∧ Below w.heap.size w w' := by
  have hx := bounds_u64 hw0
  obtain ⟨s, rfl⟩ := Int.eq_ofNat_of_zero_le hx.1
  have hA0 : -200 < Int.tmod n 200 ∧ Int.tmod n 200 < 200 := by
    rcases Int.le_total 0 n with h | h
    · rw [Int.tmod_eq_emod_of_nonneg h]; omega
    · rw [show n = -(-n) by omega, Int.neg_tmod, Int.tmod_eq_emod_of_nonneg (by omega)]; omega
  obtain ⟨K, hK⟩ : ∃ K : Nat, Int.tmod (Int.tmod n 200 + 200) 200 = (K : Int) := by
    rw [Int.tmod_eq_emod_of_nonneg (by omega)]
    exact ⟨((Int.tmod n 200 + 200) % 200).toNat, by omega⟩
  have hK2 : K < 200 := by
    rw [Int.tmod_eq_emod_of_nonneg (by omega)] at hK
    omega
  refine walk_v v l (Lo.spread s K l) s n _ K (Lo.spreadE K l) w hs hA0.1 hA0.2 rfl hK (fun h => by unfold Lo.spread; rw [if_neg h]) (fun h => ?_) (fun W hW => ?_)
  · obtain ⟨hp, n0, n1, hb⟩ := Lo.spread_ok h
    obtain ⟨hc, h0⟩ := Lo.people_ok hp
    have hL : Lo.spread s K l = (Lo.run s l K).2 := by unfold Lo.spread; rw [if_pos h, Int.toNat_natCast]
    rw [hL]
    refine ⟨Lo.run_length s l K, (Lo.check_ok hc).1, dif_run s h0 K, fun j hj => ?_⟩
    have r1 := Lo.run_id s h0 K j
    have r2 := Lo.run_bu s h0 K j
    have r3 := Lo.at_ok hc hj
    have r4 := dif_bound s h0 K (by omega) j
    unfold Lo.id' at r1
    unfold Lo.bu at r2
    unfold Lo.id' Lo.bu at r3
    refine ⟨r1, r2.1, r3.2.2.1, by omega, r4.1, r4.2⟩
  · refine (lspread_any s K v l W (hs.below hW)).mono ?_
    rintro e w' ⟨v', rfl, row, b⟩
    exact ⟨v', rfl, pseg_of_rowL row, b⟩

set_option maxRecDepth 100000 in
theorem lifted (os : Os) (started : os.Started) (H : Type) (enc : TypeId × Value → H) :
    ReturnsInHanded {} Try.checked os 7 .any (Rows.choiceSpreadsSpec.pre6 enc Try.prog Try.f7 Rows.choiceSpreadsRow.domain false) (Rows.choiceSpreadsSpec.post enc Try.prog Try.f7 false true false false) := by
  refine returnsInHanded_of_change (C := Try.checked) own started (by kernel_rfl) Try.func7
    (ChangeSpec.witness6 (enc := enc) (C := Try.checked) false ⟨#[], #[.int .u64 0, .int .i64 0, .slice none 0 0], []⟩ 8 (by kernel_rfl) (by kernel_rfl) (by kernel_rfl) (by kernel_rfl)) ?_
  intro W base args ds gs before hval0 hW hcnd _
  have hval : ∀ (j : Nat) t v, Try.f7.params[j]? = some t → args[j]? = some v → Value.okWide Try.prog W .any base t v := hval0
  have hW' := hW
  obtain ⟨p, q, hA0, hV, rfl, hfz, hnd⟩ := hW
  have hA : DataW.TrodAll enc Try.prog W 0 (fun _ => true) true Try.f7.params.toList args.toList ds p := hA0
  rw [Try.params7] at hA hval
  obtain ⟨v0, vs0, d0, ds0, p0, q0, hargs, rfl, rfl, h0, r0⟩ := trodAll_cons hA
  obtain ⟨v1, vs1, d1, ds1, p1, q1, rfl, rfl, rfl, h1, r1⟩ := trodAll_cons r0
  obtain ⟨v2, vs2, d2, ds2, p2, q2, rfl, rfl, rfl, h2, r2⟩ := trodAll_cons r1
  obtain ⟨rfl, rfl, rfl⟩ := trodAll_nil r2
  obtain rfl : args = #[v0, v1, v2] := by cases args; simp_all
  obtain ⟨rfl, rfl⟩ := trodVars_none hV
  obtain ⟨a0, rfl, rfl, rfl, w0⟩ := open_int Try.underlying22 (hval 0 22 v0 rfl rfl) h0
  obtain ⟨a1, rfl, rfl, rfl, w1⟩ := open_int Try.underlying3 (hval 1 3 v1 rfl rfl) h1
  have k2 := h2
  have lt2 : ∀ x ∈ p2, x.block < W.heap.size := by obtain ⟨m, hm⟩ := k2; exact DataW.trod_lt m _ _ _ hm
  obtain ⟨l2, hs2, ho2, e2⟩ := open_loads (hval 2 23 v2 rfl rfl) h2
  clear hA0 hval0
  refine (walk a0 w0 a1 w1 v2 l2 hs2 ho2).mono fun e W' ⟨he, bel⟩ => ?_
  subst he
  exact ⟨_, rfl, _, _, _, [], _, [], hW', trodAll_mk1 (shut_bool Try.underlying4 _), (trodAll_cons_mk (shut_int Try.underlying22 w0) (trodAll_cons_mk (shut_int Try.underlying3 w1) (trodAll_cons_mk (Below.trod laidOut (by kernel_rfl) (of_decide_eq_true (by kernel_rfl)) k2 bel lt2) trodAll_mk0))), rfl, bel.frame _, fun h => by cases h⟩

theorem over : Rows.choiceSpreadsRow.holds Try.pinned (OpenSpec.ofChange Rows.choiceSpreadsSpec) :=
  OpenClaim.holds_of_wide 7 Try.f7 rfl rfl rfl rfl rfl rfl rfl ⟨rfl, rfl, rfl, rfl, rfl⟩ rfl rfl rfl rfl rfl (by kernel_rfl) Try.func7 (by kernel_rfl)
    (of_decide_eq_true (by kernel_rfl)) (by unfold Func.isWrapper; first | (rw [if_pos (by decide +kernel)]; kernel_rfl) | (rw [if_neg (by decide +kernel)]; exact ⟨rfl, rfl⟩))
    (fun os started H enc _ => lifted os started H enc)
end Go.Proofs.Ytcpcnajifdicmaa.choiceSpreads

namespace Go.Proofs.Ytcpcnajifdicmaa
/-- THE STATEMENT. -/
theorem choiceSpreads_holds : Rows.ChoiceSpreadsSaid := choiceSpreads.over
#print axioms choiceSpreads_holds
end Go.Proofs.Ytcpcnajifdicmaa
