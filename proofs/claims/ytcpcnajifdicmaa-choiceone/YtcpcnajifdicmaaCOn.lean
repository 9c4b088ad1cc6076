/- For all uint64 states and all loads: what Two tells is one of the loads, and of two or more not one that is busier than all others; where the loads may not be it tells 0 (the law ChoiceOne answers true): without a bound. -/
import Derived.Test.YtcpcnajifdicmaaRows
import Derived.BigQuiet
import Derived.Deep.QuietTactic
import Derived.WalkKit
import Derived.ProofKit
import Derived.OpenShut
import Derived.ShutString
import Derived.Test.YtcpcnajifdicmaaC4
import Derived.Test.YtcpcnajifdicmaaOpenL
namespace Go.Proofs.Ytcpcnajifdicmaa.choiceOne
open Go.ChangeShapes Go.WideShapes Go.ChangeAt Go.RowKit
open Go.ChangeMaps (open_string shut_string)
open Go.Sort Go.Shelf
set_option linter.unusedVariables false
set_option maxRecDepth 20000

def oth (X Y : Int) (x : Rp.Pt) : Bool := decide (x.1 ≠ X) && decide (Y ≤ x.2)
theorem one_ok {s : Nat} {l : List Rp.Pt} (h : Lo.peopledE l = 0) : (decide (l.length = 1) || l.any (oth (Lo.id' l (Lo.pickP s l)) (Lo.bu l (Lo.pickP s l)))) = true := by
  obtain ⟨hc, h0⟩ := Lo.people_ok h
  have hr := (Lo.check_ok hc).2.2
  by_cases h11 : l.length = 1
  · simp [h11]
  · have hA := Hp.twoA_lt (s := s) (n := (l.length : Int)) (by omega)
    obtain ⟨hne, hB⟩ := Hp.two_ok (s := s) (n := (l.length : Int)) (by omega)
    rw [Lo.pickP_two h11]
    generalize Hp.twoA s (l.length : Int) = A at *
    generalize Hp.twoB s (l.length : Int) = B at *
    rw [Bool.or_eq_true]
    right
    rw [List.any_eq_true]
    have step : ∀ i j, i < l.length → j < l.length → i ≠ j → Lo.bu l i ≤ Lo.bu l j → oth (Lo.id' l i) (Lo.bu l i) (l.getD j (0, 0)) = true := by
      intro i j hi hj hij hb
      unfold oth
      rw [Bool.and_eq_true, decide_eq_true_iff, decide_eq_true_iff]
      exact ⟨fun e => hij (Lo.id_inj hr hi hj e.symm), hb⟩
    by_cases hlt : Lo.bu l B < Lo.bu l A
    · rw [if_pos hlt]
      exact ⟨_, Lo.at_mem (i := A) (by omega), step B A (by omega) (by omega) (by omega) (by omega)⟩
    · rw [if_neg hlt]
      exact ⟨_, Lo.at_mem (i := B) (by omega), step A B (by omega) (by omega) (by omega) (by omega)⟩

set_option maxHeartbeats 4000000 in
theorem walk_v (v : Value) (l : List Rp.Pt) (s : Nat) (T : Nat) (X Y E : Int) (w : World) (hs : PSeg .i64 w v l) (hE0 : E ≠ 0 → X = 0) (hY : E = 0 → 0 ≤ Y ∧ (decide (l.length = 1) || l.any (oth X Y)) = true ∧ Lo.busy l X = Y)
    (C1 : ∀ W : World, Below w.heap.size w W → Calls Try.prog 12 #[.int .u64 s, v] W fun e w' => e = .returned (.tuple #[.int .u64 T, .int .i64 X, .int .i64 E]) ∧ Below W.heap.size W w') :
    Calls Try.prog 4 #[.int .u64 s, v] w fun e w' => e = .returned (.bool true) ∧ Below w.heap.size w w' := by
  have ca := lalive_any w
  have HS := hidD hs
  obtain ⟨a, cap, rfl, q1, q2, _, _⟩ := hs
  unfold maxLen at q2
  have HY := hidD hY
  clear hY
  go_enter Try.func4, Try.ntmps4
  go_wp2_with fail
  with_reducible refine ca.mono ?_
  rintro e w1 ⟨rfl, b1⟩
  have c2 := C1 w1 b1
  clear C1 ca
  by_cases hE : E = 0
  · subst hE
    obtain ⟨F2, F1, F3⟩ := HY.out rfl
    have HF1 := hidD F1
    clear HY F1 hE0
    go_wp2_with fail
    with_reducible refine c2.mono ?_
    rintro e w2 ⟨rfl, b2⟩
    have B2 := Below.step b1 b2
    have c3 := lbusy_any _ l X w2 (HS.out.below B2)
    rw [F3] at c3
    clear b1 b2 c2 F3
    obtain ⟨N, hN⟩ : ∃ N, N = l.length := ⟨_, rfl⟩
    rw [← hN] at q1 c3 HF1 ⊢
    have HN := hidD hN
    clear hN
    have hD : ((N : Int) == 1) = decide (N = 1) := by rw [Bool.eq_iff_iff]; simp; omega
    go_wp2_with (first | (go_at_call 18; refine (num_any _ _).mono ?_; rintro e w4 ⟨rfl, rfl⟩) | (go_at_call 23; with_reducible refine c3.mono ?_; rintro e w4 ⟨rfl, rfl⟩))
    go_loopw [9, 10] (fun b i wr => ∃ k : Nat, k ≤ N ∧ i = .int .i64 k ∧ b = .bool (decide (N = 1) || (l.take k).any (oth X Y)) ∧ w2 = wr) (fun _ i _ => N - (intOf i).toNat)
    case atStart => exact ⟨0, Nat.zero_le _, rfl, by simp, rfl⟩
    case round =>
      obtain ⟨k, hk, rfl, rfl, rfl⟩ := hrel
      clear hD
      by_cases hlt : k < N
      · obtain ⟨a', cap', e1, _, _, h3, h4⟩ := HS.out.below B2
        rw [← HN.out] at e1
        cases e1
        obtain ⟨g, off, rfl, hg, hcell⟩ := pseg_at (l := l) (by have := HN.out; omega) h3 h4
        obtain ⟨Q1, Q2⟩ := hcell k (by have := HN.out; omega)
        have HT := hidD (pany_take (oth X Y) l k (by have := HN.out; omega))
        clear hcell h3 h4
        generalize (l.getD k (0, 0)) = y at *
        obtain ⟨y1, y2⟩ := y
        dsimp only at Q1 Q2
        have i1 : (k : Int) < (N : Int) := by omega
        cases hb : (decide (N = 1) || (l.take k).any (oth X Y)) with
        | true =>
          have hn : Hid ((decide (N = 1) || (l.take (k + 1)).any (oth X Y)) = true) := hidD (by rw [HT.out, ← Bool.or_assoc, hb]; rfl)
          clear HT hb
          go_wp2
          exact ⟨⟨k + 1, by omega, by go_num, by rw [hn.out], (by first | rfl | trivial)⟩, by simp [intOf]; omega⟩
        | false =>
          have hn : Hid ((decide (N = 1) || (l.take (k + 1)).any (oth X Y)) = (decide (y1 ≠ X) && decide (Y ≤ y2))) := hidD (by rw [HT.out, ← Bool.or_assoc, hb]; rfl)
          clear HT hb
          by_cases hy : y1 = X
          · subst hy
            have hn2 : Hid ((decide (N = 1) || (l.take (k + 1)).any (oth y1 Y)) = false) := hidD (by rw [hn.out]; simp)
            clear hn
            go_wp2
            exact ⟨⟨k + 1, by omega, by go_num, by rw [hn2.out], (by first | rfl | trivial)⟩, by simp [intOf]; omega⟩
          · have hyb : (y1 == X) = false := by simp [hy]
            have hn2 : Hid ((decide (N = 1) || (l.take (k + 1)).any (oth X Y)) = decide (Y ≤ y2)) := hidD (by rw [hn.out]; simp [hy])
            clear hn
            go_wp2
            exact ⟨⟨k + 1, by omega, by go_num, by rw [hn2.out]; simp [hy], (by first | rfl | trivial)⟩, by simp [intOf]; omega⟩
      · have hke : l.take k = l := List.take_of_length_le (by have := HN.out; omega)
        rw [hke, HF1.out]
        clear HF1 hke
        have d1 : decide (0 ≤ Y) = true := decide_eq_true F2
        go_wp2
        go_ret
        exact ⟨by first | rfl | simp [d1], B2⟩
  · have hX := hE0 hE
    subst hX
    clear HY hE0
    have hb0 : (E == 0) = false := by simp [hE]
    go_wp2_with fail
    with_reducible refine c2.mono ?_
    rintro e w2 ⟨rfl, b2⟩
    go_wp2_with (go_at_call 18; refine (num_any _ _).mono ?_; rintro e w4 ⟨rfl, rfl⟩)
    go_ret
    exact ⟨rfl, Below.step b1 b2⟩

theorem walk (s0 : Int) (hw0 : (Lit.int .u64 s0).wf = true) (v : Value) (l : List Rp.Pt) {w : World} (hs : PSeg .i64 w v l) (ho : ∀ t ∈ l, (Lit.int .i64 t.2).wf = true) :
    Calls Try.prog 4 #[.int .u64 s0, v] w fun e w' => e = .returned (.bool true) ∧ Below w.heap.size w w' := by
  have hx := bounds_u64 hw0
  obtain ⟨s, rfl⟩ := Int.eq_ofNat_of_zero_le hx.1
  have c := fun W (h : Below w.heap.size w W) => ltwo_any s v l W (hs.below h)
  by_cases hE : Lo.peopledE l = 0
  · obtain ⟨hc, h0⟩ := Lo.people_ok hE
    have hp := Lo.pick_lt (s := s) h0
    rw [if_pos hE, if_pos hE] at c
    exact walk_v v l s _ _ (Lo.bu l (Lo.pickP s l)) _ w hs (fun h => absurd hE h) (fun _ => ⟨(Lo.at_ok hc hp).2.2.1, one_ok hE, Lo.busy_at (Lo.check_ok hc).2.2 hp⟩) c
  · rw [if_neg hE, if_neg hE] at c
    exact walk_v v l s 0 0 0 _ w hs (fun _ => rfl) (fun h => absurd h hE) c

set_option maxRecDepth 100000 in
theorem lifted (os : Os) (started : os.Started) (H : Type) (enc : TypeId × Value → H) :
    ReturnsInHanded {} Try.checked os 4 .any (Rows.choiceOneSpec.pre6 enc Try.prog Try.f4 Rows.choiceOneRow.domain false) (Rows.choiceOneSpec.post enc Try.prog Try.f4 false true false false) := by
  refine returnsInHanded_of_change (C := Try.checked) own started (by kernel_rfl) Try.func4
    (ChangeSpec.witness6 (enc := enc) (C := Try.checked) false ⟨#[], #[.int .u64 0, .slice none 0 0], []⟩ 8 (by kernel_rfl) (by kernel_rfl) (by kernel_rfl) (by kernel_rfl)) ?_
  intro W base args ds gs before hval0 hW hcnd _
  have hval : ∀ (j : Nat) t v, Try.f4.params[j]? = some t → args[j]? = some v → Value.okWide Try.prog W .any base t v := hval0
  have hW' := hW
  obtain ⟨p, q, hA0, hV, rfl, hfz, hnd⟩ := hW
  have hA : DataW.TrodAll enc Try.prog W 0 (fun _ => true) true Try.f4.params.toList args.toList ds p := hA0
  rw [Try.params4] at hA hval
  obtain ⟨v0, vs0, d0, ds0, p0, q0, hargs, rfl, rfl, h0, r0⟩ := trodAll_cons hA
  obtain ⟨v1, vs1, d1, ds1, p1, q1, rfl, rfl, rfl, h1, r1⟩ := trodAll_cons r0
  obtain ⟨rfl, rfl, rfl⟩ := trodAll_nil r1
  obtain rfl : args = #[v0, v1] := by cases args; simp_all
  obtain ⟨rfl, rfl⟩ := trodVars_none hV
  obtain ⟨a0, rfl, rfl, rfl, w0⟩ := open_int Try.underlying22 (hval 0 22 v0 rfl rfl) h0
  have k1 := h1
  have lt1 : ∀ x ∈ p1, x.block < W.heap.size := by obtain ⟨m, hm⟩ := k1; exact DataW.trod_lt m _ _ _ hm
  obtain ⟨l1, hs1, ho1, e1⟩ := open_loads (hval 1 23 v1 rfl rfl) h1
  clear hA0 hval0
  refine (walk a0 w0 v1 l1 hs1 ho1).mono fun e W' ⟨he, bel⟩ => ?_
  subst he
  exact ⟨_, rfl, _, _, _, [], _, [], hW', trodAll_mk1 (shut_bool Try.underlying4 _), (trodAll_cons_mk (shut_int Try.underlying22 w0) (trodAll_cons_mk (Below.trod laidOut (by kernel_rfl) (of_decide_eq_true (by kernel_rfl)) k1 bel lt1) trodAll_mk0)), rfl, bel.frame _, fun h => by cases h⟩

theorem over : Rows.choiceOneRow.holds Try.pinned (OpenSpec.ofChange Rows.choiceOneSpec) :=
  OpenClaim.holds_of_wide 4 Try.f4 rfl rfl rfl rfl rfl rfl rfl ⟨rfl, rfl, rfl, rfl, rfl⟩ rfl rfl rfl rfl rfl (by kernel_rfl) Try.func4 (by kernel_rfl)
    (of_decide_eq_true (by kernel_rfl)) (by unfold Func.isWrapper; first | (rw [if_pos (by decide +kernel)]; kernel_rfl) | (rw [if_neg (by decide +kernel)]; exact ⟨rfl, rfl⟩))
    (fun os started H enc _ => lifted os started H enc)
end Go.Proofs.Ytcpcnajifdicmaa.choiceOne

namespace Go.Proofs.Ytcpcnajifdicmaa
/-- THE STATEMENT. -/
theorem choiceOne_holds : Rows.ChoiceOneSaid := choiceOne.over
#print axioms choiceOne_holds
end Go.Proofs.Ytcpcnajifdicmaa
