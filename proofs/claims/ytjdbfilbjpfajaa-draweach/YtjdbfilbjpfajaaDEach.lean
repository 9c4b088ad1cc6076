/- For all uint64 states and all ints n: an order that Shuffle tells of n has n numbers, from 0 to n - 1, each once; of an n that may not be it has none (the law DrawEach answers true), and the arguments stay: without a bound. -/
import Derived.Test.YtjdbfilbjpfajaaRows
import Derived.WalkKit
import Derived.ProofKit
import Derived.OpenShut
import Derived.ShutString
import Derived.Test.YtjdbfilbjpfajaaDG
import Derived.Test.YtjdbfilbjpfajaaOpen
namespace Go.Proofs.Ytjdbfilbjpfajaa.drawEach
open Go.ChangeShapes Go.WideShapes Go.ChangeAt Go.RowKit
open Go.ChangeMaps (open_string shut_string)
set_option linter.unusedVariables false
set_option maxRecDepth 20000

theorem Try.info4 : (Try.prog.info? 4).map (fun i => (i.zero, i.size, i.bytes)) = some (some (.bool false), 1, 1) := by kernel_rfl
theorem new_at {O : List Nat} (hn : O.Nodup) {k : Nat} (hk : k < O.length) : O[k] ∉ O.take k := by
  intro h
  obtain ⟨j, hj, he⟩ := List.mem_iff_getElem.1 h
  rw [List.getElem_take] at he
  rw [List.length_take] at hj
  exact (List.pairwise_iff_getElem.1 hn) j k (by omega) hk (by omega) he
theorem marks_set {O : List Nat} {N k : Nat} {ys : List Value} (hk : k < O.length) (hys : ys.length = N) (hx : O[k] < N) (h : ∀ j, j < N → ys[j]? = some (.bool (decide (j ∈ O.take k)))) :
    ∀ j, j < N → (ys.set O[k] (.bool true))[j]? = some (.bool (decide (j ∈ O.take (k + 1)))) := by
  intro j hj
  rw [List.take_succ_eq_append_getElem hk]
  by_cases hjx : j = O[k]
  · subst hjx
    rw [List.getElem?_set_self (by omega), decide_eq_true (List.mem_append.2 (.inr (List.mem_singleton.2 rfl)))]
  · rw [List.getElem?_set_ne (by omega), h j hj]
    congr 2
    simp only [List.mem_append, List.mem_singleton, hjx, or_false]

set_option maxHeartbeats 1000000 in
theorem walk_v (s N : Nat) (O : List Nat) (S : Nat) (w : World) (hN : N ≤ 1024) (hO : O.length = N) (hd : O.Nodup) (hlt0 : ∀ z ∈ O, z < N)
    (C1 : ∀ w : World, Calls Try.prog 22 #[.int .u64 s, .int .i64 N] w fun e w' => ∃ v', e = .returned (.tuple #[.int .u64 S, v', .int .i64 0]) ∧ Seg .i64 w' v' (O.map Int.ofNat) ∧ Below w.heap.size w w') :
    Calls Try.prog 5 #[.int .u64 s, .int .i64 N] w fun e w' => e = .returned (.bool true) ∧ Below w.heap.size w w' := by
  have c0 := alive_any w
  have HOL := hidD hO
  have HD := hidD hd
  have HLT := hidD hlt0
  clear hO hd hlt0
  go_enter Try.func5, Try.ntmps5
  go_wp2_with (go_at_call 21; with_reducible refine c0.mono ?_; rintro e w1 ⟨rfl, b1⟩)
  with_reducible refine (C1 w1).mono ?_
  rintro e w2 ⟨v, rfl, hv, b2⟩
  have b12 := Below.step b1 b2
  have HS := hidD hv
  obtain ⟨a, cap, rfl, h1, h2, _, _⟩ := hv
  rw [List.length_map, HOL.out] at h1 ⊢
  unfold maxLen at h2
  obtain ⟨i0, hi, hz0, hz1, hz2⟩ := info_parts Try.info4
  obtain ⟨w3, hmk, hown3, hg3⟩ := run_make_full (P := Try.prog) w2 w2.heap.size 50 4 i0 (.bool false) 1 Try.underlying50 hi hz0 hz1 .i64 .i64 N (by rw [hz2]; omega) (by unfold maxLen; omega) (Nat.le_refl _)
  have hb3 : Below w2.heap.size w2 w3 := (Below.refl _ _).grown hg3 (Nat.le_refl _) (fun k hk => by cases hk)
  have H0 : Hid (∀ j, j < N → (madeCells (Value.bool false).cells (N * 1)).toList[j]? = some (.bool (decide (j ∈ O.take 0)))) := by
    intro j hj
    rw [List.take_zero, decide_eq_false (by simp), show (Value.bool false).cells = #[Value.bool false] from rfl, toList_madeCells_one, List.getElem?_replicate, if_pos (by omega)]
  clear hg3 hz0 hz1 hz2 hi c0 C1 b1 b2
  generalize hgw : w2.heap.size = g at *
  go_wp2_with (go_at_call 16; refine (num_any _ _).mono ?_; rintro e w4 ⟨rfl, rfl⟩)
  go_loopw [9] (fun i wr => ∃ (k : Nat) (ys : List Value), k ≤ N ∧ i = .int .i64 k ∧ wr.ownsRow g 4 1 (.slice (some ⟨g, 0, none⟩) N N) N ys ∧ Hid (∀ j, j < N → ys[j]? = some (.bool (decide (j ∈ O.take k)))) ∧ Below g w2 wr) (fun i _ => N - (intOf i).toNat)
  case atStart => exact ⟨0, _, Nat.zero_le _, rfl, hown3, H0, hb3⟩
  case round =>
    obtain ⟨k, ys, hk, rfl, hr, HY, hbel⟩ := hrel
    clear hown3 hb3 H0
    by_cases hlt : k < N
    · obtain ⟨a', cap', he, _, _, h13, h14⟩ := HS.out.below (by rw [hgw]; exact hbel)
      injection he with e1 e2 e3
      subst e1 e3
      clear e2
      obtain ⟨b, off, rfl, hb, hcell⟩ := seg_at (l := O.map Int.ofNat) (by rw [List.length_map, HOL.out]; omega) h13 h14
      have Q1 := hcell k (by rw [List.length_map, HOL.out]; exact hlt)
      have hkO : k < O.length := by rw [HOL.out]; exact hlt
      have hys : ys.length = N := by have := hr.1; omega
      have hxl := HLT.out O[k] (List.getElem_mem _)
      have hnew := new_at HD.out hkO
      have HY2 := hidD (marks_set hkO hys hxl HY.out)
      have q2 : wr.cell? ⟨g, O[k], none⟩ = some (.bool false) := by
        rw [hr.cellAt _ (by omega), HY.out _ hxl, decide_eq_false hnew]
      have hf := hr.frozenAt O[k]
      have hst := hr.stored O[k] (.bool true)
      have HO := hst.1
      have hgr : Below g w2 (wr.setCell ⟨g, O[k], none⟩ (.bool true)) := hbel.grown hst.2 (by have := hbel.size; omega) (fun j hj => by cases hj; exact Nat.le_refl _)
      rw [show (O.map Int.ofNat).getD k 0 = ((O[k] : Nat) : Int) by simp [List.getD, hkO]] at Q1
      clear hst hr hcell h13 h14 HY hnew hys
      generalize O[k] = x at *
      go_wp2
      exact ⟨⟨k + 1, _, by omega, by go_num, HO, HY2, hgr⟩, by simp [intOf]; omega⟩
    · have hke : k = N := by omega
      subst hke
      go_wp2
      go_ret
      exact ⟨rfl, Below.step b12 (by rw [hgw]; exact hbel)⟩

theorem walk_n (s : Nat) (n : Int) (w : World)
    (C1 : ∀ w : World, Calls Try.prog 22 #[.int .u64 s, .int .i64 n] w fun e w' => e = .returned (.tuple #[.int .u64 0, .slice none 0 0, .int .i64 4]) ∧ w = w') :
    Calls Try.prog 5 #[.int .u64 s, .int .i64 n] w fun e w' => e = .returned (.bool true) ∧ Below w.heap.size w w' := by
  have c0 := alive_any w
  go_enter Try.func5, Try.ntmps5
  go_wp2_with (first | (go_at_call 21; with_reducible refine c0.mono ?_; rintro e w1 ⟨rfl, b1⟩) | (go_at_call 22; with_reducible refine (C1 w1).mono ?_; rintro e w3 ⟨rfl, rfl⟩) | (go_at_call 16; refine (num_any _ _).mono ?_; rintro e w3 ⟨rfl, rfl⟩))
  go_ret
  exact ⟨rfl, b1⟩

theorem walk (x : Int) (w0 : (Lit.int .u64 x).wf = true) (n : Int) (w1 : (Lit.int .i64 n).wf = true) {w : World} :
    Calls Try.prog 5 #[.int .u64 x, .int .i64 n] w fun e w' => e = .returned (.bool true) ∧ Below w.heap.size w w' := by
  have hx := bounds_u64 w0
  clear w0 w1
  obtain ⟨s, rfl⟩ := Int.eq_ofNat_of_zero_le hx.1
  have hs : s < 18446744073709551616 := by omega
  by_cases h : 0 ≤ n ∧ n ≤ 1024
  · obtain ⟨N, rfl⟩ := Int.eq_ofNat_of_zero_le h.1
    refine walk_v s N (Hp.order s N) (Hp.skip s (N - 1)) w (by omega) (Hp.order_length s N) (Hp.order_nodup s N) (fun z hz => Hp.order_lt hz) ?_
    intro v
    refine (shuffle_good s N v hs (by omega)).mono ?_
    rintro e w' ⟨v', rfl, hr, hb⟩
    rw [nrow_ints] at hr
    exact ⟨v', rfl, seg_row (by rw [order_ints]; exact hr), hb⟩
  · exact walk_n s n w (fun v => shuffle_bad s n v h)

set_option maxRecDepth 100000 in
theorem lifted (os : Os) (started : os.Started) (H : Type) (enc : TypeId × Value → H) :
    ReturnsInHanded {} Try.checked os 5 .any (Rows.drawEachSpec.pre6 enc Try.prog Try.f5 Rows.drawEachRow.domain false) (Rows.drawEachSpec.post enc Try.prog Try.f5 false true false false) := by
  refine returnsInHanded_of_change (C := Try.checked) own started (by kernel_rfl) Try.func5
    (ChangeSpec.witness6 (enc := enc) (C := Try.checked) false ⟨#[], #[.int .u64 0, .int .i64 0], []⟩ 8 (by kernel_rfl) (by kernel_rfl) (by kernel_rfl) (by kernel_rfl)) ?_
  intro W base args ds gs before hval0 hW hcnd _
  have hval : ∀ (j : Nat) t v, Try.f5.params[j]? = some t → args[j]? = some v → Value.okWide Try.prog W .any base t v := hval0
  have hW' := hW
  obtain ⟨p, q, hA0, hV, rfl, hfz, hnd⟩ := hW
  have hA : DataW.TrodAll enc Try.prog W 0 (fun _ => true) true Try.f5.params.toList args.toList ds p := hA0
  rw [Try.params5] at hA hval
  obtain ⟨v0, vs0, d0, ds0, p0, q0, hargs, rfl, rfl, h0, r0⟩ := trodAll_cons hA
  obtain ⟨v1, vs1, d1, ds1, p1, q1, rfl, rfl, rfl, h1, r1⟩ := trodAll_cons r0
  obtain ⟨rfl, rfl, rfl⟩ := trodAll_nil r1
  obtain rfl : args = #[v0, v1] := by cases args; simp_all
  obtain ⟨rfl, rfl⟩ := trodVars_none hV
  obtain ⟨a0, rfl, rfl, rfl, w0⟩ := open_int Try.underlying22 (hval 0 22 v0 rfl rfl) h0
  obtain ⟨a1, rfl, rfl, rfl, w1⟩ := open_int Try.underlying3 (hval 1 3 v1 rfl rfl) h1
  clear hA0 hval0
  refine (walk a0 w0 a1 w1).mono fun e W' ⟨he, bel⟩ => ?_
  subst he
  exact ⟨_, rfl, _, _, _, [], _, [], hW', trodAll_mk1 (shut_bool Try.underlying4 _), (trodAll_cons_mk (shut_int Try.underlying22 w0) (trodAll_cons_mk (shut_int Try.underlying3 w1) trodAll_mk0)), rfl, bel.frame _, fun h => by cases h⟩

theorem over : Rows.drawEachRow.holds Try.pinned (OpenSpec.ofChange Rows.drawEachSpec) :=
  OpenClaim.holds_of_wide 5 Try.f5 rfl rfl rfl rfl rfl rfl rfl ⟨rfl, rfl, rfl, rfl, rfl⟩ rfl rfl rfl rfl rfl (by kernel_rfl) Try.func5 (by kernel_rfl)
    (of_decide_eq_true (by kernel_rfl)) (by unfold Func.isWrapper; first | (rw [if_pos (by decide +kernel)]; kernel_rfl) | (rw [if_neg (by decide +kernel)]; exact ⟨rfl, rfl⟩))
    (fun os started H enc _ => lifted os started H enc)
end Go.Proofs.Ytjdbfilbjpfajaa.drawEach

namespace Go.Proofs.Ytjdbfilbjpfajaa
/-- THE STATEMENT. -/
theorem drawEach_holds : Rows.DrawEachSaid := drawEach.over
#print axioms drawEach_holds
end Go.Proofs.Ytjdbfilbjpfajaa
