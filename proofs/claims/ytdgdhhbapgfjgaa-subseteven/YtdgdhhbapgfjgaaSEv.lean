/- SubsetEven: over whole rounds each backend has at most one client a round, and all together have as many as the clients' subsets have room for: for every list, rounds, size and seed. -/
import Derived.Test.YtdgdhhbapgfjgaaRows
import Derived.BigQuiet
import Derived.Deep.QuietTactic
import Derived.WalkKit
import Derived.ProofKit
import Derived.OpenShut
import Derived.ShutString
import Derived.Test.YtdgdhhbapgfjgaaSEp
import Derived.Test.YtdgdhhbapgfjgaaOpen
import Derived.Test.YtdgdhhbapgfjgaaOpenN
namespace Go.Proofs.Ytdgdhhbapgfjgaa.subsetEven
open Go.ChangeShapes Go.WideShapes Go.ChangeAt Go.RowKit
open Go.ChangeMaps (open_string shut_string)
open Go.Sort Go.Shelf
set_option linter.unusedVariables false
set_option maxRecDepth 20000

set_option maxHeartbeats 4000000 in
theorem walk_v (v : Value) (ids : List Int) (r k : Int) (s : Nat) (w : World) (R q K : Nat) (E : Int) (L : List Int) (hs : Seg .i64 w v ids) (hn : ids.length ≤ 32) (hK : k = (K : Int)) (hk1 : 1 ≤ K) (hk2 : K < ids.length) (hR : R ≤ 5) (hr1 : -5 ≤ r.tmod 6) (hr2 : r.tmod 6 ≤ 5) (hr3 : (r.tmod 6 + 6).tmod 6 = (R : Int)) (hq : q = ids.length / K) (hq2 : q ≤ 32)
    (h0 : E ≠ 0 → L = []) (h1 : E = 0 → (∀ z ∈ L, 0 ≤ z ∧ z ≤ R) ∧ L.sum = ((R * q : Nat) : Int) * K) (hl : L.length ≤ 32)
    (C1 : ∀ w : World, Seg .i64 w v ids → Calls Try.prog 14 #[v, .int .i64 ((R * q : Nat) : Int), .int .i64 k, .int .u64 s] w fun e w' => ∃ v', e = .returned (.tuple #[v', .int .i64 E]) ∧ Seg .i64 w' v' L ∧ Below w.heap.size w w') :
    Calls Try.prog 6 #[v, .int .i64 r, .int .i64 k, .int .u64 s] w fun e w' => e = .returned (.bool true) ∧ Below w.heap.size w w' := by
  have ca := alive_any w
  have hdv : ((ids.length : Nat) : Int).tdiv k = (q : Int) := by rw [hK, Int.tdiv_eq_ediv_of_nonneg (Int.natCast_nonneg _), hq]; rfl
  obtain ⟨m, hm⟩ : ∃ m, m = R * q := ⟨_, rfl⟩
  have hm2 : m ≤ 160 := by rw [hm]; exact Nat.le_trans (Nat.mul_le_mul hR hq2) (by decide)
  have hmq : (R : Int) * (q : Int) = (m : Int) := by rw [hm]; exact (Int.natCast_mul _ _).symm
  rw [← hm] at C1 h1
  subst hK
  have hmk : (m : Int) * (K : Int) ≤ 5120 := by
    have : m * K ≤ 160 * 32 := Nat.mul_le_mul hm2 (by omega)
    have := Int.ofNat_le.2 this
    rw [Int.natCast_mul] at this
    exact this
  have hmk0 : 0 ≤ (m : Int) * (K : Int) := Int.mul_nonneg (Int.natCast_nonneg _) (Int.natCast_nonneg _)
  obtain ⟨x, hx⟩ : ∃ x, x = r.tmod 6 := ⟨_, rfl⟩
  rw [← hx] at hr1 hr2 hr3
  have hx' : r.tmod 6 = x := hx.symm
  obtain ⟨Z, hZ⟩ : ∃ Z, (m : Int) * (K : Int) = Z := ⟨_, rfl⟩
  rw [hZ] at h1 hmk hmk0
  clear hx hq hm
  obtain ⟨a, cap, e0, p1, p2, p3, p4⟩ := id hs
  have HS := hidD hs
  subst e0
  unfold maxLen at p2
  obtain ⟨N, hN⟩ : ∃ N, N = ids.length := ⟨_, rfl⟩
  rw [← hN] at hn hk2 hdv p1 C1 ⊢
  have HN := hidD hN
  have HC1 := hidD C1
  clear hN p3 p4 hs C1
  have d1 : ¬ (32 < (N : Int)) := by omega
  have d2 : ¬ ((K : Int) < 1) := by omega
  have d3 : ¬ ((N : Int) ≤ (K : Int)) := by omega
  have d4 : ¬ ((K : Int) = 0) := by omega
  go_enter Try.func6, Try.ntmps6
  go_wp2_with fail
  with_reducible refine ca.mono ?_
  rintro e w1 ⟨rfl, b1⟩
  have hs1 := HS.out.below b1
  rw [← HN.out] at hs1
  have c1 := HC1.out w1 hs1
  clear hs1 ca HC1
  go_wp2_with fail
  with_reducible refine c1.mono ?_
  rintro e w2 ⟨v2, rfl, hs2, b2⟩
  have B2 := Below.step b1 b2
  have HS2 := hidD hs2
  obtain ⟨a2, cap2, rfl, q3, q4, _, _⟩ := hs2
  unfold maxLen at q4
  clear c1 b1 b2
  obtain ⟨M, hM⟩ : ∃ M, M = L.length := ⟨_, rfl⟩
  rw [← hM] at q3 HS2 hl ⊢
  have HM := hidD hM
  clear hM
  by_cases hE : E = 0
  · subst hE
    have HZs := hidD (h1 rfl).2
    have HZb := hidD (h1 rfl).1
    clear h0 h1
    go_wp2_with (go_at_call 19; refine (num_any _ _).mono ?_; rintro e w4 ⟨rfl, rfl⟩)
    go_loopw [12, 13] (fun z i wr => ∃ (t : Nat) (y : Int), t ≤ M ∧ i = .int .i64 t ∧ z = .int .i64 y ∧ 0 ≤ y ∧ y ≤ 5 * t ∧ Hid (y = (L.take t).sum) ∧ wr = w2) (fun _ i _ => M - (intOf i).toNat)
    case atStart => exact ⟨0, 0, Nat.zero_le _, rfl, rfl, by omega, by omega, hidD (by simp), rfl⟩
    case round =>
      obtain ⟨t, y, ht, rfl, rfl, hy0, hy1, HY, rfl⟩ := hrel
      by_cases hlt : t < M
      · have tl : t < L.length := by have := HM.out; omega
        obtain ⟨b5, o5, rfl, hb5, Q5⟩ := HS2.out.atD t tl
        have hz := HZb.out (L.getD t 0) (by rw [dgetD_at tl]; exact List.getElem_mem _)
        have HY2 : Hid (y + L.getD t 0 = (L.take (t + 1)).sum) := hidD (by rw [Sp.sum_take tl, HY.out])
        clear tl HY
        generalize L.getD t 0 = x2 at *
        obtain ⟨z1, z2⟩ := hz
        have z3 : ¬ x2 < 0 := by omega
        have z4 : ¬ (R : Int) < x2 := by omega
        go_wp2
        exact ⟨⟨t + 1, y + x2, by omega, by go_num, by first | rfl | go_num, by omega, by omega, HY2, (by first | rfl | trivial)⟩, by simp [intOf]; omega⟩
      · obtain rfl : t = M := by omega
        have hyz : y = Z := by
          rw [HY.out, List.take_of_length_le (by have := HM.out; omega), HZs.out]
        subst hyz
        clear HY
        go_wp2
        go_ret
        exact ⟨by first | rfl | simp, B2⟩
  · have hL := h0 hE
    have hM : M = 0 := by rw [HM.out, hL]; rfl
    subst hM
    clear h0 h1 hL HM
    go_wp2_with (go_at_call 19; refine (num_any _ _).mono ?_; rintro e w4 ⟨rfl, rfl⟩)
    go_ret
    exact ⟨rfl, B2⟩

set_option maxHeartbeats 4000000 in
theorem walk_no (v : Value) (ids : List Int) (r k : Int) (s : Nat) (w : World) (hs : Seg .i64 w v ids) (h : 32 < ids.length ∨ k < 1 ∨ (ids.length : Int) ≤ k) :
    Calls Try.prog 6 #[v, .int .i64 r, .int .i64 k, .int .u64 s] w fun e w' => e = .returned (.bool true) ∧ Below w.heap.size w w' := by
  have ca := alive_any w
  obtain ⟨R, _, hr3, hr1, hr2⟩ := Sp.rounds6 r
  obtain ⟨x, hx⟩ : ∃ x, r.tmod 6 = x := ⟨_, rfl⟩
  rw [hx] at hr1 hr2 hr3
  obtain ⟨a, cap, rfl, p1, p2, _, _⟩ := hs
  unfold maxLen at p2
  generalize ids.length = N at *
  by_cases h1 : 32 < N
  · have d1 : (32 : Int) < (N : Int) := by omega
    go_enter Try.func6, Try.ntmps6
    go_wp2_with fail
    with_reducible refine ca.mono ?_
    rintro e w1 ⟨rfl, b1⟩
    go_wp2
    go_ret
    exact ⟨rfl, b1⟩
  have d1 : ¬ (32 : Int) < (N : Int) := by omega
  by_cases h2 : k < 1
  · go_enter Try.func6, Try.ntmps6
    go_wp2_with fail
    with_reducible refine ca.mono ?_
    rintro e w1 ⟨rfl, b1⟩
    go_wp2
    go_ret
    exact ⟨rfl, b1⟩
  have h3 : (N : Int) ≤ k := by omega
  clear h
  go_enter Try.func6, Try.ntmps6
  go_wp2_with fail
  with_reducible refine ca.mono ?_
  rintro e w1 ⟨rfl, b1⟩
  go_wp2
  go_ret
  exact ⟨rfl, b1⟩

theorem walk {w : World} (v0 : Value) (l0 : List Int) (hs0 : Seg .i64 w v0 l0) (ho0 : ∀ z ∈ l0, -9223372036854775808 ≤ z ∧ z ≤ 9223372036854775807) (r : Int) (w1 : (Lit.int .i64 r).wf = true) (k : Int) (w2 : (Lit.int .i64 k).wf = true) (x : Int) (w3 : (Lit.int .u64 x).wf = true) :
    Calls Try.prog 6 #[v0, .int .i64 r, .int .i64 k, .int .u64 x] w fun e w' => e = .returned (.bool true) ∧ Below w.heap.size w w' := by
  have hx := bounds_u64 w3
  clear w1 w2 w3
  obtain ⟨s, rfl⟩ := Int.eq_ofNat_of_zero_le hx.1
  have hs : s < 18446744073709551616 := by omega
  by_cases hb : 32 < l0.length ∨ k < 1 ∨ (l0.length : Int) ≤ k
  · exact walk_no v0 l0 r k s w hs0 hb
  · obtain ⟨R, hR, hr3, hr1, hr2⟩ := Sp.rounds6 r
    obtain ⟨K, rfl⟩ := Int.eq_ofNat_of_zero_le (show 0 ≤ k by omega)
    have hL : (Sp.cntL l0 ((R * (l0.length / K) : Nat) : Int) K s).length ≤ 32 := by
      unfold Sp.cntL
      split
      · simp; omega
      · simp
    refine walk_v v0 l0 r K s w R (l0.length / K) K (Sp.cntE l0 ((R * (l0.length / K) : Nat) : Int) K) (Sp.cntL l0 ((R * (l0.length / K) : Nat) : Int) K s) hs0 (by omega) rfl (by omega) (by omega) hR hr1 hr2 hr3 rfl (Nat.le_trans (Nat.div_le_self _ _) (by omega)) (fun h => ?_) (fun h => Sp.even s hR (by omega) (by omega) (by omega) h) hL (fun w h => counts_any v0 l0 _ K s w h hs)
    unfold Sp.cntL
    rw [if_neg h]

set_option maxRecDepth 100000 in
theorem lifted (os : Os) (started : os.Started) (H : Type) (enc : TypeId × Value → H) :
    ReturnsInHanded {} Try.checked os 6 .any (Rows.subsetEvenSpec.pre6 enc Try.prog Try.f6 Rows.subsetEvenRow.domain false) (Rows.subsetEvenSpec.post enc Try.prog Try.f6 false true false false) := by
  refine returnsInHanded_of_change (C := Try.checked) own started (by kernel_rfl) Try.func6
    (ChangeSpec.witness6 (enc := enc) (C := Try.checked) false ⟨#[], #[.slice none 0 0, .int .i64 0, .int .i64 0, .int .u64 0], []⟩ 8 (by kernel_rfl) (by kernel_rfl) (by kernel_rfl) (by kernel_rfl)) ?_
  intro W base args ds gs before hval0 hW hcnd _
  have hval : ∀ (j : Nat) t v, Try.f6.params[j]? = some t → args[j]? = some v → Value.okWide Try.prog W .any base t v := hval0
  have hW' := hW
  obtain ⟨p, q, hA0, hV, rfl, hfz, hnd⟩ := hW
  have hA : DataW.TrodAll enc Try.prog W 0 (fun _ => true) true Try.f6.params.toList args.toList ds p := hA0
  rw [Try.params6] at hA hval
  obtain ⟨v0, vs0, d0, ds0, p0, q0, hargs, rfl, rfl, h0, r0⟩ := trodAll_cons hA
  obtain ⟨v1, vs1, d1, ds1, p1, q1, rfl, rfl, rfl, h1, r1⟩ := trodAll_cons r0
  obtain ⟨v2, vs2, d2, ds2, p2, q2, rfl, rfl, rfl, h2, r2⟩ := trodAll_cons r1
  obtain ⟨v3, vs3, d3, ds3, p3, q3, rfl, rfl, rfl, h3, r3⟩ := trodAll_cons r2
  obtain ⟨rfl, rfl, rfl⟩ := trodAll_nil r3
  obtain rfl : args = #[v0, v1, v2, v3] := by cases args; simp_all
  obtain ⟨rfl, rfl⟩ := trodVars_none hV
  have k0 := h0
  have lt0 : ∀ x ∈ p0, x.block < W.heap.size := by obtain ⟨m, hm⟩ := k0; exact DataW.trod_lt m _ _ _ hm
  obtain ⟨l0, hs0, ho0, e0⟩ := open_numbers (hval 0 22 v0 rfl rfl) h0
  obtain ⟨a1, rfl, rfl, rfl, w1⟩ := open_int Try.underlying3 (hval 1 3 v1 rfl rfl) h1
  obtain ⟨a2, rfl, rfl, rfl, w2⟩ := open_int Try.underlying3 (hval 2 3 v2 rfl rfl) h2
  obtain ⟨a3, rfl, rfl, rfl, w3⟩ := open_int Try.underlying23 (hval 3 23 v3 rfl rfl) h3
  clear hA0 hval0
  refine (walk v0 l0 hs0 ho0 a1 w1 a2 w2 a3 w3).mono fun e W' ⟨he, bel⟩ => ?_
  subst he
  exact ⟨_, rfl, _, _, _, [], _, [], hW', trodAll_mk1 (shut_bool Try.underlying4 _), (trodAll_cons_mk (Below.trod laidOut (by kernel_rfl) (of_decide_eq_true (by kernel_rfl)) k0 bel lt0) (trodAll_cons_mk (shut_int Try.underlying3 w1) (trodAll_cons_mk (shut_int Try.underlying3 w2) (trodAll_cons_mk (shut_int Try.underlying23 w3) trodAll_mk0)))), rfl, bel.frame _, fun h => by cases h⟩

theorem over : Rows.subsetEvenRow.holds Try.pinned (OpenSpec.ofChange Rows.subsetEvenSpec) :=
  OpenClaim.holds_of_wide 6 Try.f6 rfl rfl rfl rfl rfl rfl rfl ⟨rfl, rfl, rfl, rfl, rfl⟩ rfl rfl rfl rfl rfl (by kernel_rfl) Try.func6 (by kernel_rfl)
    (of_decide_eq_true (by kernel_rfl)) (by unfold Func.isWrapper; first | (rw [if_pos (by decide +kernel)]; kernel_rfl) | (rw [if_neg (by decide +kernel)]; exact ⟨rfl, rfl⟩))
    (fun os started H enc _ => lifted os started H enc)
end Go.Proofs.Ytdgdhhbapgfjgaa.subsetEven

namespace Go.Proofs.Ytdgdhhbapgfjgaa
/-- THE STATEMENT. -/
theorem subsetEven_holds : Rows.SubsetEvenSaid := subsetEven.over
#print axioms subsetEven_holds
end Go.Proofs.Ytdgdhhbapgfjgaa
