/- SubsetApart: two clients of one round, where there are more backends than a subset has, share none: for every list, clients, size and seed. -/
import Derived.Test.YtdgdhhbapgfjgaaRows
import Derived.BigQuiet
import Derived.Deep.QuietTactic
import Derived.WalkKit
import Derived.ProofKit
import Derived.OpenShut
import Derived.ShutString
import Derived.Test.YtdgdhhbapgfjgaaSAp
import Derived.Test.YtdgdhhbapgfjgaaOpen
import Derived.Test.YtdgdhhbapgfjgaaOpenN
namespace Go.Proofs.Ytdgdhhbapgfjgaa.subsetApart
open Go.ChangeShapes Go.WideShapes Go.ChangeAt Go.RowKit
open Go.ChangeMaps (open_string shut_string)
open Go.Sort Go.Shelf
set_option linter.unusedVariables false
set_option maxRecDepth 20000

set_option maxHeartbeats 4000000 in
theorem walk_v (v : Value) (ids : List Int) (a b k : Int) (s : Nat) (w : World) (E F R S P P2 E2 E3 : Int) (L M : List Int) (hs : Seg .i64 w v ids) (h0 : E ≠ 0 → L = [])
    (hd : E = 0 → F = 0 → k < ids.length → a ≠ b → R = S → ∀ z ∈ L, ¬ z ∈ M)
    (C1 : ∀ w : World, Seg .i64 w v ids → Calls Try.prog 10 #[v, .int .i64 a, .int .i64 k, .int .u64 s] w fun e w' => ∃ v', e = .returned (.tuple #[v', .int .i64 E]) ∧ Seg .i64 w' v' L ∧ Below w.heap.size w w')
    (C2 : ∀ w : World, Seg .i64 w v ids → Calls Try.prog 10 #[v, .int .i64 b, .int .i64 k, .int .u64 s] w fun e w' => ∃ v', e = .returned (.tuple #[v', .int .i64 F]) ∧ Seg .i64 w' v' M ∧ Below w.heap.size w w')
    (C3 : ∀ w : World, Calls Try.prog 12 #[.int .i64 (ids.length : Nat), .int .i64 a, .int .i64 k] w fun e w' => e = .returned (.tuple #[.int .i64 R, .int .i64 P, .int .i64 E2]) ∧ Below w.heap.size w w')
    (C4 : ∀ w : World, Calls Try.prog 12 #[.int .i64 (ids.length : Nat), .int .i64 b, .int .i64 k] w fun e w' => e = .returned (.tuple #[.int .i64 S, .int .i64 P2, .int .i64 E3]) ∧ Below w.heap.size w w') :
    Calls Try.prog 5 #[v, .int .i64 a, .int .i64 b, .int .i64 k, .int .u64 s] w fun e w' => e = .returned (.bool true) ∧ Below w.heap.size w w' := by
  have ca := alive_any w
  go_enter Try.func5, Try.ntmps5
  go_wp2_with fail
  with_reducible refine ca.mono ?_
  rintro e w1 ⟨rfl, b1⟩
  have hs1 := hs.below b1
  go_wp2_with fail
  with_reducible refine (C1 w1 hs1).mono ?_
  rintro e w2 ⟨v2, rfl, hs2, b2⟩
  have hs3 := hs1.below b2
  go_wp2_with fail
  with_reducible refine (C2 w2 hs3).mono ?_
  rintro e w3 ⟨v3, rfl, hm3, b3⟩
  have B3 := Below.step (Below.step b1 b2) b3
  have HS2 := hidD (hs2.below b3)
  have HM := hidD hm3
  obtain ⟨c1, cap, rfl, q1, q2, _, _⟩ := hs
  unfold maxLen at q2
  obtain ⟨c2, cap2, rfl, q3, q4, _, _⟩ := hs2
  unfold maxLen at q4
  obtain ⟨c3, cap3, rfl, q5, q6, _, _⟩ := hm3
  unfold maxLen at q6
  clear C1 C2 ca b1 b2 b3 hs1 hs3
  obtain ⟨N, hN⟩ : ∃ N, N = ids.length := ⟨_, rfl⟩
  rw [← hN] at q1 hd C3 C4 ⊢
  clear hN
  obtain ⟨X, hX⟩ : ∃ X, X = L.length := ⟨_, rfl⟩
  rw [← hX] at q3 HS2 ⊢
  have HX := hidD hX
  clear hX
  obtain ⟨Y, hY⟩ : ∃ Y, Y = M.length := ⟨_, rfl⟩
  rw [← hY] at q5 HM ⊢
  clear hY
  by_cases hE : E = 0
  · subst hE
    by_cases hF : F = 0
    · subst hF
      by_cases hk : (N : Int) ≤ k
      · clear hd h0 C3 C4
        go_wp2_with (go_at_call 19; refine (num_any _ _).mono ?_; rintro e w4 ⟨rfl, rfl⟩)
        go_ret
        exact ⟨rfl, B3⟩
      by_cases hab : a = b
      · clear hd h0 C3 C4
        go_wp2_with (go_at_call 19; refine (num_any _ _).mono ?_; rintro e w4 ⟨rfl, rfl⟩)
        go_ret
        exact ⟨rfl, B3⟩
      have HD := hidD (hd rfl rfl (by omega) hab)
      clear hd h0
      go_wp2_with (go_at_call 19; refine (num_any _ _).mono ?_; rintro e w4 ⟨rfl, rfl⟩)
      · rename_i hx
        exfalso
        rcases hx with h | h
        · omega
        · exact hab (by simpa using h)
      with_reducible refine (C3 w3).mono ?_
      rintro e w4 ⟨rfl, b4⟩
      go_wp2_with fail
      with_reducible refine (C4 w4).mono ?_
      rintro e w5 ⟨rfl, b5⟩
      have HS5 := hidD ((HS2.out.below b4).below b5)
      have HM5 := hidD ((HM.out.below b4).below b5)
      have B5 := Below.step (Below.step B3 b4) b5
      clear C3 C4 b4 b5 HS2 HM B3
      by_cases hR : R = S
      · subst hR
        replace HD := hidD (HD.out rfl)
        go_wp2_with fail
        go_loopw [21] (fun i wr => ∃ q : Nat, q ≤ X ∧ i = .int .i64 q ∧ wr = w5) (fun i _ => X - (intOf i).toNat)
        case atStart => exact ⟨0, Nat.zero_le _, rfl, rfl⟩
        case round =>
          obtain ⟨q, hq, rfl, rfl⟩ := hrel
          by_cases hlt : q < X
          · have ql : q < L.length := by have := HX.out; omega
            obtain ⟨b7, o7, rfl, hb7, Q7⟩ := HS5.out.atD q ql
            have cn := has_not _ M (L.getD q 0) wr HM5.out (HD.out _ (by rw [dgetD_at ql]; exact List.getElem_mem _))
            clear ql
            generalize L.getD q 0 = x at *
            go_wp2_with (go_at_call 21; refine cn.mono ?_; rintro e w8 ⟨rfl, rfl⟩)
            exact ⟨⟨q + 1, by omega, by go_num, (by first | rfl | trivial)⟩, by simp [intOf]; omega⟩
          · go_wp2
            go_ret
            exact ⟨rfl, B5⟩
      · go_wp2_with fail
        go_loopw [21] (fun i wr => i = .int .i64 0 ∧ wr = w5) (fun i _ => 0)
        case atStart => exact ⟨rfl, rfl⟩
        case round =>
          obtain ⟨rfl, rfl⟩ := hrel
          by_cases hlt : 0 < X
          · go_wp2
            go_ret
            exact ⟨rfl, B5⟩
          · go_wp2
            go_ret
            exact ⟨rfl, B5⟩
    · clear hd h0 C3 C4
      go_wp2_with (go_at_call 19; refine (num_any _ _).mono ?_; rintro e w4 ⟨rfl, rfl⟩)
      go_ret
      exact ⟨rfl, B3⟩
  · have hL := h0 hE
    have hX : X = 0 := by rw [HX.out, hL]; rfl
    subst hX
    clear h0 hd C3 C4 hL HX
    go_wp2_with (go_at_call 19; refine (num_any _ _).mono ?_; rintro e w4 ⟨rfl, rfl⟩)
    go_ret
    exact ⟨rfl, B3⟩

theorem walk {w : World} (v0 : Value) (l0 : List Int) (hs0 : Seg .i64 w v0 l0) (ho0 : ∀ z ∈ l0, -9223372036854775808 ≤ z ∧ z ≤ 9223372036854775807) (a : Int) (w1 : (Lit.int .i64 a).wf = true) (b : Int) (wb : (Lit.int .i64 b).wf = true) (k : Int) (w2 : (Lit.int .i64 k).wf = true) (x : Int) (w3 : (Lit.int .u64 x).wf = true) :
    Calls Try.prog 5 #[v0, .int .i64 a, .int .i64 b, .int .i64 k, .int .u64 x] w fun e w' => e = .returned (.bool true) ∧ Below w.heap.size w w' := by
  have hx := bounds_u64 w3
  clear w1 w2 w3 wb
  obtain ⟨s, rfl⟩ := Int.eq_ofNat_of_zero_le hx.1
  have hs : s < 18446744073709551616 := by omega
  exact walk_v v0 l0 a b k s w (Sp.ofE l0 a k) (Sp.ofE l0 b k) (Sp.rR l0.length a k) (Sp.rR l0.length b k) (Sp.rP l0.length a k) (Sp.rP l0.length b k) (Sp.rE l0.length a k) (Sp.rE l0.length b k) (Sp.ofL l0 a k s) (Sp.ofL l0 b k s) hs0 (Sp.ofL_none s)
    (fun h1 h2 h3 h4 h5 z hz => Sp.ofL_apart s h1 h2 h3 h4 h5 hz) (fun w h => of_any v0 l0 a k s w h hs) (fun w h => of_any v0 l0 b k s w h hs) (fun w => round_any _ _ _ w) (fun w => round_any _ _ _ w)

set_option maxRecDepth 100000 in
theorem lifted (os : Os) (started : os.Started) (H : Type) (enc : TypeId × Value → H) :
    ReturnsInHanded {} Try.checked os 5 .any (Rows.subsetApartSpec.pre6 enc Try.prog Try.f5 Rows.subsetApartRow.domain false) (Rows.subsetApartSpec.post enc Try.prog Try.f5 false true false false) := by
  refine returnsInHanded_of_change (C := Try.checked) own started (by kernel_rfl) Try.func5
    (ChangeSpec.witness6 (enc := enc) (C := Try.checked) false ⟨#[], #[.slice none 0 0, .int .i64 0, .int .i64 0, .int .i64 0, .int .u64 0], []⟩ 8 (by kernel_rfl) (by kernel_rfl) (by kernel_rfl) (by kernel_rfl)) ?_
  intro W base args ds gs before hval0 hW hcnd _
  have hval : ∀ (j : Nat) t v, Try.f5.params[j]? = some t → args[j]? = some v → Value.okWide Try.prog W .any base t v := hval0
  have hW' := hW
  obtain ⟨p, q, hA0, hV, rfl, hfz, hnd⟩ := hW
  have hA : DataW.TrodAll enc Try.prog W 0 (fun _ => true) true Try.f5.params.toList args.toList ds p := hA0
  rw [Try.params5] at hA hval
  obtain ⟨v0, vs0, d0, ds0, p0, q0, hargs, rfl, rfl, h0, r0⟩ := trodAll_cons hA
  obtain ⟨v1, vs1, d1, ds1, p1, q1, rfl, rfl, rfl, h1, r1⟩ := trodAll_cons r0
  obtain ⟨v2, vs2, d2, ds2, p2, q2, rfl, rfl, rfl, h2, r2⟩ := trodAll_cons r1
  obtain ⟨v3, vs3, d3, ds3, p3, q3, rfl, rfl, rfl, h3, r3⟩ := trodAll_cons r2
  obtain ⟨v4, vs4, d4, ds4, p4, q4, rfl, rfl, rfl, h4, r4⟩ := trodAll_cons r3
  obtain ⟨rfl, rfl, rfl⟩ := trodAll_nil r4
  obtain rfl : args = #[v0, v1, v2, v3, v4] := by cases args; simp_all
  obtain ⟨rfl, rfl⟩ := trodVars_none hV
  have k0 := h0
  have lt0 : ∀ x ∈ p0, x.block < W.heap.size := by obtain ⟨m, hm⟩ := k0; exact DataW.trod_lt m _ _ _ hm
  obtain ⟨l0, hs0, ho0, e0⟩ := open_numbers (hval 0 22 v0 rfl rfl) h0
  obtain ⟨a1, rfl, rfl, rfl, w1⟩ := open_int Try.underlying3 (hval 1 3 v1 rfl rfl) h1
  obtain ⟨a2, rfl, rfl, rfl, w2⟩ := open_int Try.underlying3 (hval 2 3 v2 rfl rfl) h2
  obtain ⟨a3, rfl, rfl, rfl, w3⟩ := open_int Try.underlying3 (hval 3 3 v3 rfl rfl) h3
  obtain ⟨a4, rfl, rfl, rfl, w4⟩ := open_int Try.underlying23 (hval 4 23 v4 rfl rfl) h4
  clear hA0 hval0
  refine (walk v0 l0 hs0 ho0 a1 w1 a2 w2 a3 w3 a4 w4).mono fun e W' ⟨he, bel⟩ => ?_
  subst he
  exact ⟨_, rfl, _, _, _, [], _, [], hW', trodAll_mk1 (shut_bool Try.underlying4 _), (trodAll_cons_mk (Below.trod laidOut (by kernel_rfl) (of_decide_eq_true (by kernel_rfl)) k0 bel lt0) (trodAll_cons_mk (shut_int Try.underlying3 w1) (trodAll_cons_mk (shut_int Try.underlying3 w2) (trodAll_cons_mk (shut_int Try.underlying3 w3) (trodAll_cons_mk (shut_int Try.underlying23 w4) trodAll_mk0))))), rfl, bel.frame _, fun h => by cases h⟩

theorem over : Rows.subsetApartRow.holds Try.pinned (OpenSpec.ofChange Rows.subsetApartSpec) :=
  OpenClaim.holds_of_wide 5 Try.f5 rfl rfl rfl rfl rfl rfl rfl ⟨rfl, rfl, rfl, rfl, rfl⟩ rfl rfl rfl rfl rfl (by kernel_rfl) Try.func5 (by kernel_rfl)
    (of_decide_eq_true (by kernel_rfl)) (by unfold Func.isWrapper; first | (rw [if_pos (by decide +kernel)]; kernel_rfl) | (rw [if_neg (by decide +kernel)]; exact ⟨rfl, rfl⟩))
    (fun os started H enc _ => lifted os started H enc)
end Go.Proofs.Ytdgdhhbapgfjgaa.subsetApart

namespace Go.Proofs.Ytdgdhhbapgfjgaa
/-- THE STATEMENT. -/
theorem subsetApart_holds : Rows.SubsetApartSaid := subsetApart.over
#print axioms subsetApart_holds
end Go.Proofs.Ytdgdhhbapgfjgaa
