/- draw: slices.IndexFunc and ContainsFunc of numbers; Below, of both; SameInts. -/
import Derived.Test.YthdaldgmolhljaaDB
import Derived.OwnWalk
import Derived.RegionTactic
namespace Go.Proofs.Ythdaldgmolhljaa
open Go.RowKit
set_option maxRecDepth 20000

theorem Try.info3 : (Try.prog.info? 3).map (fun i => (i.zero, i.size, i.bytes)) = some (some (.int .i64 0), 1, 8) := by kernel_rfl
abbrev i64s (l : List Int) : List Value := l.map (Value.int .i64)

theorem belowD_drew {B : Nat} {w w' : World} (h : Below B w w') : Below B w w'.drew := ⟨h.os, h.tape, h.output, h.size, h.block⟩
theorem hidD {p : Prop} (h : p) : Hid p := h
theorem dgetD_at {l : List Int} {i : Nat} (h : i < l.length) : l.getD i 0 = l[i] := by simp [List.getD, h]
theorem dany_take (f : Int → Bool) (l : List Int) (k : Nat) (h : k < l.length) : (l.take (k + 1)).any f = ((l.take k).any f || f (l.getD k 0)) := by
  rw [List.take_succ_eq_append_getElem h]
  simp only [List.any_append, List.any_cons, List.any_nil, Bool.or_false, dgetD_at h]
theorem dany_at (f : Int → Bool) (l : List Int) (k : Nat) (h : k < l.length) (hf : f (l.getD k 0) = true) : l.any f = true := by
  rw [List.any_eq_true]
  exact ⟨l.getD k 0, by rw [dgetD_at h]; exact List.getElem_mem _, hf⟩

/-- The first number that fits: is there one? -/
theorem indexInts_any (ft : Nat) (hen : ∀ (args : Array Value) (w' : World), (callFunc ft args).run Try.prog w' = .ok (.enter ft args) w') (P : Int → Bool) (v : Value) (l : List Int) (w : World) (hv : Seg .i64 w v l)
    (ht : ∀ z, Calls Try.prog ft #[.int .i64 z] w fun e w' => e = .returned (.bool (P z)) ∧ w = w') :
    Calls Try.prog 35 #[v, .func (.func ft) #[] #[]] w fun e w' => ∃ r : Int, e = .returned (.int .i64 r) ∧ (decide (0 ≤ r) = l.any P) ∧ w = w' := by
  obtain ⟨a, cap, rfl, h1, h2, h3, h4⟩ := id hv
  obtain ⟨N, hN⟩ : ∃ N, N = l.length := ⟨_, rfl⟩
  rw [← hN] at h1 hv ⊢
  unfold maxLen at h2
  have HN : Hid (N = l.length) := hN
  rw [← hN] at h4
  clear hN
  go_enter Try.func35, Try.ntmps35
  go_wp2_with fail
  go_loopw [8] (fun i wr => ∃ k : Nat, k ≤ N ∧ i = .int .i64 k ∧ Hid ((l.take k).any P = false) ∧ w = wr) (fun i _ => N - (intOf i).toNat)
  case atStart => exact ⟨0, Nat.zero_le _, rfl, by simp [Hid], rfl⟩
  case round =>
    obtain ⟨k, hk, rfl, hc, rfl⟩ := hrel
    by_cases hlt : k < N
    · obtain ⟨g, off, rfl, hg, hcell⟩ := seg_at (l := l) (by have := HN.out; omega) h3 (by rw [← HN.out]; exact h4)
      have Q := hcell k (by have := HN.out; omega)
      have hb := ht (l.getD k 0)
      have HT := hidD (dany_take P l k (by have := HN.out; omega))
      have HA := hidD (dany_at P l k (by have := HN.out; omega))
      clear hcell h3 h4 ht
      generalize l.getD k 0 = x at *
      by_cases hq : P x = true
      · rw [hq] at hb
        go_wp2_with fail
        refine hb.mono ?_
        rintro e w2 ⟨rfl, rfl⟩
        go_wp2
        go_ret
        exact ⟨_, rfl, by rw [HA.out hq]; exact decide_eq_true (by omega), rfl⟩
      · rw [Bool.not_eq_true] at hq
        rw [hq] at hb
        go_wp2_with fail
        refine hb.mono ?_
        rintro e w2 ⟨rfl, rfl⟩
        have hc2 : Hid ((l.take (k + 1)).any P = false) := by
          show (l.take (k + 1)).any P = false
          rw [HT.out, hc.out, hq]
          rfl
        clear hb hq
        go_wp2
        exact ⟨⟨k + 1, by omega, by go_num, hc2, (by first | rfl | trivial)⟩, by simp [intOf]; omega⟩
    · have hke : l.take k = l := List.take_of_length_le (by have := HN.out; omega)
      rw [hke] at hc
      clear hke h3 h4 ht
      go_wp2
      go_ret
      exact ⟨_, rfl, by rw [hc.out]; rfl, rfl⟩

theorem containsInts_any (ft : Nat) (hen : ∀ (args : Array Value) (w' : World), (callFunc ft args).run Try.prog w' = .ok (.enter ft args) w') (P : Int → Bool) (v : Value) (l : List Int) (w : World) (hv : Seg .i64 w v l)
    (ht : ∀ z, Calls Try.prog ft #[.int .i64 z] w fun e w' => e = .returned (.bool (P z)) ∧ w = w') :
    Calls Try.prog 28 #[v, .func (.func ft) #[] #[]] w fun e w' => e = .returned (.bool (l.any P)) ∧ w = w' := by
  have h33 := indexInts_any ft hen P v l w hv ht
  obtain ⟨a, cap, rfl, _⟩ := id hv
  clear ht hen hv
  go_enter Try.func28, Try.ntmps28
  go_wp2_with (go_at_call 35; refine h33.mono ?_; rintro e w2 ⟨r, rfl, hr, rfl⟩)
  go_ret
  exact ⟨by rw [← hr]; rfl, rfl⟩

/-- A number that may not be. -/
def badB (n : Int) : Bool := decide (n < 1) || decide (1048576 < n)
end Go.Proofs.Ythdaldgmolhljaa
