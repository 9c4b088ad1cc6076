/- frame: sum. -/
import Derived.Test.YtoadcaennlfadaaFA
namespace Go.Proofs.Ytoadcaennlfadaa
open Go.RowKit
set_option maxRecDepth 20000

set_option maxHeartbeats 1000000 in
theorem fsum_any (v : Value) (ls : List (List Int)) (w : World) (hs : Segs w v ls) (ho : ∀ l ∈ ls, Pl.Octs l) :
    Calls Try.prog 58 #[v] w fun e w' => ∃ v', e = .returned v' ∧ w'.ownsRow w.heap.size 5 1 v' 4 (u8s (Pl.four (Pl.sumOf ls.flatten))) ∧ Below w.heap.size w w' := by
  have hof : Pl.Octs ls.flatten := by
    intro z hz
    obtain ⟨m, hm, hzm⟩ := List.mem_flatten.1 hz
    exact ho m hm z hzm
  have hlt := Pl.sumOf_lt hof
  clear hof
  obtain ⟨i0, hi, hz0, hz1, hz2⟩ := info_parts Try.info5
  obtain ⟨w2, hmk, hown2, hg2⟩ := run_make_full (P := Try.prog) w w.heap.size 22 5 i0 (.int .u8 0) 1 Try.underlying22 hi hz0 hz1 .i64 .i64 4 (by rw [hz2]; decide) (by unfold maxLen; decide) (Nat.le_refl _)
  have hb2 : Below w.heap.size w w2 := (Below.refl _ _).grown hg2 (Nat.le_refl _) (fun k hk => by cases hk)
  simp only [show ((4 : Nat) : Int) = 4 from rfl] at hmk
  clear hg2 hz0 hz1 hz2 hi
  have hsum := sum_any v ls w hs ho
  generalize Pl.sumOf ls.flatten = c at *
  generalize hgw : w.heap.size = g at *
  go_enter Try.func58, Try.ntmps58
  go_wp2_with (go_at_call 69; refine hsum.mono ?_; rintro e w1 ⟨rfl, rfl⟩)
  go_loopw [11] (fun i wr => ∃ (k : Nat) (ys : List Value), k ≤ 4 ∧ i = .int .i64 k ∧ wr.ownsRow g 5 1 (.slice (some ⟨g, 0, none⟩) 4 4) 4 ys ∧ Hid (∀ j, j < k → ys[j]? = some (.int .u8 ((c / 2 ^ (8 * j) % 256 : Nat) : Int))) ∧ Below g w wr) (fun i _ => 4 - (intOf i).toNat)
  case atStart => exact ⟨0, _, Nat.zero_le _, rfl, hown2, fun j hj => absurd hj (Nat.not_lt_zero _), hb2⟩
  case round =>
    obtain ⟨k, ys, hk, rfl, hr, HY, hbel⟩ := hrel
    clear hown2 hb2
    by_cases hlt4 : k < 4
    · have hys : ys.length = 4 := by have := hr.1; omega
      obtain ⟨z, hc⟩ : ∃ z, wr.cell? ⟨g, k, none⟩ = some z := ⟨ys[k]'(by omega), by rw [hr.cellAt k (by omega), List.getElem?_eq_getElem (by omega)]⟩
      have hf := hr.frozenAt k
      have hst := hr.stored k (.int .u8 ((c : Int) / 2 ^ (8 * k) % 256))
      have HO := hst.1
      have hgr : Below g w (wr.setCell ⟨g, k, none⟩ (.int .u8 ((c : Int) / 2 ^ (8 * k) % 256))) := hbel.grown hst.2 (by have := hbel.size; omega) (fun j hj => by cases hj; exact Nat.le_refl _)
      have hval : (c : Int) / 2 ^ (8 * k) % 256 = ((c / 2 ^ (8 * k) % 256 : Nat) : Int) := by
        rw [Int.natCast_emod, Int.natCast_ediv]
        simp
      have HN : Hid (∀ j, j < k + 1 → (ys.set k (.int .u8 ((c : Int) / 2 ^ (8 * k) % 256)))[j]? = some (.int .u8 ((c / 2 ^ (8 * j) % 256 : Nat) : Int))) := by
        intro j hj
        by_cases hjk : j = k
        · subst hjk
          rw [List.getElem?_set_self (by omega), hval]
        · rw [List.getElem?_set_ne (by omega)]
          exact HY.out j (by omega)
      clear hst hr HY hval hys hbel
      go_wp2
      go_roundw
      case rel => exact ⟨k + 1, _, by omega, by go_num, HO, HN, hgr⟩
      case measure => simp [intOf]; omega
    · obtain rfl : k = 4 := by omega
      have HE : Hid (ys = u8s (Pl.four c)) := by
        have hys : ys.length = 4 := by have := hr.1; omega
        have h0 := HY.out 0 (by omega)
        have h1 := HY.out 1 (by omega)
        have h2 := HY.out 2 (by omega)
        have h3 := HY.out 3 (by omega)
        match ys, hys with
        | [a, b, d, e], _ =>
          simp at h0 h1 h2 h3
          subst h0 h1 h2 h3
          simp [Pl.four, Hid]
      clear HY
      go_wp2
      go_ret
      refine ⟨_, rfl, ?_, hbel⟩
      rw [← HE.out]
      exact hr
end Go.Proofs.Ytoadcaennlfadaa
