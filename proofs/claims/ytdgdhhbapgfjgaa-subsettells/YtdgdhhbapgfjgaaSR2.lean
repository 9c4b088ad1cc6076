/- subset: the reference's rising; a copy of numbers. -/
import Derived.Test.YtdgdhhbapgfjgaaSB
import Derived.BigQuiet
import Derived.Deep.QuietTactic
namespace Go.Proofs.Ytdgdhhbapgfjgaa
open Go.RowKit
set_option linter.unusedVariables false

set_option maxHeartbeats 1000000 in
theorem copy_any (v : Value) (l : List Int) (w : World) (hs : Seg .i64 w v l) (hl : l.length ≤ 17592186044415) :
    Calls Try.prog 9 #[v] w fun e w' => ∃ v', e = .returned v' ∧ w'.ownsRow w.heap.size 3 1 v' l.length (i64s l) ∧ Below w.heap.size w w' := by
  have HS := hidD hs
  obtain ⟨a, cap, rfl, h1, h2, _, _⟩ := hs
  unfold maxLen at h2
  go_enter Try.func9, Try.ntmps9
  go_wp2_with (first | (at_builtin; refine wpList_append_ints _ rfl _ _ rfl w.heap.size (.slice none 0 0) (.slice a l.length cap) [] l rfl (World.ownsRow_nil _ _ _ _) rfl HS.out (by simp; omega) (Nat.le_refl _) ?_; intro v2 w6 hown' hB6 hgrow))
  go_ret
  exact ⟨_, rfl, hown', hB6⟩

set_option maxRecDepth 20000 in
set_option maxHeartbeats 4000000 in
theorem rising_any (v : Value) (l : List Int) (w : World) (hs : Seg .i64 w v l) :
    Calls Try.prog 24 #[v] w fun e w' => e = .returned (.bool (Sp.rises (-1) l)) ∧ Below w.heap.size w w' := by
  have HS := hidD hs
  obtain ⟨a, c, rfl, h1, h2, _, _⟩ := hs
  unfold maxLen at h2
  obtain ⟨N, hN⟩ : ∃ N, N = l.length := ⟨_, rfl⟩
  rw [← hN] at h1 HS ⊢
  have HN := hidD hN
  obtain ⟨D, hD⟩ : ∃ D, D = Sp.rises (-1) l := ⟨_, rfl⟩
  rw [← hD]
  have HD := hidD hD
  clear hN hD
  go_enter Try.func24, Try.ntmps24
  go_wp2
  go_loopw [3] (fun i wr => ∃ (k : Nat) (y : Int), k ≤ N ∧ i = .int .i64 k ∧ (0 < k → y = l.getD (k - 1) 0 ∧ 0 ≤ y) ∧ (k = 0 → y = -1) ∧ Hid (D = Sp.rises y (l.drop k)) ∧ Below w.heap.size w wr) (fun i _ => N - (intOf i).toNat)
  case atStart => exact ⟨0, -1, Nat.zero_le _, rfl, fun h => by omega, fun _ => rfl, HD.out, Below.refl _ _⟩
  case round =>
    clear HD
    obtain ⟨k, y, hk, rfl, hy1, hy0, hc, hbel⟩ := hrel
    by_cases hlt : k < N
    · have kl : k < l.length := by have := HN.out; omega
      obtain ⟨b, off, rfl, hb, Q⟩ := (HS.out.below hbel).atD k kl
      have hd := hc.out
      rw [List.drop_eq_getElem_cons kl, Sp.rises, ← dgetD_at kl] at hd
      have HB := hidD hbel
      have i1 : (k : Int) < (N : Int) := by omega
      by_cases hx : l.getD k 0 < 0
      · have hyx : ¬ y < l.getD k 0 := by
          by_cases h0 : k = 0
          · have := hy0 h0; omega
          · have := (hy1 (by omega)).2; omega
        rw [decide_eq_false hyx, Bool.false_and] at hd
        subst hd
        have d1 : decide (l.getD k 0 < 0) = true := decide_eq_true hx
        clear kl hc hy1 hy0 hyx hbel
        generalize l.getD k 0 = x at *
        go_wp2_with fail
        go_quiet (fail)
        go_wp2
        go_ret
        exact ⟨rfl, drewD HB.out _⟩
      have d1 : decide (l.getD k 0 < 0) = false := decide_eq_false hx
      by_cases h0 : k = 0
      · have e1 := hy0 h0
        rw [decide_eq_true (by omega), Bool.true_and] at hd
        have HD2 := hidD hd
        have hl0 : Hid (l.getD k 0 = l.getD (k + 1 - 1) 0) := hidD rfl
        have d3 : ¬ (0 < k) := by omega
        have d4 : decide (0 < k) = false := decide_eq_false d3
        have hx0 : 0 ≤ l.getD k 0 := by omega
        clear kl hc hd hy1 hy0 hbel e1 h0
        generalize l.getD k 0 = x at *
        go_wp2_with fail
        go_quiet (fail)
        go_wp2
        exact ⟨⟨k + 1, x, by omega, by go_num, fun _ => ⟨hl0.out, by omega⟩, fun h => by omega, HD2, drewD HB.out _⟩, by simp [intOf]; omega⟩
      · obtain ⟨e1, e2⟩ := hy1 (by omega)
        obtain ⟨J, hJ⟩ : ∃ J, J = k - 1 := ⟨_, rfl⟩
        obtain ⟨b', off', e', hb', QJ⟩ := (HS.out.below hbel).atD J (by omega)
        cases e'
        rw [← hJ] at e1
        rw [← e1] at QJ
        have i4 : IntKind.i64.wrap ((k : Int) - 1) = (J : Int) := by rw [IntKind.wrap_i64]; omega
        have i5 : J < N := by omega
        have i6 : (J : Int) < (N : Int) := by omega
        have d3 : 0 < k := by omega
        have d4 : decide (0 < k) = true := decide_eq_true d3
        have hl0 : Hid (l.getD k 0 = l.getD (k + 1 - 1) 0) := hidD rfl
        by_cases hq : l.getD k 0 ≤ y
        · rw [decide_eq_false (by omega), Bool.false_and] at hd
          subst hd
          have d5 : decide (l.getD k 0 ≤ y) = true := decide_eq_true hq
          clear kl hc hy1 hy0 hbel hJ e1 hl0
          generalize l.getD k 0 = x at *
          go_wp2_with fail
          go_quiet (fail)
          go_wp2
          go_ret
          exact ⟨rfl, drewD HB.out _⟩
        · rw [decide_eq_true (by omega), Bool.true_and] at hd
          have HD2 := hidD hd
          have d5 : decide (l.getD k 0 ≤ y) = false := decide_eq_false hq
          clear kl hc hd hy1 hy0 hbel hJ e1
          generalize l.getD k 0 = x at *
          go_wp2_with fail
          go_quiet (fail)
          go_wp2
          exact ⟨⟨k + 1, x, by omega, by go_num, fun _ => ⟨hl0.out, by omega⟩, fun h => by omega, HD2, drewD HB.out _⟩, by simp [intOf]; omega⟩
    · have hd := hc.out
      rw [List.drop_eq_nil_of_le (by have := HN.out; omega), Sp.rises] at hd
      subst hd
      clear hc
      go_wp2
      go_ret
      exact ⟨rfl, hbel⟩
end Go.Proofs.Ytdgdhhbapgfjgaa
