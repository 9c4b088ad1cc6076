/- choice: lists of loads compared; own of any. -/
import Derived.Test.YtcpcnajifdicmaaCB1
import Derived.Laws.AppendOwnNone
namespace Go.Proofs.Ytcpcnajifdicmaa
open Go.RowKit Go.Sort
set_option linter.unusedVariables false
set_option maxRecDepth 20000

set_option maxHeartbeats 2000000 in
theorem lsame_true (v u : Value) (l : List Rp.Pt) (w : World) (hv : PSeg .i64 w v l) (hu : PSeg .i64 w u l) : Calls Try.prog 19 #[v, u] w fun e w' => e = .returned (.bool true) ∧ Below w.heap.size w w' := by
  obtain ⟨a, cap, rfl, h1, h2, h3, h4⟩ := hv
  obtain ⟨b, cap', rfl, g1, g2, g3, g4⟩ := hu
  obtain ⟨N, hN⟩ : ∃ N, N = l.length := ⟨_, rfl⟩
  have HN := hidD hN
  rw [← hN] at h1 g1 ⊢
  unfold maxLen at h2
  have H4 := hidD h4
  have G4 := hidD g4
  have H3 := hidD h3
  have G3 := hidD g3
  clear hN h3 h4 g3 g4
  have hne : ((N : Int) != (N : Int)) = false := by simp
  go_enter Try.func19, Try.ntmps19
  go_wp2_with fail
  go_loopw [5] (fun i wr => ∃ k : Nat, k ≤ N ∧ i = .int .i64 k ∧ Below w.heap.size w wr) (fun i _ => N - (intOf i).toNat)
  case atStart => exact ⟨0, Nat.zero_le _, rfl, Below.refl _ _⟩
  case round =>
    obtain ⟨k, hk, rfl, hb⟩ := hrel
    by_cases hlt : k < N
    · obtain ⟨g, off, rfl, hg, hcell⟩ := pseg_at (l := l) (by have := HN.out; omega) H3.out H4.out
      obtain ⟨g', off', rfl, hg', hcell'⟩ := pseg_at (l := l) (by have := HN.out; omega) G3.out G4.out
      obtain ⟨q1, q2⟩ := hcell k (by have := HN.out; omega)
      obtain ⟨r1, r2⟩ := hcell' k (by have := HN.out; omega)
      have Q1 := (hb.cell (p := ⟨g, off + k * 2, none⟩) hg).trans q1
      have Q2 := (hb.cell (p := ⟨g, off + k * 2 + 1, none⟩) hg).trans q2
      have R1 := (hb.cell (p := ⟨g', off' + k * 2, none⟩) hg').trans r1
      have R2 := (hb.cell (p := ⟨g', off' + k * 2 + 1, none⟩) hg').trans r2
      have i1 : (k : Int) < (N : Int) := by omega
      clear q1 q2 r1 r2 hcell hcell' H3 H4 G3 G4
      generalize l.getD k (0, 0) = x at *
      go_wp2_with fail
      go_quiet (fail)
      go_wp2
      exact ⟨⟨k + 1, by omega, by go_num, belowD_drewN hb _⟩, by simp [intOf]; omega⟩
    · go_wp2
      go_ret
      exact ⟨rfl, hb⟩

theorem low_zero (x : Addr) (cap : Nat) (w : World) :
    Calls Try.prog 9 #[.slice (some x) 0 cap] w fun e w' => ∃ v', e = .returned v' ∧ w'.ownsRow w.heap.size 49 2 v' 0 [] ∧ Below w.heap.size w w' := by
  obtain ⟨i0, hi, hz0, hz1, hz2⟩ := info_parts Try.infoL
  go_enter Try.func9, Try.ntmps9
  go_wp2_with (at_builtin; refine wpList_append_own _ rfl _ _ 23 rfl w.heap.size 49 i0 (.agg #[.int .i64 0, .int .i64 0]) 2 16 Try.underlying23 hi hz0 hz1 hz2 rfl (by decide) _ _ _ rfl (World.ownsRow_nil _ _ _ _) x 0 cap [] rfl rfl (by intro j u hj; simp at hj) (by intro u hu; cases hu) (by unfold maxLen; omega) (by omega) (Nat.le_refl _) ?_)
  intro v' w1 hown hgrow hnil
  go_wp2
  go_ret
  refine ⟨v', rfl, by simpa using hown, ?_⟩
  exact (Below.refl _ w).grown hgrow (Nat.le_refl _) (by intro k hk; simp [Value.ownBlock] at hk)
theorem low_nil (w : World) :
    Calls Try.prog 9 #[.slice none 0 0] w fun e w' => ∃ v', e = .returned v' ∧ w'.ownsRow w.heap.size 49 2 v' 0 [] ∧ Below w.heap.size w w' := by
  obtain ⟨i0, hi, hz0, hz1, hz2⟩ := info_parts Try.infoL
  go_enter Try.func9, Try.ntmps9
  go_wp2_with (at_builtin; refine wpList_append_own_none rfl _ _ 23 rfl w.heap.size 49 i0 2 Try.underlying23 hi _ _ _ rfl (World.ownsRow_nil _ _ _ _) rfl ?_)
  go_ret
  exact ⟨_, rfl, World.ownsRow_nil _ _ _ _, Below.refl _ _⟩
theorem low_any (v : Value) (l : List Rp.Pt) (w : World) (hv : PSeg .i64 w v l) (hz : l.length ≤ 8796093022208) :
    Calls Try.prog 9 #[v] w fun e w' => ∃ v', e = .returned v' ∧ w'.ownsRow w.heap.size 49 2 v' l.length (rowL l) ∧ Below w.heap.size w w' := by
  by_cases h0 : 0 < l.length
  · obtain ⟨g, off, cap, rfl, h1, h2, hg, hcell⟩ := pseg_cell hv h0
    exact low_some g off cap l w h1 h2 hz hcell
  · have hl0 : l = [] := List.length_eq_zero_iff.1 (by omega)
    subst hl0
    obtain ⟨a, cap, rfl, h1, h2, h3, h4⟩ := hv
    rcases a with _ | x
    · have := (h3 rfl).2
      subst this
      exact low_nil w
    · exact low_zero x cap w
end Go.Proofs.Ytcpcnajifdicmaa
