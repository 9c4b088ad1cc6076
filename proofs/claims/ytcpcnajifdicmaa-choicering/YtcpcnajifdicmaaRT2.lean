/- ring: the reference's Walk and Lookup of any points. -/
import Derived.Test.YtcpcnajifdicmaaRT1
namespace Go.Proofs.Ytcpcnajifdicmaa
open Go.RowKit Go.Sort Go.Shelf

theorem rwalk_bad1 (v : Value) (r : List Rp.Pt) (h : Int) (w : World) (hv : PSeg .u64 w v r) (hw0 : Rp.wholeE r ≠ 0) :
    Calls Try.prog 25 #[v, .int .u64 h] w fun e w' => e = .returned (.tuple #[.slice none 0 0, .int .i64 (Rp.wholeE r)]) ∧ Below w.heap.size w w' := by
  have c := rwhole_any v r w hv
  have hb : (Rp.wholeE r != 0) = true := by simpa using hw0
  obtain ⟨a, cap, rfl, -⟩ := hv
  generalize Rp.wholeE r = E at *
  generalize r.length = N at *
  go_enter Try.func25, Try.ntmps25
  go_wp2_with fail
  with_reducible refine c.mono ?_
  rintro e w1 ⟨rfl, b1⟩
  go_wp2
  refine bodyPost_ret (results_tmp2 rfl _ _ _) rfl ?_
  exact ⟨rfl, b1⟩
theorem rwalk_bad2 (v : Value) (h : Int) (w : World) (hv : PSeg .u64 w v []) :
    Calls Try.prog 25 #[v, .int .u64 h] w fun e w' => e = .returned (.tuple #[.slice none 0 0, .int .i64 71]) ∧ Below w.heap.size w w' := by
  have c := rwhole_any v [] w hv
  rw [show Rp.wholeE [] = 0 from rfl] at c
  obtain ⟨a, cap, rfl, -⟩ := hv
  rw [show ([] : List Rp.Pt).length = 0 from rfl] at c ⊢
  go_enter Try.func25, Try.ntmps25
  go_wp2_with fail
  with_reducible refine c.mono ?_
  rintro e w1 ⟨rfl, b1⟩
  go_wp2
  refine bodyPost_ret (results_tmp2 rfl _ _ _) rfl ?_
  exact ⟨rfl, b1⟩
theorem rwalk_any (v : Value) (r : List Rp.Pt) (h : Int) (w : World) (hv : PSeg .u64 w v r) :
    Calls Try.prog 25 #[v, .int .u64 h] w fun e w' => ∃ v', e = .returned (.tuple #[v', .int .i64 (Rp.peopledE r)]) ∧ w'.ownsRow w.heap.size 3 1 v' (Rp.walkL r h).length (i64s (Rp.walkL r h)) ∧ Below w.heap.size w w' := by
  by_cases hp : Rp.peopledE r = 0
  · have hw0 : Rp.wholeE r = 0 := by
      unfold Rp.peopledE at hp
      split at hp
      · rename_i hw; exact absurd hp hw
      · rename_i hw; exact Decidable.of_not_not hw
    have hl : Rp.walkL r h = Rp.uniq (Rp.roundL r h) := if_pos hp
    rw [hp, hl]
    exact rwalk_good v r h w hv hp hw0
  · have hl : Rp.walkL r h = [] := if_neg hp
    rw [hl]
    by_cases hw0 : Rp.wholeE r = 0
    · have hr : r = [] := by
        unfold Rp.peopledE at hp
        rw [if_neg (by omega)] at hp
        split at hp
        · rename_i h0; exact List.length_eq_zero_iff.1 h0
        · exact absurd rfl hp
      subst hr
      refine (rwalk_bad2 v h w hv).mono ?_
      rintro e w' ⟨rfl, b⟩
      exact ⟨_, rfl, World.ownsRow_nil _ _ _ _, b⟩
    · have hE : Rp.peopledE r = Rp.wholeE r := by unfold Rp.peopledE; rw [if_pos hw0]
      refine (rwalk_bad1 v r h w hv hw0).mono ?_
      rintro e w' ⟨rfl, b⟩
      rw [hE]
      exact ⟨_, rfl, World.ownsRow_nil _ _ _ _, b⟩

end Go.Proofs.Ytcpcnajifdicmaa
