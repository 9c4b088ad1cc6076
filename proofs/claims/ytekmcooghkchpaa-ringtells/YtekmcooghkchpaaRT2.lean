/- ring: the reference's Walk and Lookup of any points. -/
import Derived.Test.YtekmcooghkchpaaRT1
namespace Go.Proofs.Ytekmcooghkchpaa
open Go.RowKit Go.Sort Go.Shelf

theorem rwalk_bad1 (v : Value) (r : List Rp.Pt) (h : Int) (w : World) (hv : PSeg .u64 w v r) (hw0 : Rp.wholeE r ≠ 0) :
    Calls Try.prog 15 #[v, .int .u64 h] w fun e w' => e = .returned (.tuple #[.slice none 0 0, .int .i64 (Rp.wholeE r)]) ∧ Below w.heap.size w w' := by
  have c := rwhole_any v r w hv
  have hb : (Rp.wholeE r != 0) = true := by simpa using hw0
  obtain ⟨a, cap, rfl, -⟩ := hv
  generalize Rp.wholeE r = E at *
  generalize r.length = N at *
  go_enter Try.func15, Try.ntmps15
  go_wp2_with fail
  with_reducible refine c.mono ?_
  rintro e w1 ⟨rfl, b1⟩
  go_wp2
  refine bodyPost_ret (results_tmp2 rfl _ _ _) rfl ?_
  exact ⟨rfl, b1⟩
theorem rwalk_bad2 (v : Value) (h : Int) (w : World) (hv : PSeg .u64 w v []) :
    Calls Try.prog 15 #[v, .int .u64 h] w fun e w' => e = .returned (.tuple #[.slice none 0 0, .int .i64 71]) ∧ Below w.heap.size w w' := by
  have c := rwhole_any v [] w hv
  rw [show Rp.wholeE [] = 0 from rfl] at c
  obtain ⟨a, cap, rfl, -⟩ := hv
  rw [show ([] : List Rp.Pt).length = 0 from rfl] at c ⊢
  go_enter Try.func15, Try.ntmps15
  go_wp2_with fail
  with_reducible refine c.mono ?_
  rintro e w1 ⟨rfl, b1⟩
  go_wp2
  refine bodyPost_ret (results_tmp2 rfl _ _ _) rfl ?_
  exact ⟨rfl, b1⟩
theorem rwalk_any (v : Value) (r : List Rp.Pt) (h : Int) (w : World) (hv : PSeg .u64 w v r) :
    Calls Try.prog 15 #[v, .int .u64 h] w fun e w' => ∃ v', e = .returned (.tuple #[v', .int .i64 (Rp.peopledE r)]) ∧ w'.ownsRow w.heap.size 3 1 v' (Rp.walkL r h).length (i64s (Rp.walkL r h)) ∧ Below w.heap.size w w' := by
  by_cases hp : Rp.peopledE r = 0
  · have hw0 : Rp.wholeE r = 0 := by
      unfold Rp.peopledE at hp
      split at hp
      · rename_i hw; exact absurd hp hw
      · rename_i hw; exact Decidable.of_not_not hw
    have hl : Rp.walkL r h = Rp.uniq (Rp.roundL r h) := if_pos hp
    rw [hp, hl]
    exact rwalk_good v r h w hv hp hw0
  · have hl : Rp.walkL r h = [] := if_neg hp
    rw [hl]
    by_cases hw0 : Rp.wholeE r = 0
    · have hr : r = [] := by
        unfold Rp.peopledE at hp
        rw [if_neg (by omega)] at hp
        split at hp
        · rename_i h0; exact List.length_eq_zero_iff.1 h0
        · exact absurd rfl hp
      subst hr
      refine (rwalk_bad2 v h w hv).mono ?_
      rintro e w' ⟨rfl, b⟩
      exact ⟨_, rfl, World.ownsRow_nil _ _ _ _, b⟩
    · have hE : Rp.peopledE r = Rp.wholeE r := by unfold Rp.peopledE; rw [if_pos hw0]
      refine (rwalk_bad1 v r h w hv hw0).mono ?_
      rintro e w' ⟨rfl, b⟩
      rw [hE]
      exact ⟨_, rfl, World.ownsRow_nil _ _ _ _, b⟩

theorem rlookup_any (v : Value) (r : List Rp.Pt) (h : Int) (w : World) (hv : PSeg .u64 w v r) :
    Calls Try.prog 13 #[v, .int .u64 h] w fun e w' => e = .returned (.tuple #[.int .i64 (Rp.lookI r h), .int .i64 (Rp.peopledE r)]) ∧ Below w.heap.size w w' := by
  have c := rwalk_any v r h w hv
  obtain ⟨a, cap, rfl, -⟩ := hv
  generalize r.length = N at *
  by_cases hp : Rp.peopledE r = 0
  · obtain ⟨t, ht⟩ := Rp.walk_head h hp
    have hl : Rp.lookI r h = Rp.owner r h := if_pos hp
    rw [hp, ht] at c
    rw [hl, hp]
    clear hl hp ht
    generalize Rp.owner r h = o at *
    go_enter Try.func13, Try.ntmps13
    go_wp2_with fail
    with_reducible refine c.mono ?_
    rintro e w1 ⟨v1, rfl, o1, b1⟩
    obtain ⟨M, hM⟩ : ∃ M, M = (o :: t).length := ⟨_, rfl⟩
    have hM0 : 0 < M := by rw [hM]; simp
    rw [← hM] at o1
    obtain ⟨gg, cc, rfl⟩ : ∃ gg cc, v1 = .slice (some ⟨gg, 0, none⟩) M cc := by
      rcases o1.2 with ⟨rfl, h0⟩ | ⟨gg, cc, cur, rfl, _⟩
      · omega
      · exact ⟨_, _, rfl⟩
    have Q1 : w1.cell? ⟨gg, 0, none⟩ = some (.int .i64 o) := by
      rw [o1.cellAt 0 (by omega)]
      rfl
    have i1 : (0 : Int) < (M : Int) := by omega
    clear o1 hM c
    go_wp2
    refine bodyPost_ret (results_tmp2 rfl _ _ _) rfl ?_
    exact ⟨rfl, b1⟩
  · have hl : Rp.lookI r h = 0 := if_neg hp
    have hb : (Rp.peopledE r != 0) = true := by simpa using hp
    rw [hl]
    clear hl
    generalize Rp.peopledE r = E at *
    go_enter Try.func13, Try.ntmps13
    go_wp2_with fail
    with_reducible refine c.mono ?_
    rintro e w1 ⟨v1, rfl, o1, b1⟩
    go_wp2
    refine bodyPost_ret (results_tmp2 rfl _ _ _) rfl ?_
    exact ⟨rfl, b1⟩

end Go.Proofs.Ytekmcooghkchpaa
