/- choice: Spread. -/
import Derived.Test.YtcpcnajifdicmaaC5
import Derived.Test.YtcpcnajifdicmaaC6
namespace Go.Proofs.Ytcpcnajifdicmaa
open Go.RowKit Go.Sort
set_option linter.unusedVariables false
set_option maxRecDepth 20000

/-- Is one too busy for so many more? -/
theorem lfull_any (p : Nat) (n x y : Int) (w : World) (hp : w.cell? ⟨p, 0, none⟩ = some (.int .i64 n)) (h1 : 0 ≤ n) (h2 : n ≤ 4096) :
    Calls Try.prog 38 #[.agg #[.int .i64 x, .int .i64 y], .pointer (some ⟨p, 0, none⟩)] w fun e w' => e = .returned (.bool (decide (1048576 - n < y))) ∧ Below w.heap.size w w' := by
  have hb : Below w.heap.size w (w.alloc (.cells #[.int .i64 x, .int .i64 y] 49)) := (Below.refl _ _).alloc (Nat.le_refl _) _
  have hlt : p < w.heap.size := World.block_lt_of_cell? w _ hp
  have hpa : (w.alloc (.cells #[.int .i64 x, .int .i64 y] 49)).cell? ⟨p, 0, none⟩ = some (.int .i64 n) := (hb.cell (p := ⟨p, 0, none⟩) hlt).trans hp
  have hw : IntKind.i64.wrap (1048576 - n) = 1048576 - n := by rw [IntKind.wrap_i64]; omega
  go_enter Try.func38, Try.ntmps38
  go_wp2
  go_ret
  exact ⟨rfl, hb⟩

theorem Lo.spread_bad1 {n : Int} {l : List Rp.Pt} (h : Lo.peopledE l ≠ 0) : Lo.spreadE n l = Lo.peopledE l := by unfold Lo.spreadE; rw [if_pos h]
theorem Lo.spread_bad2 {n : Int} {l : List Rp.Pt} (h : Lo.peopledE l = 0) (hn : n < 0 ∨ 4096 < n) : Lo.spreadE n l = 4 := by unfold Lo.spreadE; rw [if_neg (by simp [h]), if_pos hn]
theorem Lo.spread_bad3 {n : Int} {l : List Rp.Pt} (h : Lo.peopledE l = 0) (hn : ¬ (n < 0 ∨ 4096 < n)) (ha : l.any (fun x => decide (1048576 - n < x.2)) = true) : Lo.spreadE n l = 4 := by unfold Lo.spreadE; rw [if_neg (by simp [h]), if_neg hn, if_pos ha]
theorem Lo.spread_good {n : Int} {l : List Rp.Pt} (h : Lo.peopledE l = 0) (hn : ¬ (n < 0 ∨ 4096 < n)) (ha : l.any (fun x => decide (1048576 - n < x.2)) = false) : Lo.spreadE n l = 0 := by unfold Lo.spreadE; rw [if_neg (by simp [h]), if_neg hn, if_neg (by simp [ha])]

theorem lalloc_box (w : World) (v : Value) (t : TypeId) : (w.alloc (.cells #[v] t)).cell? ⟨w.heap.size, 0, none⟩ = some v := by
  rw [World.cell?_alloc_at _ _ _ _ rfl]; rfl

theorem lspread_bad1 (s : Nat) (n : Int) (v : Value) (l : List Rp.Pt) (w : World) (hv : PSeg .i64 w v l) (hE : Lo.peopledE l ≠ 0) :
    Calls Try.prog 16 #[.int .u64 s, .int .i64 n, v] w fun e w' => e = .returned (.tuple #[.slice none 0 0, .int .i64 (Lo.peopledE l)]) ∧ Below w.heap.size w w' := by
  have hA : Below w.heap.size w (w.alloc (.cells #[.int .i64 n] 3)) := (Below.refl _ _).alloc (Nat.le_refl _) _
  have c := lpeopled_any v l _ (hv.below hA)
  obtain ⟨a, cap, rfl, h1, h2, h3, h4⟩ := id hv
  clear hv h3 h4
  generalize Lo.peopledE l = E at *
  have hb0 : (E == 0) = false := by simp [hE]
  go_enter Try.func16, Try.ntmps16
  go_wp2_with fail
  with_reducible refine c.mono ?_
  rintro e w' ⟨rfl, b1⟩
  go_wp2
  go_ret2
  exact ⟨rfl, Below.step hA b1⟩
theorem lspread_bad2 (s : Nat) (n : Int) (v : Value) (l : List Rp.Pt) (w : World) (hv : PSeg .i64 w v l) (hE : Lo.peopledE l = 0) (hn : n < 0 ∨ 4096 < n) :
    Calls Try.prog 16 #[.int .u64 s, .int .i64 n, v] w fun e w' => e = .returned (.tuple #[.slice none 0 0, .int .i64 4]) ∧ Below w.heap.size w w' := by
  have hA : Below w.heap.size w (w.alloc (.cells #[.int .i64 n] 3)) := (Below.refl _ _).alloc (Nat.le_refl _) _
  have c := lpeopled_any v l _ (hv.below hA)
  rw [hE] at c
  have hbox := lalloc_box w (.int .i64 n) 3
  have hsz : (w.alloc (.cells #[.int .i64 n] 3)).heap.size = w.heap.size + 1 := by simp
  obtain ⟨a, cap, rfl, h1, h2, h3, h4⟩ := id hv
  clear hv h3 h4 hE
  rcases Int.lt_or_le n 0 with hn0 | hn0
  · go_enter Try.func16, Try.ntmps16
    go_wp2_with fail
    with_reducible refine c.mono ?_
    rintro e w' ⟨rfl, b1⟩
    have hbx : w'.cell? ⟨w.heap.size, 0, none⟩ = some (.int .i64 n) := (b1.cell (p := ⟨w.heap.size, 0, none⟩) (by show w.heap.size < _; omega)).trans hbox
    go_wp2
    go_ret2
    exact ⟨rfl, Below.step hA b1⟩
  · have hn1 : 4096 < n := by omega
    go_enter Try.func16, Try.ntmps16
    go_wp2_with fail
    with_reducible refine c.mono ?_
    rintro e w' ⟨rfl, b1⟩
    have hbx : w'.cell? ⟨w.heap.size, 0, none⟩ = some (.int .i64 n) := (b1.cell (p := ⟨w.heap.size, 0, none⟩) (by show w.heap.size < _; omega)).trans hbox
    go_wp2
    go_ret2
    exact ⟨rfl, Below.step hA b1⟩
theorem lspread_bad3 (s : Nat) (n : Int) (v : Value) (l : List Rp.Pt) (w : World) (hv : PSeg .i64 w v l) (hE : Lo.peopledE l = 0) (hn0 : 0 ≤ n) (hn1 : n ≤ 4096) (ha : l.any (fun x => decide (1048576 - n < x.2)) = true) :
    Calls Try.prog 16 #[.int .u64 s, .int .i64 n, v] w fun e w' => e = .returned (.tuple #[.slice none 0 0, .int .i64 4]) ∧ Below w.heap.size w w' := by
  have hA : Below w.heap.size w (w.alloc (.cells #[.int .i64 n] 3)) := (Below.refl _ _).alloc (Nat.le_refl _) _
  have c := lpeopled_any v l _ (hv.below hA)
  rw [hE] at c
  have hbox := lalloc_box w (.int .i64 n) 3
  have hsz : (w.alloc (.cells #[.int .i64 n] 3)).heap.size = w.heap.size + 1 := by simp
  have c2 := fun W (h : Below w.heap.size w W) (hb : W.cell? ⟨w.heap.size, 0, none⟩ = some (.int .i64 n)) => containsL1 38 ⟨w.heap.size, 0, none⟩ (fun _ _ => rfl) (fun x => decide (1048576 - n < x.2)) v l W (hv.below h) (fun x y W2 hW2 => lfull_any w.heap.size n x y W2 ((hW2.cell (p := ⟨w.heap.size, 0, none⟩) (World.block_lt_of_cell? W _ hb)).trans hb) hn0 hn1)
  rw [ha] at c2
  obtain ⟨a, cap, rfl, h1, h2, h3, h4⟩ := id hv
  clear hv h3 h4 hE ha
  go_enter Try.func16, Try.ntmps16
  go_wp2_with fail
  with_reducible refine c.mono ?_
  rintro e w' ⟨rfl, b1⟩
  have hbx : w'.cell? ⟨w.heap.size, 0, none⟩ = some (.int .i64 n) := (b1.cell (p := ⟨w.heap.size, 0, none⟩) (by show w.heap.size < _; omega)).trans hbox
  have B1 := Below.step hA b1
  have c3 := c2 w' B1 hbx
  clear c2 c b1
  have d1 : decide (n < 0) = false := decide_eq_false (by omega)
  have d2 : decide (4096 < n) = false := decide_eq_false (by omega)
  go_wp2_with (go_at_call 34; with_reducible refine c3.mono ?_; rintro e w2 ⟨rfl, b2⟩)
  go_ret2
  exact ⟨rfl, Below.step B1 b2⟩
end Go.Proofs.Ytcpcnajifdicmaa
