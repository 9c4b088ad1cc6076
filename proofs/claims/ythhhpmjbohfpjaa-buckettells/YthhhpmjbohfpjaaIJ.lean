/- bucket: what the rows want. -/
import Derived.Test.YthhhpmjbohfpjaaIH
import Derived.Test.YthhhpmjbohfpjaaII
import Derived.Test.YthhhpmjbohfpjaaOpenU
namespace Go.Proofs.Ythhhpmjbohfpjaa
open Go.RowKit
set_option maxRecDepth 20000
set_option linter.unusedVariables false

theorem cellB {W W' : World} {p : Addr} {v : Value} (h : W.cell? p = some v) (hb : Below W.heap.size W W') : W'.cell? p = some v := (hb.cell (World.block_lt_of_cell? W _ h)).trans h
theorem keep4 {B : Nat} {w W W' : World} {p0 p1 p2 p3 : Addr} {v0 v1 v2 v3 : Value} (h : W.cell? p0 = some v0 ∧ W.cell? p1 = some v1 ∧ W.cell? p2 = some v2 ∧ W.cell? p3 = some v3 ∧ Below B w W ∧ B ≤ W.heap.size) (hb : Below W.heap.size W W') : W'.cell? p0 = some v0 ∧ W'.cell? p1 = some v1 ∧ W'.cell? p2 = some v2 ∧ W'.cell? p3 = some v3 ∧ Below B w W' ∧ B ≤ W'.heap.size := by
  obtain ⟨h0, h1, h2, h3, hX, hY⟩ := h
  exact ⟨cellB h0 hb, cellB h1 hb, cellB h2 hb, cellB h3 hb, below_on hX hY hb, Nat.le_trans hY hb.size⟩
theorem keep4d {B : Nat} {w W : World} {p0 p1 p2 p3 : Addr} {v0 v1 v2 v3 : Value} (h : W.cell? p0 = some v0 ∧ W.cell? p1 = some v1 ∧ W.cell? p2 = some v2 ∧ W.cell? p3 = some v3 ∧ Below B w W ∧ B ≤ W.heap.size) : W.drew.cell? p0 = some v0 ∧ W.drew.cell? p1 = some v1 ∧ W.drew.cell? p2 = some v2 ∧ W.drew.cell? p3 = some v3 ∧ Below B w W.drew ∧ B ≤ W.drew.heap.size := by
  obtain ⟨h0, h1, h2, h3, hX, hY⟩ := h
  exact ⟨h0, h1, h2, h3, belowD_drew hX, hY⟩
theorem keep4b {B : Nat} {w W : World} {p0 p1 p2 p3 : Addr} {v0 v1 v2 v3 : Value} (h : W.cell? p0 = some v0 ∧ W.cell? p1 = some v1 ∧ W.cell? p2 = some v2 ∧ W.cell? p3 = some v3 ∧ Below B w W ∧ B ≤ W.heap.size) : Below B w W := by
  obtain ⟨h0, h1, h2, h3, hX, hY⟩ := h
  exact hX

/-- A number from 0 to 999. -/
def Bu.thou (n : Int) : Int := Int.tmod (Int.tmod n 1000 + 1000) 1000
theorem Bu.thou_range (n : Int) : 0 ≤ Bu.thou n ∧ Bu.thou n ≤ 999 := by
  have h1 := Int.tmod_lt_of_pos n (show (0 : Int) < 1000 by decide)
  have h2 := Int.lt_tmod_of_pos n (show (0 : Int) < 1000 by decide)
  have h3 := Int.tmod_lt_of_pos (Int.tmod n 1000 + 1000) (show (0 : Int) < 1000 by decide)
  have h4 := Int.tmod_nonneg (a := Int.tmod n 1000 + 1000) 1000 (by omega)
  unfold Bu.thou
  omega
/-- What the walk asks of it. -/
theorem Bu.thou_wraps (n : Int) : IntKind.i64.wrap (Int.tmod n 1000 + 1000) = Int.tmod n 1000 + 1000 ∧ IntKind.i64.wrap (Int.tmod n 1000) = Int.tmod n 1000 ∧ IntKind.i64.wrap (Int.tmod (Int.tmod n 1000 + 1000) 1000) = Bu.thou n ∧ Int.tmod (Int.tmod n 1000 + 1000) 1000 = Bu.thou n := by
  have h1 := Int.tmod_lt_of_pos n (show (0 : Int) < 1000 by decide)
  have h2 := Int.lt_tmod_of_pos n (show (0 : Int) < 1000 by decide)
  have h3 := Bu.thou_range n
  refine ⟨wrap_ok (by omega) (by omega), wrap_ok (by omega) (by omega), ?_, rfl⟩
  show IntKind.i64.wrap (Bu.thou n) = Bu.thou n
  exact wrap_ok (by omega) (by omega)
theorem Bu.bound_all {s : Bu.Se} {l : List Int} (h : Bu.runE s l = 0) : l.length ≤ 4096 ∧ (0 ≤ Bu.runV s l ∧ Bu.runV s l ≤ 1000 * s.p) ∧ (0 ≤ Bu.runN s l ∧ Bu.runN s l ≤ 4096) ∧
    1000 * Bu.runN s l + Bu.runV s l ≤ 1000 * s.r + s.c * Bu.cnt 1 (l.take l.length) + s.t * Bu.cnt 2 (l.take l.length) ∧ (0 ≤ s.r ∧ s.r ≤ 1000) ∧ s.p ≤ 1000 ∧ (0 ≤ s.c * Bu.cnt 1 (l.take l.length) ∧ s.c * Bu.cnt 1 (l.take l.length) ≤ 1000 * 4096) ∧ (0 ≤ s.t * Bu.cnt 2 (l.take l.length) ∧ s.t * Bu.cnt 2 (l.take l.length) ≤ 1000 * 4096) := by
  obtain ⟨h1, h2, h3⟩ := Bu.runE_zero h
  obtain ⟨⟨a1, a2⟩, ⟨a3, a4⟩, a5⟩ := Bu.bound h1 l l.length (Nat.le_refl _)
  obtain ⟨_, _, _, _, _, _, _, _⟩ := Bu.sets_iff.1 h1
  have e1 : Bu.runV s l = (Bu.st s (l.take l.length)).1 := by rw [List.take_length]; exact if_pos h
  have e2 : Bu.runN s l = (Bu.st s (l.take l.length)).2 := by rw [List.take_length]; exact if_pos h
  obtain ⟨c1, c2⟩ := Bu.cnt_range 1 l l.length
  obtain ⟨d1, d2⟩ := Bu.cnt_range 2 l l.length
  rw [e1, e2]
  exact ⟨h2, ⟨a1, a2⟩, ⟨a3, by omega⟩, a5, ⟨by omega, by omega⟩, by omega, mul_range (by omega) (by omega) c1 (by omega), mul_range (by omega) (by omega) d1 (by omega)⟩
theorem Bu.bad_all {s : Bu.Se} {l : List Int} (h : ¬ Bu.runE s l = 0) : Bu.runV s l = 0 ∧ Bu.runN s l = 0 := ⟨if_neg h, if_neg h⟩
theorem Bu.cnt_zero (a : Int) (l : List Int) : Bu.cnt a (l.take 0) = 0 := by rw [List.take_zero]; rfl

/-- Take, and what comes in: what is told of them. -/
theorem Bu.keeps {s : Bu.Se} {v n : Int} (h : Bu.chk s v = 0) (n0 : 0 ≤ n) (n1 : n ≤ 999) : (0 ≤ v ∧ v ≤ 1000000) ∧ Bu.takeB s v = decide (1000 ≤ v) ∧ Bu.takeR s v = (if 1000 ≤ v then v - 1000 else v) ∧ Bu.addE s v n = 0 ∧ v ≤ Bu.addR s v n s.c ∧ v ≤ Bu.addR s v n s.t ∧ Bu.chk s (Bu.addR s v n s.c) = 0 ∧ Bu.chk s (Bu.addR s v n s.t) = 0 := by
  obtain ⟨hs, v0, v1⟩ := Bu.chk_zero h
  obtain ⟨_, _, _, _, _, _, _, _⟩ := Bu.sets_iff.1 hs
  have ha := Bu.addE_good (n := n) h n0 (by omega)
  obtain ⟨a1, a2⟩ := Bu.addR_range (e := s.c) ha (by omega)
  obtain ⟨b1, b2⟩ := Bu.addR_range (e := s.t) ha (by omega)
  exact ⟨⟨v0, by omega⟩, if_pos h, if_pos h, ha, a1, b1, a2, b2⟩
theorem Bu.keeps_no {s : Bu.Se} {v : Int} (h : ¬ Bu.chk s v = 0) : Bu.takeB s v = false ∧ Bu.takeR s v = 0 := ⟨if_neg h, if_neg h⟩

theorem Bu.many {s : Bu.Se} {v n m : Int} (h : Bu.addE s v n = 0) (n0 : 0 ≤ n) (n1 : n ≤ 999) (m0 : 0 ≤ m) (m1 : m ≤ 999) :
    Bu.addE s (Bu.addR s v n s.c) m = 0 ∧ Bu.addE s v (n + m) = 0 ∧ Bu.addR s (Bu.addR s v n s.c) m s.c = Bu.addR s v (n + m) s.c :=
  Bu.addR_many h (Bu.of_add h).1.1 m0 (by omega) (by omega)
theorem Bu.many_no {s : Bu.Se} {v n m : Int} (h : ¬ Bu.addE s v n = 0) (n0 : 0 ≤ n) (n1 : n ≤ 999) : Bu.addR s v n s.c = 0 ∧ ¬ Bu.addE s v (n + m) = 0 := by
  refine ⟨if_neg h, fun e => h ?_⟩
  exact Bu.addE_good (Bu.addE_zero e).1 n0 (by omega)

theorem Bu.empty {p : Int} (l : List Int) (h0 : 0 ≤ p) (h1 : p ≤ 999) : Bu.runV ⟨0, 0, 0, p⟩ l = 0 ∧ Bu.runN ⟨0, 0, 0, p⟩ l = 0 ∧ (¬ Bu.runE ⟨0, 0, 0, p⟩ l = 0 → 0 < l.length) := by
  have hs : Bu.sets ⟨0, 0, 0, p⟩ = true := Bu.sets_iff.2 (by dsimp only; omega)
  have hn := Bu.none (s := ⟨0, 0, 0, p⟩) hs rfl rfl rfl l l.length (Nat.le_refl _)
  rw [List.take_length] at hn
  refine ⟨?_, ?_, fun h => ?_⟩
  · unfold Bu.runV
    split
    · rw [hn]
    · rfl
  · unfold Bu.runN
    split
    · rw [hn]
    · rfl
  · cases l with
    | nil => exact absurd (Bu.runE_good hs (by decide) (fun k hk => absurd hk (Nat.not_lt_zero _))) h
    | cons x l => exact Nat.succ_pos _
end Go.Proofs.Ythhhpmjbohfpjaa
