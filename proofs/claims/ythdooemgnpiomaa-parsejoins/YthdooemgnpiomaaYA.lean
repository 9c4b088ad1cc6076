/- What a list of tokens reads as; alive. -/
import Derived.Test.YthdooemgnpiomaaXJ
import Derived.Laws.StructEq
namespace Go.Proofs.Ythdooemgnpiomaa
open Go.RowKit

/-- A token with whatever numbers. -/
abbrev Z3 := Int × ByteArray × Int
def toZ (t : T3) : Z3 := ((t.1 : Int), t.2.1, (t.2.2 : Int))

/-- A slice of tokens that reads as a list. -/
def TSeg (w : World) (v : Value) (l : List Z3) : Prop :=
  ∃ a cap, v = .slice a l.length cap ∧ l.length ≤ cap ∧ cap ≤ maxLen ∧ (a = none → l = [] ∧ cap = 0) ∧
    ∀ g off ar, a = some ⟨g, off, ar⟩ → 0 < l.length → ar = none ∧ g < w.heap.size ∧ ∀ i t, l[i]? = some t → w.cell? ⟨g, off + i * 3, none⟩ = some (.int .i64 t.1) ∧ w.cell? ⟨g, off + i * 3 + 1, none⟩ = some (.string t.2.1) ∧ w.cell? ⟨g, off + i * 3 + 2, none⟩ = some (.int .i64 t.2.2)

theorem TSeg.below {w w' : World} {v : Value} {l : List Z3} (h : TSeg w v l) (hb : Below w.heap.size w w') : TSeg w' v l := by
  obtain ⟨a, cap, h1, h2, h3, h4, h5⟩ := h
  refine ⟨a, cap, h1, h2, h3, h4, fun g off ar ha h0 => ?_⟩
  obtain ⟨k1, k2, k3⟩ := h5 g off ar ha h0
  refine ⟨k1, Nat.lt_of_lt_of_le k2 hb.size, fun i t ht => ?_⟩
  obtain ⟨q1, q2, q3⟩ := k3 i t ht
  exact ⟨(hb.cell k2).trans q1, (hb.cell k2).trans q2, (hb.cell k2).trans q3⟩

theorem rowT_at (l : List T3) (i : Nat) (t : T3) (h : l[i]? = some t) : (rowT l)[i * 3]? = some (.int .i64 (t.1 : Int)) ∧ (rowT l)[i * 3 + 1]? = some (.string t.2.1) ∧ (rowT l)[i * 3 + 2]? = some (.int .i64 (t.2.2 : Int)) := by
  induction l generalizing i with
  | nil => simp at h
  | cons x l ih =>
    cases i with
    | zero =>
      simp at h
      subst h
      exact ⟨rfl, rfl, rfl⟩
    | succ i =>
      rw [List.getElem?_cons_succ] at h
      have := ih i h
      have e : rowT (x :: l) = .int .i64 (x.1 : Int) :: .string x.2.1 :: .int .i64 (x.2.2 : Int) :: rowT l := rfl
      rw [e, show (i + 1) * 3 = i * 3 + 1 + 1 + 1 by omega]
      simpa using this

theorem Toks.seg {B : Nat} {w : World} {v : Value} {l : List T3} (h : Toks B w v l) : TSeg w v (l.map toZ) := by
  rcases h.2 with ⟨rfl, h0⟩ | ⟨g, cap, cur, rfl, hb, hg, hle, hm, hs, ht⟩
  · have : l = [] := List.length_eq_zero_iff.1 h0
    subst this
    exact ⟨none, 0, rfl, Nat.le_refl _, Nat.zero_le _, fun _ => ⟨rfl, rfl⟩, fun g off ar ha _ => by cases ha⟩
  · refine ⟨_, cap, by rw [List.length_map], by rw [List.length_map]; exact hle, hm, (fun h => by cases h), fun g' off ar ha _ => ?_⟩
    cases ha
    have hlt : g < w.heap.size := by
      rcases Nat.lt_or_ge g w.heap.size with hlt | hge
      · exact hlt
      · rw [Array.getElem?_eq_none hge] at hg; cases hg
    refine ⟨rfl, hlt, fun i t hi => ?_⟩
    rw [List.getElem?_map] at hi
    cases hq : l[i]? with
    | none => rw [hq] at hi; simp at hi
    | some t' =>
      rw [hq] at hi
      simp at hi
      subst hi
      obtain ⟨q1, q2, q3⟩ := rowT_at l i t' hq
      have hil : i < l.length := (List.getElem?_eq_some_iff.1 hq).1
      have cell : ∀ j u, j < l.length * 3 → (rowT l)[j]? = some u → w.cell? ⟨g, 0 + j, none⟩ = some u := by
        intro j u hj hu
        rw [cell_of_row w g (0 + j) cur 36 (0, 0) hg]
        rw [← ht, List.getElem?_take_of_lt hj] at hu
        simpa using hu
      refine ⟨cell _ _ (by omega) q1, ?_, ?_⟩
      · have := cell _ _ (by omega) q2
        rwa [← Nat.add_assoc] at this
      · have := cell _ _ (by omega) q3
        rwa [← Nat.add_assoc] at this

theorem bl_inj {s t : ByteArray} (h : bl s = bl t) : s = t := by
  apply ByteArray.ext
  apply Array.toList_inj.1
  unfold bl at h
  exact (List.map_inj_right (fun x y hxy => UInt8.toNat_inj.1 hxy)).1 h

theorem tokA_alive : tokA { data := #[97, 32, 61, 32, 49, 50, 59, 32, 35, 32, 120] } = ([⟨1, [97], 1⟩, ⟨3, [61], 1⟩, ⟨2, [49, 50], 1⟩, ⟨3, [59], 1⟩], 0, 0) := by decide

end Go.Proofs.Ythdooemgnpiomaa
