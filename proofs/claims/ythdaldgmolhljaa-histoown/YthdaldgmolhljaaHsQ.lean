/- histo: counts of one's own are overwritten. -/
import Derived.Test.YthdaldgmolhljaaHsO
import Derived.Test.YthdaldgmolhljaaGR
namespace Go.Proofs.Ythdaldgmolhljaa
open Go.RowKit
set_option linter.unusedVariables false
set_option maxRecDepth 20000

theorem own_form {W : World} {B : Nat} {T : TypeId} {a : Option Addr} {n cap : Nat} {xs : List Value} (h : W.ownsRow B T 1 (.slice a n cap) n xs) (hn : 0 < n) : ∃ g, a = some ⟨g, 0, none⟩ := by
  rcases h.2 with ⟨h1, h2⟩ | ⟨g, cap, cur, h1, _⟩
  · omega
  · injection h1 with e1 e2 e3
    exact ⟨g, e1⟩
theorem own_at {W : World} {B : Nat} {T : TypeId} {g n cap : Nat} {ys : List Int} (h : W.ownsRow B T 1 (.slice (some ⟨g, 0, none⟩) n cap) n (i64s ys)) (i : Nat) (hi : i < n) : (∃ v, W.cell? ⟨g, i, none⟩ = some v) ∧ W.frozen? ⟨g, i, none⟩ = false ∧ B ≤ g ∧ g < W.heap.size := by
  have hlen := h.1
  rcases h.2 with ⟨h1, _⟩ | ⟨g2, cap2, cur, h1, hB, hb, _, hnc, hs, ht⟩
  · cases h1
  · injection h1 with e1 e2 e3
    injection e1 with e1
    injection e1 with e1 _ _
    subst e1
    have hb' : Bo W g cur.toList T := by unfold Bo; simpa using hb
    refine ⟨?_, hb'.frozen i, hB, hb'.lt⟩
    have hsz : i < cur.toList.length := by
      have h2 := congrArg List.length ht
      rw [List.length_take] at h2
      omega
    exact ⟨cur.toList[i], hb'.cell i (by simp)⟩
theorem own_put {W : World} {B : Nat} {T : TypeId} {g n cap : Nat} {ys : List Int} (h : W.ownsRow B T 1 (.slice (some ⟨g, 0, none⟩) n cap) n (i64s ys)) (i : Nat) (hi : i < n) (x : Int) : (W.setCell ⟨g, i, none⟩ (.int .i64 x)).ownsRow B T 1 (.slice (some ⟨g, 0, none⟩) n cap) n (i64s (ys.set i x)) := by
  have := own_setCell h i (by omega) (.int .i64 x)
  unfold i64s at this ⊢
  rw [List.map_set]
  exact this
end Go.Proofs.Ythdaldgmolhljaa
