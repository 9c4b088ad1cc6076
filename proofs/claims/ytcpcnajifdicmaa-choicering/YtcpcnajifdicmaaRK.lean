/- ring: Build of any backends. -/
import Derived.Test.YtcpcnajifdicmaaRJ
namespace Go.Proofs.Ytcpcnajifdicmaa
open Go.RowKit Go.Sort Go.Shelf

theorem pseg_of_row {W : World} {n₀ : Nat} {v : Value} {d : List Rp.Pt} (h : W.ownsRow n₀ 79 2 v d.length (rowP d)) : PSeg .u64 W v d := by
  rcases h.2 with ⟨rfl, h0⟩ | ⟨g, cap, cur, rfl, _, hgb, hle, hmx, hsz, htk⟩
  · have : d = [] := List.length_eq_zero_iff.1 h0
    subst this
    exact PSeg.nil _ _
  · refine ⟨_, cap, rfl, hle, hmx, (fun h => by cases h), fun g' off ar ha h0 => ?_⟩
    cases ha
    refine ⟨rfl, (Array.getElem?_eq_some_iff.1 hgb).1, fun i hi => ?_⟩
    have key : ∀ c, c < 2 → W.cell? ⟨g, 0 + i * 2 + c, none⟩ = some ((encP d[i]!)[c]!) := by
      intro c hc
      have hj : i * 2 + c < d.length * 2 := by omega
      have e := rowP_at d (i * 2 + c) hj
      rw [show (i * 2 + c) / 2 = i by omega, show (i * 2 + c) % 2 = c by omega] at e
      rw [← e, ← htk, List.getElem?_take_of_lt hj, Array.getElem?_toList, Nat.zero_add]
      simp [World.cell?, hgb]
    have e : d[i]! = d.getD i (0, 0) := by rw [pgetD_at hi, getElem!_pos d i hi]
    have k0 := key 0 (by omega)
    have k1 := key 1 (by omega)
    rw [e] at k0 k1
    exact ⟨k0, k1⟩

end Go.Proofs.Ytcpcnajifdicmaa
