/- histo: what is put together. -/
import Derived.Test.YthdaldgmolhljaaHsJ
namespace Go.Proofs.Ythdaldgmolhljaa
open Go.RowKit
set_option linter.unusedVariables false
set_option maxRecDepth 20000

/-- Two, one: a row of histograms that was built. -/
theorem hrow_two {W : World} {g : Nat} {a1 a2 : Option Addr} {c1 c2 : Nat} {x y : Hi.H} {T : TypeId} (h : Bo W g [.slice a1 x.c.length c1, .int .i64 x.t, .slice a2 y.c.length c2, .int .i64 y.t] T) (hx : Seg .i64 W (.slice a1 x.c.length c1) x.c) (hy : Seg .i64 W (.slice a2 y.c.length c2) y.c) : HRow W g [x, y] := by
  refine ⟨h.lt, fun k hk => ?_⟩
  have hk' : k < 2 := hk
  rcases (by omega : k = 0 ∨ k = 1) with rfl | rfl
  · exact ⟨a1, c1, h.cell 0 rfl, h.cell 1 rfl, hx⟩
  · exact ⟨a2, c2, h.cell 2 rfl, h.cell 3 rfl, hy⟩
theorem hrow_one {W : World} {g : Nat} {a1 : Option Addr} {c1 : Nat} {x : Hi.H} {T : TypeId} (h : Bo W g [.slice a1 x.c.length c1, .int .i64 x.t] T) (hx : Seg .i64 W (.slice a1 x.c.length c1) x.c) : HRow W g [x] := by
  refine ⟨h.lt, fun k hk => ?_⟩
  have hk' : k < 1 := hk
  obtain rfl : k = 0 := by omega
  exact ⟨a1, c1, h.cell 0 rfl, h.cell 1 rfl, hx⟩
theorem Hi.two_sum {a b : List Int} (h1 : Hi.addE Hi.H.z a = 0) (h2 : Hi.addE Hi.H.z b = 0) (hl : a.length + b.length ≤ 1073741824) :
    Hi.merE [Hi.addR Hi.H.z a, Hi.addR Hi.H.z b] = 0 ∧ Hi.addE (Hi.addR Hi.H.z a) b = 0 ∧ Hi.merR [Hi.addR Hi.H.z a, Hi.addR Hi.H.z b] = Hi.addR (Hi.addR Hi.H.z a) b ∧ (Hi.addR (Hi.addR Hi.H.z a) b).t = a.length + b.length := by
  obtain ⟨k1, e1⟩ := Hi.adds_chk h1
  obtain ⟨k2, e2⟩ := Hi.adds_chk h2
  obtain ⟨_, n2, _, _⟩ := Hi.addE_zero h2
  rw [e1] at k1 ⊢
  rw [e2] at k2 ⊢
  have la : (Hi.adds Hi.zeros a).length = 81 := by rw [Hi.adds_len, Hi.zeros_len]
  have lb : (Hi.adds Hi.zeros b).length = 81 := by rw [Hi.adds_len, Hi.zeros_len]
  have ht : Hi.tot [⟨Hi.adds Hi.zeros a, (a.length : Int)⟩, ⟨Hi.adds Hi.zeros b, (b.length : Int)⟩] 2 = (a.length : Int) + b.length := by
    show (0 : Int) + a.length + b.length = _
    omega
  have hE : Hi.merE [⟨Hi.adds Hi.zeros a, (a.length : Int)⟩, ⟨Hi.adds Hi.zeros b, (b.length : Int)⟩] = 0 := by
    unfold Hi.merE
    rw [if_neg (by simp [k1, k2])]
    show (if 1073741824 < Hi.tot _ 2 then _ else _) = _
    rw [ht, if_neg (by omega)]
  have hA : Hi.addE ⟨Hi.adds Hi.zeros a, (a.length : Int)⟩ b = 0 := by
    unfold Hi.addE
    rw [if_pos k1, if_neg (by rw [n2]; decide), if_neg (by dsimp only; omega)]
  have hR : Hi.addR ⟨Hi.adds Hi.zeros a, (a.length : Int)⟩ b = ⟨Hi.adds (Hi.adds Hi.zeros a) b, (a.length : Int) + b.length⟩ := by
    unfold Hi.addR
    rw [if_pos hA]
    have : Hi.pad (Hi.adds Hi.zeros a) = Hi.adds Hi.zeros a := if_neg (by omega)
    dsimp only
    rw [this]
  refine ⟨hE, hA, ?_, by rw [hR]⟩
  rw [hR]
  unfold Hi.merR
  rw [if_pos hE]
  show (⟨Hi.take (Hi.take [] (Hi.adds Hi.zeros a)) (Hi.adds Hi.zeros b), Hi.tot _ 2⟩ : Hi.H) = _
  rw [ht, Hi.take_nil (.inr la)]
  congr 1
  unfold Hi.take
  rw [if_neg (by omega)]
  have : Hi.pad (Hi.adds Hi.zeros a) = Hi.adds Hi.zeros a := if_neg (by omega)
  rw [this, Hi.merges]
theorem Hi.adds_swap {a b : List Int} : Hi.adds (Hi.adds Hi.zeros a) b = Hi.adds (Hi.adds Hi.zeros b) a := by
  rw [← Hi.merges, ← Hi.merges, Hi.both_comm]
theorem Hi.two_swap {a b : List Int} (h1 : Hi.addE Hi.H.z a = 0) (h2 : Hi.addE Hi.H.z b = 0) (hl : a.length + b.length ≤ 1073741824) : Hi.merR [Hi.addR Hi.H.z b, Hi.addR Hi.H.z a] = Hi.addR (Hi.addR Hi.H.z a) b := by
  obtain ⟨k1, e1⟩ := Hi.adds_chk h1
  obtain ⟨k2, e2⟩ := Hi.adds_chk h2
  have fold : ∀ a b : List Int, Hi.addE Hi.H.z a = 0 → Hi.addE (Hi.addR Hi.H.z a) b = 0 → Hi.addR (Hi.addR Hi.H.z a) b = ⟨Hi.adds (Hi.adds Hi.zeros a) b, (a.length : Int) + b.length⟩ := fun a b h1 hA => by
    have la : (Hi.adds Hi.zeros a).length = 81 := by rw [Hi.adds_len, Hi.zeros_len]
    have h : Hi.addR (Hi.addR Hi.H.z a) b = ⟨Hi.adds (Hi.pad (Hi.addR Hi.H.z a).c) b, (Hi.addR Hi.H.z a).t + b.length⟩ := if_pos hA
    rw [h, (Hi.adds_chk h1).2]
    have : Hi.pad (Hi.adds Hi.zeros a) = Hi.adds Hi.zeros a := if_neg (by omega)
    dsimp only
    rw [this]
  obtain ⟨_, g2, g3, _⟩ := Hi.two_sum h2 h1 (by omega)
  obtain ⟨_, g5, _, _⟩ := Hi.two_sum h1 h2 hl
  rw [g3, fold b a h2 g2, fold a b h1 g5, Hi.adds_swap, Int.add_comm]
theorem Hi.add_few {a : List Int} (h : a.length ≤ 1073741824) : Hi.addE Hi.H.z a = 0 ∨ Hi.addE Hi.H.z a = 4 := by
  obtain ⟨_, g2, _, g4⟩ := Hi.add_cases Hi.H.z a
  have hz : Hi.chk Hi.H.z = 0 := by decide
  by_cases hn : a.any (fun n => decide (n < 0)) = true
  · exact .inr (g2 hz hn).1
  · exact .inl (g4 hz (by simpa using hn) (by show ¬ 1073741824 < (0 : Int) + a.length; omega)).1
end Go.Proofs.Ythdaldgmolhljaa
