/- timers: alive, over contracts. -/
import Derived.Test.YtkamcjebihfdlaaTmL
namespace Go.Proofs.Ytkamcjebihfdlaa
open Go.RowKit
set_option linter.unusedVariables false
set_option maxRecDepth 20000

theorem Ti.alive_put1 : Ti.put [] ⟨5, 1⟩ = [⟨5, 1⟩] := Ti.up_stop (.inl rfl)
theorem Ti.alive_put2 : Ti.put [⟨5, 1⟩] ⟨3, 2⟩ = [⟨3, 2⟩, ⟨5, 1⟩] := by
  show Ti.up [⟨5, 1⟩, ⟨3, 2⟩] 1 = _
  rw [Ti.up_go (by decide) (by decide)]
  exact Ti.up_stop (.inl rfl)
theorem Ti.alive_add : Ti.addGo [] [⟨5, 1⟩, ⟨3, 2⟩] = ([⟨3, 2⟩, ⟨5, 1⟩], 0) := by
  rw [(Ti.addGo_cons _ _ _).2.2.2 (by decide) (by decide) (by decide), Ti.alive_put1, (Ti.addGo_cons _ _ _).2.2.2 (by decide) (by decide) (by decide), Ti.alive_put2]
  rfl
theorem Ti.alive_chk : Ti.chkE [] = 0 := Ti.chk_ok (by decide) (by decide) (by decide) Ti.heap_nil
theorem Ti.alive_e : Ti.addE [] [⟨5, 1⟩, ⟨3, 2⟩] = 0 := by rw [Ti.addE, if_pos Ti.alive_chk, Ti.alive_add]
theorem Ti.alive_r : Ti.addR [] [⟨5, 1⟩, ⟨3, 2⟩] = [⟨3, 2⟩, ⟨5, 1⟩] := by rw [Ti.addR, if_pos Ti.alive_chk, Ti.alive_add]
theorem Ti.alive_fe : Ti.firE [⟨3, 2⟩, ⟨5, 1⟩] = 0 := by
  have h := Ti.add_chk Ti.alive_e
  rw [Ti.alive_r] at h
  rw [Ti.firE, if_pos h]
  rfl
theorem Ti.alive_fr : Ti.firR [⟨3, 2⟩, ⟨5, 1⟩] = ⟨3, 2⟩ := by rw [Ti.firR, if_pos Ti.alive_fe]; rfl

set_option maxHeartbeats 4000000 in
theorem alive_of (CA : CAdd) (CF : CFir) : CAlive := by
  intro w
  have B0 := (Below.refl w.heap.size w).alloc (Nat.le_refl _) (.cells #[.int .i64 5, .int .i64 1, .int .i64 3, .int .i64 2] 31)
  have X0 := Bo.new w [.int .i64 5, .int .i64 1, .int .i64 3, .int .i64 2] 31
  have T0 : TS (w.alloc (.cells #[.int .i64 5, .int .i64 1, .int .i64 3, .int .i64 2] 31)) (.slice (some ⟨w.heap.size, 0, none⟩) 2 2) [⟨5, 1⟩, ⟨3, 2⟩] := ⟨some ⟨w.heap.size, 0, none⟩, 2, rfl, Nat.le_refl _, by unfold maxLen; decide, fun e => (by cases e), fun g off ar e h0 => by
    cases e
    refine ⟨rfl, X0.lt, fun i hi => ?_⟩
    rcases (by simp at hi; omega : i = 0 ∨ i = 1) with rfl | rfl
    · exact ⟨X0.cell 0 rfl, X0.cell 1 rfl⟩
    · exact ⟨X0.cell 2 rfl, X0.cell 3 rfl⟩⟩
  have c1 := CA (.slice none 0 0) (.slice (some ⟨w.heap.size, 0, none⟩) 2 2) [] [⟨5, 1⟩, ⟨3, 2⟩] _ (TS.nil _) T0 (by decide)
  rw [Ti.alive_e, Ti.alive_r] at c1
  have CF' := hidD CF
  have HB0 := hidD B0
  clear X0 T0 B0
  go_enter Try.func25, Try.ntmps25
  go_wp2_with fail
  with_reducible refine c1.mono ?_
  rintro e w1 ⟨r, rfl, b1, o1⟩
  have B1 := hidD (below_then HB0.out (below_low b1 HB0.out.size))
  have HF : Hid (∀ W, Below w1.heap.size w1 W → Calls Try.prog 12 #[r] W fun e w' => e = .returned (.tuple #[vT ⟨3, 2⟩, .int .i64 0]) ∧ Below w.heap.size w w') := hidD fun W b => by
    have := CF'.out r _ W (o1.ts.below b)
    rw [Ti.alive_fe, Ti.alive_fr] at this
    have b2 := below_then B1.out (below_low b B1.out.size)
    exact this.mono (by rintro e w' ⟨h1, h2⟩; exact ⟨h1, below_then b2 (below_low h2 b2.size)⟩)
  clear c1 b1 o1 CF'
  go_wp2_with fail
  with_reducible refine (HF.out _ (Below.refl _ _)).mono ?_
  rintro e w2 ⟨rfl, b2⟩
  have B2 := hidD b2
  clear b2
  go_wp2_with (first | (go_at_call 21; refine (num_any _ _).mono ?_; rintro e ww ⟨rfl, rfl⟩))
  go_ret
  exact ⟨by first | rfl | simp, by first | exact B2.out | exact B2.out.alloc B2.out.size _⟩
end Go.Proofs.Ytkamcjebihfdlaa
