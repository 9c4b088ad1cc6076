/- frame: Check. -/
import Derived.Test.YtlfgnllmomeajaaFG
namespace Go.Proofs.Ytlfgnllmomeajaa
open Go.RowKit

/-- Whether a buffer may be. -/
def Pl.checkF (held : List Int) (lost : Bool) : Int := if 8192 < held.length ∨ (lost = true ∧ 0 < held.length) ∨ (Pl.getF held).2.2 ≠ 71 then 9 else 0

set_option maxHeartbeats 1000000 in
set_option maxRecDepth 4000 in
theorem fcheck_any (hv : Value) (held : List Int) (lost : Bool) (w : World) (hs : Seg .u8 w hv held) (ho : Pl.Octs held) :
    Calls Try.prog 25 #[.agg #[hv, .bool lost]] w fun e w' => e = .returned (.int .i64 (Pl.checkF held lost)) ∧ Below w.heap.size w w' := by
  obtain ⟨a, c, hvs, h1, h2, h3, h4⟩ := id hs
  clear h3 h4
  generalize hn : held.length = n at hvs h1
  subst hvs
  have HN : Hid (held.length = n) := hn
  clear hn
  unfold maxLen at h2
  have hal := (Below.refl w.heap.size w).alloc (Nat.le_refl _) (.cells #[.slice a n c, .bool lost] 45)
  by_cases hA : 8192 < n
  · have HR : Hid (Pl.checkF held lost = 9) := by show _ = _; unfold Pl.checkF; rw [HN.out, if_pos (.inl hA)]
    go_enter Try.func25, Try.ntmps25
    go_wp2_with fail
    go_ret
    exact ⟨by rw [HR.out]; rfl, hal⟩
  · by_cases hB : lost = true ∧ 0 < n
    · have HR : Hid (Pl.checkF held lost = 9) := by show _ = _; unfold Pl.checkF; rw [HN.out, if_pos (.inr (.inl hB))]
      obtain ⟨rfl, hB⟩ := hB
      go_enter Try.func25, Try.ntmps25
      go_wp2_with fail
      go_ret
      exact ⟨by rw [HR.out]; rfl, hal⟩
    · obtain ⟨p, k, er, hF⟩ : ∃ p k er, Pl.getF held = (p, k, er) := ⟨_, _, _, rfl⟩
      have hget := fget_is _ _ _ _ _ _ (hs.below hal) ho hF
      by_cases h71 : er = 71
      · subst h71
        have HR : Hid (Pl.checkF held lost = 0) := by show _ = _; unfold Pl.checkF; rw [HN.out, hF, if_neg (by rintro (h | h | h) <;> simp_all)]
        cases lost
        · go_enter Try.func25, Try.ntmps25
          go_wp2_with (go_at_call 12; refine hget.mono ?_; rintro e w2 ⟨v2, rfl, hown2, hb2⟩)
          go_ret
          exact ⟨by rw [HR.out]; rfl, hal.trans (hb2.mono hal.size)⟩
        · have hn0 : ¬ 0 < n := by simp at hB; omega
          go_enter Try.func25, Try.ntmps25
          go_wp2_with (go_at_call 12; refine hget.mono ?_; rintro e w2 ⟨v2, rfl, hown2, hb2⟩)
          go_ret
          exact ⟨by rw [HR.out]; rfl, hal.trans (hb2.mono hal.size)⟩
      · have hb71 : (er == 71) = false := by simp; exact h71
        have HR : Hid (Pl.checkF held lost = 9) := by show _ = _; unfold Pl.checkF; rw [HN.out, hF, if_pos (.inr (.inr h71))]
        cases lost
        · go_enter Try.func25, Try.ntmps25
          go_wp2_with (go_at_call 12; refine hget.mono ?_; rintro e w2 ⟨v2, rfl, hown2, hb2⟩)
          go_ret
          exact ⟨by rw [HR.out]; rfl, hal.trans (hb2.mono hal.size)⟩
        · have hn0 : ¬ 0 < n := by simp at hB; omega
          go_enter Try.func25, Try.ntmps25
          go_wp2_with (go_at_call 12; refine hget.mono ?_; rintro e w2 ⟨v2, rfl, hown2, hb2⟩)
          go_ret
          exact ⟨by rw [HR.out]; rfl, hal.trans (hb2.mono hal.size)⟩
end Go.Proofs.Ytlfgnllmomeajaa
