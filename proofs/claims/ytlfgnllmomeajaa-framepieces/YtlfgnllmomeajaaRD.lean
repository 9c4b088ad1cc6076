/- The reference: Check. -/
import Derived.Test.YtlfgnllmomeajaaRC
import Derived.Test.YtlfgnllmomeajaaFH
namespace Go.Proofs.Ytlfgnllmomeajaa
open Go.RowKit

set_option maxHeartbeats 1000000 in
set_option maxRecDepth 4000 in
theorem rcheck3_any (hv : Value) (held : List Int) (lost : Bool) (w : World) (hs : Seg .u8 w hv held) (ho : Pl.Octs held) :
    Calls Try.prog 23 #[.agg #[hv, .bool lost]] w fun e w' => e = .returned (.int .i64 (Pl.checkF held lost)) ∧ Below w.heap.size w w' := by
  obtain ⟨a, c, hvs, h1, h2, h3, h4⟩ := id hs
  clear h3 h4
  generalize hn : held.length = n at hvs h1
  subst hvs
  have HN : Hid (held.length = n) := hn
  clear hn
  unfold maxLen at h2
  have hal := (Below.refl w.heap.size w).alloc (Nat.le_refl _) (.cells #[.slice a n c, .bool lost] 44)
  obtain ⟨p, k, er, hF⟩ : ∃ p k er, Pl.getF held = (p, k, er) := ⟨_, _, _, rfl⟩
  have hget := rget3_is _ _ _ _ _ _ (hs.below hal) ho hF
  have hca : (w.alloc (.cells #[.slice a n c, .bool lost] 44)).heap[w.heap.size]? = some (.cells #[.slice a n c, .bool lost] 44 (0, 0)) := heap_alloc_new _ _
  have hc0 := fun (w2 : World) (h : Below (w.alloc (.cells #[.slice a n c, .bool lost] 44)).heap.size (w.alloc (.cells #[.slice a n c, .bool lost] 44)) w2) => cell_of_row w2 w.heap.size 0 _ 44 (0, 0) ((h.block w.heap.size (by simp)).trans hca)
  have hc1 := fun (w2 : World) (h : Below (w.alloc (.cells #[.slice a n c, .bool lost] 44)).heap.size (w.alloc (.cells #[.slice a n c, .bool lost] 44)) w2) => cell_of_row w2 w.heap.size 1 _ 44 (0, 0) ((h.block w.heap.size (by simp)).trans hca)
  have HR : Hid (Pl.checkF held lost = if 8192 < n ∨ (lost = true ∧ 0 < n) ∨ er ≠ 71 then 9 else 0) := by show _ = _; unfold Pl.checkF; rw [HN.out, hF]
  generalize Pl.checkF held lost = R at *
  clear hca hF
  by_cases hA : 8192 < n
  · rw [if_pos (.inl hA)] at HR
    go_enter Try.func23, Try.ntmps23
    go_wp2_with (go_at_call 13; refine hget.mono ?_; rintro e w2 ⟨v2, rfl, hown2, hb2⟩; have d0 := hc0 w2 hb2; have d1 := hc1 w2 hb2; clear hown2)
    go_ret
    exact ⟨by rw [HR.out]; rfl, hal.trans (hb2.mono hal.size)⟩
  · by_cases hE : er = 71
    · subst hE
      cases lost
      · rw [if_neg (by rintro (h | h | h) <;> simp_all)] at HR
        go_enter Try.func23, Try.ntmps23
        go_wp2_with (go_at_call 13; refine hget.mono ?_; rintro e w2 ⟨v2, rfl, hown2, hb2⟩; have d0 := hc0 w2 hb2; have d1 := hc1 w2 hb2; clear hown2)
        go_ret
        exact ⟨by rw [HR.out]; rfl, hal.trans (hb2.mono hal.size)⟩
      · by_cases hB : 0 < n
        · rw [if_pos (.inr (.inl ⟨rfl, hB⟩))] at HR
          go_enter Try.func23, Try.ntmps23
          go_wp2_with (go_at_call 13; refine hget.mono ?_; rintro e w2 ⟨v2, rfl, hown2, hb2⟩; have d0 := hc0 w2 hb2; have d1 := hc1 w2 hb2; clear hown2)
          go_ret
          exact ⟨by rw [HR.out]; rfl, hal.trans (hb2.mono hal.size)⟩
        · rw [if_neg (by rintro (h | h | h) <;> simp_all)] at HR
          go_enter Try.func23, Try.ntmps23
          go_wp2_with (go_at_call 13; refine hget.mono ?_; rintro e w2 ⟨v2, rfl, hown2, hb2⟩; have d0 := hc0 w2 hb2; have d1 := hc1 w2 hb2; clear hown2)
          go_ret
          exact ⟨by rw [HR.out]; rfl, hal.trans (hb2.mono hal.size)⟩
    · have hb71 : (er == 71) = false := by simp; exact hE
      rw [if_pos (.inr (.inr hE))] at HR
      go_enter Try.func23, Try.ntmps23
      go_wp2_with (go_at_call 13; refine hget.mono ?_; rintro e w2 ⟨v2, rfl, hown2, hb2⟩; have d0 := hc0 w2 hb2; have d1 := hc1 w2 hb2; clear hown2)
      go_ret
      exact ⟨by rw [HR.out]; rfl, hal.trans (hb2.mono hal.size)⟩
end Go.Proofs.Ytlfgnllmomeajaa
