/- The reference's writer, while nothing is wrong: decimal, need. -/
import Derived.Test.YtdbgncdnffbhkaaGreatDoorCutPut13
namespace Go.Proofs.YtdbgncdnffbhkaaGreatDoor
open Go.RowKit
set_option maxRecDepth 20000

theorem dig_conv (z : Int) (w : World) : (convert 128 9 (.slice (some ⟨w.heap.size, 0, none⟩) 1 1)).run Tryz.prog (w.alloc (.cells #[.int .u8 z] 5)) = .ok (.string (strOf [z])) (w.alloc (.cells #[.int .u8 z] 5)) := by
  refine seg_string ⟨_, 1, rfl, Nat.le_refl _, by unfold maxLen; omega, (fun h => by cases h), ?_⟩
  intro x hx i hi
  cases hx
  have h0 : i = 0 := by simp at hi; omega
  subst h0
  exact (Bx.new w [.int .u8 z] 5).cell 0 rfl

set_option maxHeartbeats 4000000 in
theorem rdec_one (n : Nat) (h : n < 10) (w : World) : Calls Tryz.prog 90 #[.int .i64 (n : Int)] w fun e w' => ∃ s, e = .returned (.string s) ∧ bl s = [48 + n] ∧ Below w.heap.size w w' := by
  have h1 : n = 0 ∨ n = 1 ∨ n = 2 ∨ n = 3 ∨ n = 4 ∨ n = 5 ∨ n = 6 ∨ n = 7 ∨ n = 8 ∨ n = 9 := by omega
  have HB := hid (fun z => below_alloc w (.cells #[.int .u8 z] 5))
  have hc := fun z => dig_conv z w
  clear h
  rcases h1 with rfl | rfl | rfl | rfl | rfl | rfl | rfl | rfl | rfl | rfl
  all_goals
    go_enter Tryz.func90, Tryz.ntmps90
    go_wp2
    go_ret
    exact ⟨_, rfl, by decide, HB.out _⟩
end Go.Proofs.YtdbgncdnffbhkaaGreatDoor
