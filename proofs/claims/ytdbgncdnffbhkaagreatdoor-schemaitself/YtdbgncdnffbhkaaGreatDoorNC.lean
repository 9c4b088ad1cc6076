/- The reference's writer, while nothing is wrong: decimal, need. -/
import Derived.Test.YtdbgncdnffbhkaaGreatDoorPut13
namespace Go.Proofs.YtdbgncdnffbhkaaGreatDoor
open Go.RowKit
set_option maxRecDepth 20000

theorem dig_conv (z : Int) (w : World) : (convert 128 9 (.slice (some ⟨w.heap.size, 0, none⟩) 1 1)).run Tryz.prog (w.alloc (.cells #[.int .u8 z] 5)) = .ok (.string (strOf [z])) (w.alloc (.cells #[.int .u8 z] 5)) := by
  refine seg_string ⟨_, 1, rfl, Nat.le_refl _, by unfold maxLen; omega, (fun h => by cases h), ?_⟩
  intro x hx i hi
  cases hx
  have h0 : i = 0 := by simp at hi; omega
  subst h0
  exact (Bx.new w [.int .u8 z] 5).cell 0 rfl

set_option maxHeartbeats 400000 in
theorem rdec_0 (w : World) : Calls Tryz.prog 90 #[.int .i64 0] w fun e w' => ∃ s, e = .returned (.string s) ∧ bl s = [48] ∧ Below w.heap.size w w' := by
  have HB := hid (below_alloc w (.cells #[.int .u8 48] 5))
  have hc := dig_conv 48 w
  go_enter Tryz.func90, Tryz.ntmps90
  go_wp2
  go_ret
  exact ⟨_, rfl, by decide, HB.out⟩
set_option maxHeartbeats 400000 in
theorem rdec_1 (w : World) : Calls Tryz.prog 90 #[.int .i64 1] w fun e w' => ∃ s, e = .returned (.string s) ∧ bl s = [49] ∧ Below w.heap.size w w' := by
  have HB := hid (below_alloc w (.cells #[.int .u8 49] 5))
  have hc := dig_conv 49 w
  go_enter Tryz.func90, Tryz.ntmps90
  go_wp2
  go_ret
  exact ⟨_, rfl, by decide, HB.out⟩
set_option maxHeartbeats 400000 in
theorem rdec_2 (w : World) : Calls Tryz.prog 90 #[.int .i64 2] w fun e w' => ∃ s, e = .returned (.string s) ∧ bl s = [50] ∧ Below w.heap.size w w' := by
  have HB := hid (below_alloc w (.cells #[.int .u8 50] 5))
  have hc := dig_conv 50 w
  go_enter Tryz.func90, Tryz.ntmps90
  go_wp2
  go_ret
  exact ⟨_, rfl, by decide, HB.out⟩
set_option maxHeartbeats 400000 in
theorem rdec_3 (w : World) : Calls Tryz.prog 90 #[.int .i64 3] w fun e w' => ∃ s, e = .returned (.string s) ∧ bl s = [51] ∧ Below w.heap.size w w' := by
  have HB := hid (below_alloc w (.cells #[.int .u8 51] 5))
  have hc := dig_conv 51 w
  go_enter Tryz.func90, Tryz.ntmps90
  go_wp2
  go_ret
  exact ⟨_, rfl, by decide, HB.out⟩
set_option maxHeartbeats 400000 in
theorem rdec_4 (w : World) : Calls Tryz.prog 90 #[.int .i64 4] w fun e w' => ∃ s, e = .returned (.string s) ∧ bl s = [52] ∧ Below w.heap.size w w' := by
  have HB := hid (below_alloc w (.cells #[.int .u8 52] 5))
  have hc := dig_conv 52 w
  go_enter Tryz.func90, Tryz.ntmps90
  go_wp2
  go_ret
  exact ⟨_, rfl, by decide, HB.out⟩
set_option maxHeartbeats 400000 in
theorem rdec_5 (w : World) : Calls Tryz.prog 90 #[.int .i64 5] w fun e w' => ∃ s, e = .returned (.string s) ∧ bl s = [53] ∧ Below w.heap.size w w' := by
  have HB := hid (below_alloc w (.cells #[.int .u8 53] 5))
  have hc := dig_conv 53 w
  go_enter Tryz.func90, Tryz.ntmps90
  go_wp2
  go_ret
  exact ⟨_, rfl, by decide, HB.out⟩
set_option maxHeartbeats 400000 in
theorem rdec_6 (w : World) : Calls Tryz.prog 90 #[.int .i64 6] w fun e w' => ∃ s, e = .returned (.string s) ∧ bl s = [54] ∧ Below w.heap.size w w' := by
  have HB := hid (below_alloc w (.cells #[.int .u8 54] 5))
  have hc := dig_conv 54 w
  go_enter Tryz.func90, Tryz.ntmps90
  go_wp2
  go_ret
  exact ⟨_, rfl, by decide, HB.out⟩
set_option maxHeartbeats 400000 in
theorem rdec_7 (w : World) : Calls Tryz.prog 90 #[.int .i64 7] w fun e w' => ∃ s, e = .returned (.string s) ∧ bl s = [55] ∧ Below w.heap.size w w' := by
  have HB := hid (below_alloc w (.cells #[.int .u8 55] 5))
  have hc := dig_conv 55 w
  go_enter Tryz.func90, Tryz.ntmps90
  go_wp2
  go_ret
  exact ⟨_, rfl, by decide, HB.out⟩
set_option maxHeartbeats 400000 in
theorem rdec_8 (w : World) : Calls Tryz.prog 90 #[.int .i64 8] w fun e w' => ∃ s, e = .returned (.string s) ∧ bl s = [56] ∧ Below w.heap.size w w' := by
  have HB := hid (below_alloc w (.cells #[.int .u8 56] 5))
  have hc := dig_conv 56 w
  go_enter Tryz.func90, Tryz.ntmps90
  go_wp2
  go_ret
  exact ⟨_, rfl, by decide, HB.out⟩
set_option maxHeartbeats 400000 in
theorem rdec_9 (w : World) : Calls Tryz.prog 90 #[.int .i64 9] w fun e w' => ∃ s, e = .returned (.string s) ∧ bl s = [57] ∧ Below w.heap.size w w' := by
  have HB := hid (below_alloc w (.cells #[.int .u8 57] 5))
  have hc := dig_conv 57 w
  go_enter Tryz.func90, Tryz.ntmps90
  go_wp2
  go_ret
  exact ⟨_, rfl, by decide, HB.out⟩
theorem rdec_one (n : Nat) (h : n < 10) (w : World) : Calls Tryz.prog 90 #[.int .i64 (n : Int)] w fun e w' => ∃ s, e = .returned (.string s) ∧ bl s = [48 + n] ∧ Below w.heap.size w w' := by
  have h1 : n = 0 ∨ n = 1 ∨ n = 2 ∨ n = 3 ∨ n = 4 ∨ n = 5 ∨ n = 6 ∨ n = 7 ∨ n = 8 ∨ n = 9 := by omega
  clear h
  rcases h1 with rfl | rfl | rfl | rfl | rfl | rfl | rfl | rfl | rfl | rfl
  · exact rdec_0 w
  · exact rdec_1 w
  · exact rdec_2 w
  · exact rdec_3 w
  · exact rdec_4 w
  · exact rdec_5 w
  · exact rdec_6 w
  · exact rdec_7 w
  · exact rdec_8 w
  · exact rdec_9 w
end Go.Proofs.YtdbgncdnffbhkaaGreatDoor
