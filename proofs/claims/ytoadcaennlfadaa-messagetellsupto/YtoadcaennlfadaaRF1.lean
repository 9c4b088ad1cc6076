/- waybillref09: form, field. -/
import Derived.Test.YtoadcaennlfadaaGG
namespace Go.Proofs.Ytoadcaennlfadaa
open Go.RowKit
set_option maxRecDepth 20000

/-- A kind's letters. -/
def formL (k : Int) : List Nat :=
  if k = 1 then [99, 110] else if k = 8 then [99, 110] else if k = 2 then [99, 105, 115, 110] else if k = 3 then [99, 105, 115, 113, 109, 108, 100] else if k = 4 then [99, 105, 115, 113, 111, 112, 100] else if k = 5 then [99, 105, 115, 113, 109] else if k = 6 then [99, 105, 115, 113] else if k = 7 then [99, 105, 115, 113] else []
def strL (l : List Nat) : ByteArray := ⟨(l.map UInt8.ofNat).toArray⟩
/-- A letter's place among the numbers. -/
def plc (c : Nat) : Int := if c = 99 then 0 else if c = 98 then 1 else if c = 105 then 2 else if c = 115 then 3 else if c = 113 then 4 else if c = 109 then 5 else if c = 110 then 6 else if c = 108 then 7 else if c = 111 then 8 else if c = 112 then 9 else 10

theorem used_form {k : Int} (h : usedP k ≠ []) : usedP k = 1 :: (formL k).map plc := by
  obtain ⟨k1, k8⟩ := used_kind h
  have : k = 1 ∨ k = 2 ∨ k = 3 ∨ k = 4 ∨ k = 5 ∨ k = 6 ∨ k = 7 ∨ k = 8 := by omega
  rcases this with rfl | rfl | rfl | rfl | rfl | rfl | rfl | rfl <;> decide
theorem form_none {k : Int} : usedP k = [] ↔ formL k = [] := by
  constructor
  · intro h
    by_cases hk : 1 ≤ k ∧ k ≤ 8
    · exfalso
      have : k = 1 ∨ k = 2 ∨ k = 3 ∨ k = 4 ∨ k = 5 ∨ k = 6 ∨ k = 7 ∨ k = 8 := by omega
      rcases this with rfl | rfl | rfl | rfl | rfl | rfl | rfl | rfl <;> exact absurd h (by decide)
    · unfold formL
      rw [if_neg (by omega), if_neg (by omega), if_neg (by omega), if_neg (by omega), if_neg (by omega), if_neg (by omega), if_neg (by omega), if_neg (by omega)]
  · intro h
    by_cases hk : usedP k = []
    · exact hk
    · exfalso
      obtain ⟨k1, k8⟩ := used_kind hk
      have : k = 1 ∨ k = 2 ∨ k = 3 ∨ k = 4 ∨ k = 5 ∨ k = 6 ∨ k = 7 ∨ k = 8 := by omega
      rcases this with rfl | rfl | rfl | rfl | rfl | rfl | rfl | rfl <;> exact absurd h (by decide)

set_option maxHeartbeats 4000000 in
theorem form_any (k : Int) (w : World) : Calls Try.prog 30 #[.int .i64 k] w fun e w' => e = .returned (.string (strL (formL k))) ∧ w' = w := by
  by_cases h1 : k = 1
  · subst h1
    go_enter Try.func30, Try.ntmps30
    go_wp2
    all_goals (go_ret; exact ⟨rfl, rfl⟩)
  by_cases h8 : k = 8
  · subst h8
    go_enter Try.func30, Try.ntmps30
    go_wp2
    all_goals (go_ret; exact ⟨rfl, rfl⟩)
  by_cases h2 : k = 2
  · subst h2
    go_enter Try.func30, Try.ntmps30
    go_wp2
    all_goals (go_ret; exact ⟨rfl, rfl⟩)
  by_cases h3 : k = 3
  · subst h3
    go_enter Try.func30, Try.ntmps30
    go_wp2
    all_goals (go_ret; exact ⟨rfl, rfl⟩)
  by_cases h4 : k = 4
  · subst h4
    go_enter Try.func30, Try.ntmps30
    go_wp2
    all_goals (go_ret; exact ⟨rfl, rfl⟩)
  by_cases h5 : k = 5
  · subst h5
    go_enter Try.func30, Try.ntmps30
    go_wp2
    all_goals (go_ret; exact ⟨rfl, rfl⟩)
  by_cases h6 : k = 6
  · subst h6
    go_enter Try.func30, Try.ntmps30
    go_wp2
    all_goals (go_ret; exact ⟨rfl, rfl⟩)
  by_cases h7 : k = 7
  · subst h7
    go_enter Try.func30, Try.ntmps30
    go_wp2
    all_goals (go_ret; exact ⟨rfl, rfl⟩)
  have hu : formL k = [] := by simp [formL, h1, h2, h3, h4, h5, h6, h7, h8]
  rw [hu]
  go_enter Try.func30, Try.ntmps30
  go_wp2
  all_goals (go_ret; exact ⟨rfl, rfl⟩)

set_option maxHeartbeats 4000000 in
theorem field_any (b c : Nat) (w : World) (hc : c = 99 ∨ c = 98 ∨ c = 105 ∨ c = 115 ∨ c = 113 ∨ c = 109 ∨ c = 110 ∨ c = 108 ∨ c = 111 ∨ c = 112) : Calls Try.prog 32 #[.pointer (some ⟨b, 0, none⟩), .int .u8 c] w fun e w' => e = .returned (.pointer (some ⟨b, (plc c).toNat + 1, none⟩)) ∧ w' = w := by
  rcases hc with rfl | rfl | rfl | rfl | rfl | rfl | rfl | rfl | rfl | rfl
  all_goals
    go_enter Try.func32, Try.ntmps32
    go_wp2
    all_goals (go_ret; exact ⟨rfl, rfl⟩)
end Go.Proofs.Ytoadcaennlfadaa
