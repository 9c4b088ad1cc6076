/- lex: isJust, Check. -/
import Derived.Test.YthdooemgnpiomaaYA
namespace Go.Proofs.Ythdooemgnpiomaa
open Go.RowKit

/-- Is a text just one token of a kind? -/
def just (k : Int) (x : ByteArray) : Bool := decide ((Pl.nextP (bl x)).2.2 = 0) && decide (((Pl.nextP (bl x)).1 : Int) = k) && decide ((Pl.nextP (bl x)).2.1 = x.size)

/-- Check's answer. -/
def checkZ (t : Z3) : Int := if t.1 < 1 ∨ 3 < t.1 then 23 else if just t.1 t.2.1 = false then 32 else if t.2.2 < 1 then 4 else 0

set_option maxHeartbeats 1000000 in
set_option maxRecDepth 4000 in
theorem isJust_any (k : Int) (x : ByteArray) (hx : x.size ≤ maxLen) (w : World) : Calls Try.prog 25 #[.int .i64 k, .string x] w fun e w' => e = .returned (.bool (just k x)) ∧ Below w.heap.size w w' := by
  unfold maxLen at hx
  obtain ⟨kk, m, er, hN⟩ : ∃ kk m er, Pl.nextP (bl x) = (kk, m, er) := ⟨_, _, _, rfl⟩
  have hlen := (Pl.next_len (bl x)).1
  rw [hN, bl_length] at hlen
  simp only at hlen
  have hn : ∀ (n : Nat) (w1 : World), At n 84 [] w1 x 0 0 → Calls Try.prog 44 #[.pointer (some ⟨n, 0, none⟩)] w1 fun e w' => e = .returned (.tuple #[.int .i64 (kk : Int), .string (if er = 0 then x.extract 0 (0 + m) else empty), .int .i64 er]) ∧ At n 84 [] w' x m 0 ∧ w1.grownBy w' (some n) := by
    intro n w1 h1
    have h := next_any n 84 [] w1 x 0 0 h1 (Nat.zero_le _) hx
    rw [List.drop_zero, hN, Nat.zero_add] at h
    exact h
  have hJ : just k x = (decide (er = 0) && decide ((kk : Int) = k) && decide (m = x.size)) := by unfold just; rw [hN]
  rw [hJ]
  generalize (if er = 0 then x.extract 0 (0 + m) else empty) = tx at hn
  obtain ⟨n, hnn⟩ : ∃ n, n = w.heap.size := ⟨_, rfl⟩
  go_enter Try.func25, Try.ntmps25
  go_wp2_with fail
  have hA0 : At n 84 [] (w.alloc (.cells #[.string x, .int .i64 0, .int .i64 0] 84)) x 0 0 := by
    rw [hnn]
    exact heap_alloc_new w _
  have hb0 : Below n w (w.alloc (.cells #[.string x, .int .i64 0, .int .i64 0] 84)) := (Below.refl _ w).alloc (by omega) _
  generalize w.alloc (.cells #[.string x, .int .i64 0, .int .i64 0] 84) = w0 at hA0 hb0 ⊢
  simp only [← hnn]
  have HN : Hid (n = w.heap.size) := hnn
  clear hnn
  refine (hn n w0 hA0).mono ?_
  rintro e w1 ⟨rfl, hA1, hg1⟩
  have hb1 : Below n w w1 := below_grown hb0 hg1 (by have := hA0.facts.2.2.2.2; omega) (fun j hj => by cases hj; exact Nat.le_refl _)
  have hov := over_any n 84 [] w1 x m 0 hA1
  by_cases he : er = 0
  · subst he
    by_cases hk : (kk : Int) = k
    · have hq : ((kk : Int) == k) = true := by simp [hk]
      go_wp2_with (go_at_call 34; refine hov.mono ?_; rintro e w2 ⟨rfl, q, rfl⟩)
      go_ret
      rw [← HN.out]
      exact ⟨rfl, below_drewN hb1 q⟩
    · have hq : ((kk : Int) == k) = false := by simp [hk]
      go_wp2
      go_ret
      rw [← HN.out]
      refine ⟨?_, hb1⟩
      simp
  · have hq : (er == 0) = false := by simp [he]
    go_wp2
    go_ret
    rw [← HN.out]
    refine ⟨?_, hb1⟩
    simp [he]

set_option maxHeartbeats 1000000 in
set_option maxRecDepth 4000 in
theorem check_any (t : Z3) (hx : t.2.1.size ≤ maxLen) (w : World) : Calls Try.prog 16 #[.agg #[.int .i64 t.1, .string t.2.1, .int .i64 t.2.2]] w fun e w' => e = .returned (.int .i64 (checkZ t)) ∧ Below w.heap.size w w' := by
  obtain ⟨k, x, ln⟩ := t
  simp only at hx ⊢
  unfold checkZ
  simp only
  by_cases h1 : k < 1
  · rw [if_pos (.inl h1)]
    go_enter Try.func16, Try.ntmps16
    go_wp2
    go_ret
    exact ⟨rfl, (Below.refl _ w).alloc (Nat.le_refl _) _⟩
  by_cases h3 : 3 < k
  · rw [if_pos (.inr h3)]
    go_enter Try.func16, Try.ntmps16
    go_wp2
    go_ret
    exact ⟨rfl, (Below.refl _ w).alloc (Nat.le_refl _) _⟩
  rw [if_neg (by omega)]
  have hj := fun w' => isJust_any k x hx w'
  cases hb : just k x with
  | false =>
    rw [hb] at hj
    rw [if_pos rfl]
    go_enter Try.func16, Try.ntmps16
    go_wp2_with fail
    refine (hj _).mono ?_
    rintro e w1 ⟨rfl, hb1⟩
    have hbb : Below w.heap.size w w1 := ((Below.refl _ w).alloc (Nat.le_refl _) _).trans (hb1.mono (by simp))
    go_wp2
    go_ret
    exact ⟨rfl, hbb⟩
  | true =>
    rw [hb] at hj
    rw [if_neg (by simp)]
    by_cases hl : ln < 1
    · rw [if_pos hl]
      go_enter Try.func16, Try.ntmps16
      go_wp2_with fail
      refine (hj _).mono ?_
      rintro e w1 ⟨rfl, hb1⟩
      have hbb : Below w.heap.size w w1 := ((Below.refl _ w).alloc (Nat.le_refl _) _).trans (hb1.mono (by simp))
      have hcell : w1.cell? ⟨w.heap.size, 2, none⟩ = some (.int .i64 ln) := (hb1.cell (by simp)).trans (by simp)
      go_wp2
      go_ret
      exact ⟨rfl, hbb⟩
    · rw [if_neg hl]
      go_enter Try.func16, Try.ntmps16
      go_wp2_with fail
      refine (hj _).mono ?_
      rintro e w1 ⟨rfl, hb1⟩
      have hbb : Below w.heap.size w w1 := ((Below.refl _ w).alloc (Nat.le_refl _) _).trans (hb1.mono (by simp))
      have hcell : w1.cell? ⟨w.heap.size, 2, none⟩ = some (.int .i64 ln) := (hb1.cell (by simp)).trans (by simp)
      go_wp2
      go_ret
      exact ⟨rfl, hbb⟩
end Go.Proofs.Ythdooemgnpiomaa
