/- lex: a place on its way through a text. -/
import Derived.Test.YthdooemgnpiomaaXA
import Derived.Deep.RegionWith
namespace Go.Proofs.Ythdooemgnpiomaa
open Go.RowKit

/-- A place in block n (its type T, what lies behind it: rest): the text, where it is, and the line. -/
def At (n : Nat) (T : TypeId) (rest : List Value) (w : World) (s : ByteArray) (a l : Nat) : Prop :=
  w.heap[n]? = some (.cells ⟨.string s :: .int .i64 (a : Int) :: .int .i64 (l : Int) :: rest⟩ T (0, 0))

theorem At.facts {n : Nat} {T : TypeId} {rest : List Value} {w : World} {s : ByteArray} {a l : Nat} (h : At n T rest w s a l) :
    w.cell? ⟨n, 0, none⟩ = some (.string s) ∧ w.cell? ⟨n, 1, none⟩ = some (.int .i64 (a : Int)) ∧ w.cell? ⟨n, 2, none⟩ = some (.int .i64 (l : Int)) ∧ (∀ k, w.frozen? ⟨n, k, none⟩ = false) ∧ n < w.heap.size := by
  refine ⟨by rw [cell_of_row w n 0 _ T (0, 0) h]; rfl, by rw [cell_of_row w n 1 _ T (0, 0) h]; rfl, by rw [cell_of_row w n 2 _ T (0, 0) h]; rfl, fun k => frozen_of_row w n k _ T h, ?_⟩
  rcases Nat.lt_or_ge n w.heap.size with hlt | hge
  · exact hlt
  · unfold At at h; rw [Array.getElem?_eq_none hge] at h; cases h

theorem grown_set (w : World) (n k : Nat) (u : Value) : w.grownBy (w.setCell ⟨n, k, none⟩ u) (some n) :=
  ⟨rfl, rfl, rfl, by simp, fun j _ hj => heap_setCell_other w ⟨n, k, none⟩ j u (fun e => hj (by simp [e]))⟩

theorem At.step {n : Nat} {T : TypeId} {rest : List Value} {w : World} {s : ByteArray} {a l : Nat} (h : At n T rest w s a l) : At n T rest (w.setCell ⟨n, 1, none⟩ (.int .i64 ((a : Int) + 1))) s (a + 1) l := by
  unfold At at h ⊢
  rw [heap_setCell_same w n 1 _ T _ h]
  rfl
theorem At.line {n : Nat} {T : TypeId} {rest : List Value} {w : World} {s : ByteArray} {a l : Nat} (h : At n T rest w s a l) : At n T rest (w.setCell ⟨n, 2, none⟩ (.int .i64 ((l : Int) + 1))) s a (l + 1) := by
  unfold At at h ⊢
  rw [heap_setCell_same w n 2 _ T _ h]
  rfl

theorem At.below {n : Nat} {T : TypeId} {rest : List Value} {w w' : World} {s : ByteArray} {a l : Nat} (h : At n T rest w s a l) (hb : Below w.heap.size w w') : At n T rest w' s a l := (hb.block n h.facts.2.2.2.2).trans h

theorem grown_below {w w' : World} (h : Below w.heap.size w w') (row : Option Nat) : w.grownBy w' row := ⟨h.os, h.tape, h.output, h.size, fun k hk _ => h.block k hk⟩

/-- What is looked for is told by a function. -/
def Fits (n : Nat) (w : World) (fk : Nat) (cap : Array Value) (p : Nat → Bool) : Prop :=
  (∀ (args : Array Value) (w' : World), (callFunc fk args).run Try.prog w' = .ok (.enter fk args) w') ∧ ∀ w', w.grownBy w' (some n) → ∀ c, c < 256 → Calls Try.prog fk (#[.int .u8 (c : Int)] ++ cap) w' fun e w2 => e = .returned (.bool (p c)) ∧ w2 = w'

theorem Fits.mono {n : Nat} {w w' : World} {fk : Nat} {cap : Array Value} {p : Nat → Bool} (h : Fits n w fk cap p) (hg : w.grownBy w' (some n)) : Fits n w' fk cap p := ⟨h.1, fun w2 h2 => h.2 w2 (hg.trans h2)⟩

def seesB (p : Nat → Bool) (l : List Nat) : Bool := match l with | [] => false | c :: _ => p c

theorem bl_length (s : ByteArray) : (bl s).length = s.size := by unfold bl; rw [List.length_map, Array.length_toList]; rfl
theorem drop_end (s : ByteArray) : (bl s).drop s.size = [] := List.drop_of_length_le (by rw [bl_length]; exact Nat.le_refl _)

theorem drop_at (s : ByteArray) (a : Nat) (h : a < s.size) : (bl s).drop a = s[a].toNat :: (bl s).drop (a + 1) := by
  have hl : a < (bl s).length := by rw [bl_length]; exact h
  rw [List.drop_eq_getElem_cons hl]
  congr 1
  simp only [bl, List.getElem_map, Array.getElem_toList]
  rfl

set_option maxHeartbeats 1000000 in
theorem over_any (n : Nat) (T : TypeId) (rest : List Value) (w : World) (s : ByteArray) (a l : Nat) (h : At n T rest w s a l) :
    Calls Try.prog 34 #[.pointer (some ⟨n, 0, none⟩)] w fun e w' => e = .returned (.bool (decide (a = s.size))) ∧ ∃ m, w' = w.drewN m := by
  obtain ⟨c0, c1, c2, hf, hlt⟩ := h.facts
  go_enter Try.func34, Try.ntmps34
  go_wp2
  go_quiet (fail)
  go_wp2
  go_ret
  refine ⟨?_, nq, rfl⟩
  congr 2
  by_cases ha : a = s.size
  · subst ha
    simp
  · have h1 : ((a : Int) == (s.size : Int)) = false := by simp; omega
    simp [h1, ha]

theorem At.drew {n : Nat} {T : TypeId} {rest : List Value} {w : World} {s : ByteArray} {a l : Nat} (h : At n T rest w s a l) (m : Nat) : At n T rest (w.drewN m) s a l := h.below (below_drewN (Below.refl _ _) m)

set_option maxHeartbeats 1000000 in
theorem sees_any (n : Nat) (T : TypeId) (rest : List Value) (w : World) (s : ByteArray) (a l : Nat) (h : At n T rest w s a l) (ha : a ≤ s.size) (fk : Nat) (cap : Array Value) (p : Nat → Bool) (hF : Fits n w fk cap p) :
    Calls Try.prog 61 #[.pointer (some ⟨n, 0, none⟩), .func (.func fk) #[] cap] w fun e w' => e = .returned (.bool (seesB p ((bl s).drop a))) ∧ ∃ m, w' = w.drewN m := by
  obtain ⟨c0, c1, c2, hf, hlt⟩ := h.facts
  have hov : ∀ m, Calls Try.prog 34 #[.pointer (some ⟨n, 0, none⟩)] (w.drewN m) fun e w' => e = .returned (.bool (decide (a = s.size))) ∧ ∃ k, w' = (w.drewN m).drewN k := fun m => over_any n T rest _ s a l (h.drew m)
  by_cases hs : a = s.size
  · rw [decide_eq_true hs] at hov
    rw [hs, drop_end]
    rw [hs] at c1
    go_enter Try.func61, Try.ntmps61
    go_wp2
    go_quiet (first | (go_at_call 34; exact Calls.quiet_of (hov _)))
    go_wp2
    go_ret
    exact ⟨rfl, nq, rfl⟩
  · have hlt : a < s.size := by omega
    rw [decide_eq_false hs] at hov
    have hen := hF.1
    have hd : (bl s).drop a = s[a].toNat :: (bl s).drop (a + 1) := drop_at s a hlt
    rw [hd]
    have hcl : ∀ m, Calls Try.prog fk (#[.int .u8 (s[a].toNat : Int)] ++ cap) (w.drewN m) fun e w2 => e = .returned (.bool (p s[a].toNat)) ∧ w2 = w.drewN m := fun m => hF.2 _ (grown_below (below_drewN (Below.refl _ _) m) _) _ (UInt8.toNat_lt _)
    clear hd
    go_enter Try.func61, Try.ntmps61
    go_wp2
    go_quiet (first | (go_at_call 34; exact Calls.quiet_of (hov _)) | exact ⟨rfl, Calls.quiet_of_same (hcl _)⟩ | exact Calls.quiet_of_same (hcl _))
    go_wp2
    go_ret
    exact ⟨rfl, nq, rfl⟩
end Go.Proofs.Ythdooemgnpiomaa
