/- Contracts of Sum and alive. -/
import Derived.Test.YtoadcaennlfadaaCrcA
import Derived.Lib.SlBytesConst
namespace Go.Proofs.Ytoadcaennlfadaa
open Go.RowKit
set_option maxRecDepth 20000

def Pl.sumOf (l : List Int) : Nat := 4294967295 ^^^ Pl.run 4294967295 l
def Pl.moreOf (c : Nat) (l : List Int) : Nat := 4294967295 ^^^ Pl.run (4294967295 ^^^ c) l
theorem Pl.moreOf_lt {c : Nat} {l : List Int} (hc : c < 4294967296) (h : Pl.Octs l) : Pl.moreOf c l < 4294967296 := Pl.xlt (by decide) (Pl.run_lt (Pl.xlt (by decide) hc) h)
theorem Pl.sumOf_lt {l : List Int} (h : Pl.Octs l) : Pl.sumOf l < 4294967296 := Pl.xlt (by decide) (Pl.run_lt (by decide) h)
theorem Pl.sumOf_nil : Pl.sumOf [] = 0 := by decide
theorem Pl.moreOf_sum (l m : List Int) : Pl.moreOf (Pl.sumOf l) m = Pl.sumOf (l ++ m) := by
  unfold Pl.moreOf Pl.sumOf
  rw [Pl.xx, Pl.run_app]

/-- A slice of texts. -/
def Segs (w : World) (v : Value) (ls : List (List Int)) : Prop :=
  ∃ (b off cap : Nat), v = .slice (some ⟨b, off, none⟩) ls.length cap ∧ ls.length ≤ cap ∧ cap ≤ maxLen ∧
    ∀ i, i < ls.length → ∃ u, w.cell? ⟨b, off + i, none⟩ = some u ∧ Seg .u8 w u (ls.getD i [])

theorem Segs.one {w : World} {v : Value} {l : List Int} (e : TypeId) (h : Seg .u8 w v l) : Segs (w.alloc (.cells #[v] e)) (.slice (some ⟨w.heap.size, 0, none⟩) 1 1) [l] := by
  refine ⟨w.heap.size, 0, 1, rfl, Nat.le_refl _, by unfold maxLen; omega, fun i hi => ⟨v, ?_, ?_⟩⟩
  · simp at hi
    subst hi
    simp
  · simp at hi
    subst hi
    exact h.below ((Below.refl _ _).alloc (Nat.le_refl _) _)
theorem Segs.two {w : World} {v u : Value} {l m : List Int} (e : TypeId) (h : Seg .u8 w v l) (k : Seg .u8 w u m) : Segs (w.alloc (.cells #[v, u] e)) (.slice (some ⟨w.heap.size, 0, none⟩) 2 2) [l, m] := by
  have hb : Below w.heap.size w (w.alloc (.cells #[v, u] e)) := (Below.refl _ _).alloc (Nat.le_refl _) _
  refine ⟨w.heap.size, 0, 2, rfl, Nat.le_refl _, by unfold maxLen; omega, fun i hi => ?_⟩
  simp at hi
  match i, hi with
  | 0, _ => exact ⟨v, by simp, h.below hb⟩
  | 1, _ => exact ⟨u, by simp, k.below hb⟩

set_option maxHeartbeats 400000 in
theorem sum_any (v : Value) (ls : List (List Int)) (w : World) (hs : Segs w v ls) (ho : ∀ l ∈ ls, Pl.Octs l) :
    Calls Try.prog 69 #[v] w fun e w' => e = .returned (.int .u32 (Pl.sumOf ls.flatten)) ∧ w = w' := by
  obtain ⟨b, off, cap, rfl, h1, h2, h4⟩ := hs
  unfold maxLen at h2
  go_enter Try.func69, Try.ntmps69
  go_wp2
  go_loopw [3, 8] (fun a i wr => ∃ k : Nat, k ≤ ls.length ∧ i = .int .i64 k ∧ a = .int .u32 (Pl.sumOf (ls.take k).flatten) ∧ w = wr) (fun _ i _ => ls.length - (intOf i).toNat)
  case atStart => exact ⟨0, Nat.zero_le _, rfl, by rw [List.take_zero, List.flatten_nil, Pl.sumOf_nil]; rfl, rfl⟩
  case round =>
    obtain ⟨k, hk, rfl, rfl, rfl⟩ := hrel
    by_cases hlt : k < ls.length
    · obtain ⟨u, hcu, hsu⟩ := h4 k hlt
      have hok := ho (ls.getD k []) (by simp [List.getD, hlt])
      have hot : Pl.Octs (ls.take k).flatten := by
        intro z hz
        obtain ⟨m, hm, hzm⟩ := List.mem_flatten.1 hz
        exact ho m (List.mem_of_mem_take hm) z hzm
      have hl := Pl.sumOf_lt hot
      have HS : Hid (Pl.sumOf (ls.take (k + 1)).flatten = Pl.moreOf (Pl.sumOf (ls.take k).flatten) (ls.getD k [])) := by
        show _ = _
        rw [Pl.moreOf_sum, List.take_succ_eq_append_getElem hlt, List.flatten_append]
        simp [List.getD, hlt]
      generalize Pl.sumOf (ls.take k).flatten = r at *
      generalize ls.getD k [] = m at *
      clear h4 ho
      obtain ⟨au, capu, rfl, g1, g2, g3, g4⟩ := id hsu
      go_wp2_with (go_at_call 75; refine (more_any r _ m w hl hsu hok).mono ?_; rintro e w1 ⟨rfl, rfl⟩)
      go_roundw
      case rel => exact ⟨k + 1, by omega, by go_num, by rw [HS.out]; rfl, trivial⟩
      case measure => simp [intOf]; omega
    · have hke : k = ls.length := by omega
      subst hke
      rw [List.take_length]
      go_wp2
      go_ret
      exact ⟨rfl, rfl⟩

/-- The sum of one text, and of two, as they are handed over. -/
theorem sum_one {w : World} {v : Value} {l : List Int} (n : Nat) (hn : w.heap.size = n) (h : Seg .u8 w v l) (ho : Pl.Octs l) :
    Calls Try.prog 69 #[.slice (some ⟨n, 0, none⟩) 1 1] (w.alloc (.cells #[v] 22)) fun e w' => e = .returned (.int .u32 (Pl.sumOf l)) ∧ w.alloc (.cells #[v] 22) = w' := by
  subst hn
  have := sum_any _ [l] _ (Segs.one 22 h) (by intro m hm; simp at hm; subst hm; exact ho)
  rw [show [l].flatten = l by simp] at this
  exact this
theorem sum_two {w : World} {v u : Value} {l m : List Int} (n : Nat) (hn : w.heap.size = n) (h : Seg .u8 w v l) (k : Seg .u8 w u m) (ho : Pl.Octs l) (hm : Pl.Octs m) :
    Calls Try.prog 69 #[.slice (some ⟨n, 0, none⟩) 2 2] (w.alloc (.cells #[v, u] 22)) fun e w' => e = .returned (.int .u32 (Pl.sumOf (l ++ m))) ∧ w.alloc (.cells #[v, u] 22) = w' := by
  subst hn
  have := sum_any _ [l, m] _ (Segs.two 22 h k) (by intro z hz; simp at hz; rcases hz with rfl | rfl <;> assumption)
  rw [show [l, m].flatten = l ++ m by simp] at this
  exact this

theorem seg_new {w : World} {l : List Int} (e : TypeId) (f : Nat × Nat) (hl : l.length ≤ 65536) : Seg .u8 (w.alloc (.cells (u8s l).toArray e f)) (.slice (some ⟨w.heap.size, 0, none⟩) l.length l.length) l := by
  refine ⟨some ⟨w.heap.size, 0, none⟩, l.length, rfl, Nat.le_refl _, by unfold maxLen; omega, fun h => (by cases h), fun x hx i hi => ?_⟩
  cases hx
  rw [add_plain]
  unfold World.cell? World.alloc
  simp [hi]

def nine : List Int := [49, 50, 51, 52, 53, 54, 55, 56, 57]
theorem octs_nine : Pl.Octs nine := by
  intro z hz
  simp [nine] at hz
  omega
theorem sum_nine : Pl.sumOf nine = 3421780262 := by decide +kernel

end Go.Proofs.Ytoadcaennlfadaa
