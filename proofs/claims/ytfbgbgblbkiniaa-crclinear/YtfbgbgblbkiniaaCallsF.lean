/- The contract of Force. -/
import Derived.Test.YtfbgbgblbkiniaaCallsE
import Derived.Deep.RegionWith
import Derived.BigRegion
namespace Go.Proofs.Ytfbgbgblbkiniaa
open Go.RowKit

theorem Segs.below {w w' : World} {v : Value} {ls : List (List Int)} (h : Segs w v ls) (hb : Below w.heap.size w w') : Segs w' v ls := by
  obtain ⟨b, off, cap, rfl, h1, h2, h4⟩ := h
  refine ⟨b, off, cap, rfl, h1, h2, fun i hi => ?_⟩
  obtain ⟨u, hc, hs⟩ := h4 i hi
  exact ⟨u, by rw [hb.cell (World.block_lt_of_cell? w _ hc)]; exact hc, hs.below hb⟩

/-- The octets of a word, so many of them, and noughts behind. -/
def part (W : Nat) : Nat → List Int
  | 0 => [0, 0, 0, 0]
  | 1 => [((W % 256 : Nat) : Int), 0, 0, 0]
  | 2 => [((W % 256 : Nat) : Int), ((W / 256 % 256 : Nat) : Int), 0, 0]
  | 3 => [((W % 256 : Nat) : Int), ((W / 256 % 256 : Nat) : Int), ((W / 65536 % 256 : Nat) : Int), 0]
  | _ => Pl.four W
theorem part_len (W k : Nat) : (part W k).length = 4 := by unfold part; split <;> rfl
theorem part_val (W k : Nat) (hk : k < 4) : (u8s (part W k)).set k (.int .u8 ((W : Int) / 2 ^ (8 * k) % 256)) = u8s (part W (k + 1)) := by
  match k, hk with
  | 0, _ => simp [part]
  | 1, _ => simp [part]
  | 2, _ => simp [part]
  | 3, _ => simp [part, Pl.four]

set_option maxHeartbeats 2000000 in
theorem force_any (v : Value) (l : List Int) (want : Nat) (w : World) (hs : Seg .u8 w v l) (ho : Pl.Octs l) (hw : want < 4294967296) (hlen : l.length ≤ 140737488355328) :
    Calls Try.prog 19 #[v, .int .u32 want] w fun e w' => ∃ v', e = .returned v' ∧ Seg .u8 w' v' (Pl.four (Pl.sumOf l ^^^ (4294967295 ^^^ Pl.nur (4294967295 ^^^ want) [0, 0, 0, 0]))) ∧ Below w.heap.size w w' := by
  obtain ⟨a0, c0, rfl, k1, k2, k3, k4⟩ := id hs
  clear k1 k2 k3 k4
  have hb1 := (Below.refl w.heap.size w).alloc (Nat.le_refl _) (.cells #[.int .u8 0, .int .u8 0, .int .u8 0, .int .u8 0] 49)
  have hs1 := hs.below hb1
  have hf1 : Seg .u8 (w.alloc (.cells #[.int .u8 0, .int .u8 0, .int .u8 0, .int .u8 0] 49)) (.slice (some ⟨w.heap.size, 0, none⟩) 4 4) [0, 0, 0, 0] := seg_new (w := w) (l := [0, 0, 0, 0]) 49 (0, 0) (by decide)
  have hown1 : (w.alloc (.cells #[.int .u8 0, .int .u8 0, .int .u8 0, .int .u8 0] 49)).ownsRow w.heap.size 49 1 (.slice (some ⟨w.heap.size, 0, none⟩) 4 4) 4 (u8s [0, 0, 0, 0]) :=
    ⟨by simp, .inr ⟨w.heap.size, 4, _, rfl, Nat.le_refl _, heap_alloc_new w _, Nat.le_refl _, by unfold maxLen; omega, rfl, rfl⟩⟩
  have hz4 : Pl.Octs [0, 0, 0, 0] := by intro z hz; simp at hz; omega
  have hsl := Pl.sumOf_lt ho
  have hnl : 4294967295 ^^^ Pl.nur (4294967295 ^^^ want) [0, 0, 0, 0] < 4294967296 := Pl.xlt (by decide) (Pl.nur_lt (Pl.xlt (by decide) hw) hz4)
  have hxx := u32x _ _ hsl hnl
  have hsz1 : (w.alloc (.cells #[.int .u8 0, .int .u8 0, .int .u8 0, .int .u8 0] 49)).heap.size = w.heap.size + 1 := by simp
  go_enter Try.func19, Try.ntmps19
  go_wp2
  generalize w.alloc (.cells #[.int .u8 0, .int .u8 0, .int .u8 0, .int .u8 0] 49) = w1 at *
  obtain ⟨w2, hw2⟩ : ∃ w2, (w1.alloc (.cells #[.slice a0 l.length c0] 22)).drew = w2 := ⟨_, rfl⟩
  have hb2 : Below w1.heap.size w1 w2 := by rw [← hw2]; exact ((Below.refl _ w1).alloc (Nat.le_refl _) _).drew
  have HC : Calls Try.prog 12 #[.slice (some ⟨w.heap.size + 1, 0, none⟩) 1 1] (w1.alloc (.cells #[.slice a0 l.length c0] 22)).drew fun e w' => e = .returned (.int .u32 (Pl.sumOf l)) ∧ w2 = w' := by
    rw [hw2]
    have hS : Segs w2 (.slice (some ⟨w.heap.size + 1, 0, none⟩) 1 1) [l] := by
      have h0 := Segs.one (w := w1) 22 hs1
      rw [hsz1] at h0
      have h1 := h0.below (Below.refl _ (w1.alloc (.cells #[.slice a0 l.length c0] 22))).drew
      rw [hw2] at h1
      exact h1
    have := sum_any _ [l] _ hS (by intro m hm; simp at hm; subst hm; exact ho)
    rw [show [l].flatten = l by simp] at this
    exact this
  have HB := back_any want _ [0, 0, 0, 0] w2 hw (hf1.below hb2) hz4 (by simp)
  have hown2 := ownsRow_below hown1 hb2
  have hb02 : Below w.heap.size w w2 := hb1.trans (hb2.mono (by omega))
  have hz2 := hb2.size
  clear hw2 hb2 hf1 hs1 hown1 hs hb1
  generalize hq : 4294967295 ^^^ Pl.nur (4294967295 ^^^ want) [0, 0, 0, 0] = q at *
  have HQ : Hid (4294967295 ^^^ Pl.nur (4294967295 ^^^ want) [0, 0, 0, 0] = q) := hq
  clear hq
  go_region_with (first | (go_at_call 12; refine HC.mono ?_; rintro e w3 ⟨rfl, rfl⟩) | (go_at_call 16; refine HB.mono ?_; rintro e w3 ⟨rfl, hb3⟩))
  have hxl : Pl.sumOf l ^^^ q < 4294967296 := Pl.xlt hsl hnl
  have hb03 := hb02.trans (hb3.mono hb02.size)
  have hown3 := ownsRow_below hown2 hb3
  clear hown2 hb3 hb02 HC HB
  generalize hW : Pl.sumOf l ^^^ q = W at *
  have HW : Hid (Pl.sumOf l ^^^ q = W) := hW
  clear hW
  go_wp2
  go_loopw [15] (fun i wr => ∃ k : Nat, k ≤ 4 ∧ i = .int .i64 k ∧ wr.ownsRow w.heap.size 49 1 (.slice (some ⟨w.heap.size, 0, none⟩) 4 4) 4 (u8s (part W k)) ∧ Below w.heap.size w wr) (fun i _ => 4 - (intOf i).toNat)
  case atStart => exact ⟨0, Nat.zero_le _, rfl, hown3, hb03⟩
  case round =>
    obtain ⟨k, hk, rfl, hr1, hbr⟩ := hrel
    have hfz := hr1.frozenAt k
    by_cases hlt : k < 4
    · have hst := fun z => hr1.stored k (.int .u8 z)
      obtain ⟨z, hc⟩ : ∃ z, wr.cell? ⟨w.heap.size, k, none⟩ = some z := ⟨(u8s (part W k))[k]'(by simp [part_len, hlt]), by rw [hr1.cellAt k (by omega), List.getElem?_eq_getElem]⟩
      have hv := part_val W k hlt
      have HO := hst ((W : Int) / 2 ^ (8 * k) % 256)
      have HO1 : (wr.setCell ⟨w.heap.size, k, none⟩ (.int .u8 ((W : Int) / 2 ^ (8 * k) % 256))).ownsRow w.heap.size 49 1 (.slice (some ⟨w.heap.size, 0, none⟩) 4 4) 4 (u8s (part W (k + 1))) := by rw [← hv]; exact HO.1
      have HB1 := hbr.grown HO.2 hbr.size (fun q hq => by simp at hq; omega)
      clear HO hst hv
      go_wp2
      go_roundw
      case rel => exact ⟨k + 1, by omega, by go_num, HO1, HB1⟩
      case measure => simp [intOf]; omega
    · obtain rfl : k = 4 := by omega
      go_wp2
      go_ret
      exact ⟨_, rfl, by rw [HQ.out, HW.out]; exact Seg.own (l := Pl.four W) hr1, hbr⟩
end Go.Proofs.Ytfbgbgblbkiniaa
