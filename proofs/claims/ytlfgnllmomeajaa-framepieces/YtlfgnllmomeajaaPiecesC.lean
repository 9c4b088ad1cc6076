/- Towards FramePieces: boxes, rows and lists of texts that keep apart. -/
import Derived.Test.YtlfgnllmomeajaaPiecesA
namespace Go.Proofs.Ytlfgnllmomeajaa.framePieces
open Go.RowKit

theorem own_zero {w : World} {B : Nat} {x : Value} {n : Nat} {xs : List Value} (h : w.ownsRow B 5 1 x n xs) : w.ownsRow 0 5 1 x n xs := by
  refine ⟨h.1, ?_⟩
  rcases h.2 with h0 | ⟨g, cap, cur, hv, _, hr⟩
  · exact .inl h0
  · exact .inr ⟨g, cap, cur, hv, Nat.zero_le _, hr⟩
theorem own_other {w : World} {B : Nat} {x : Value} {n : Nat} {xs : List Value} (h : w.ownsRow B 5 1 x n xs) {b : Nat} {cs : Array Value} {T : TypeId} (hb : w.heap[b]? = some (.cells cs T (0, 0))) (hT : T ≠ 5) : x.ownBlock ≠ some b := by
  intro he
  rcases h.2 with ⟨rfl, _⟩ | ⟨g, cap, cur, rfl, _, hg, _⟩
  · simp [Value.ownBlock] at he
  · simp [Value.ownBlock] at he
    subst he
    rw [hg] at hb
    simp at hb
    exact hT hb.2.symm
theorem own_seg {w : World} {B : Nat} {x : Value} {l : List Int} (h : w.ownsRow B 5 1 x l.length (u8s l)) : Seg .u8 w x l := Seg.own h
/-- A list of texts lies in a block of another type than octets. -/
theorem own_apart {w : World} {B : Nat} {x v : Value} {n : Nat} {xs : List Value} {Q : Nat → Prop} {ls : List (List Int)} (h : w.ownsRow B 5 1 x n xs) (hp : Pays Q w v ls) : x.ownBlock = none ∨ x.ownBlock ≠ v.ownBlock := by
  obtain ⟨vs, hP, _⟩ := hp
  rcases hP with ⟨rfl, _⟩ | ⟨g, off, cap, cur, rfl, hg, _⟩
  · cases hx : x.ownBlock with
    | none => exact .inl rfl
    | some k => exact .inr (by simp [Value.ownBlock])
  · exact .inr (own_other h hg (by decide))
theorem box_apart {w : World} {b : Nat} {x y v : Value} {Q : Nat → Prop} {ls : List (List Int)} (h : Box 45 b w x y) (hp : Pays Q w v ls) : v.ownBlock ≠ some b := by
  intro he
  obtain ⟨vs, hP, _⟩ := hp
  rcases hP with ⟨rfl, _⟩ | ⟨g, off, cap, cur, rfl, hg, _⟩
  · simp [Value.ownBlock] at he
  · simp [Value.ownBlock] at he
    subst he
    unfold Box at h
    rw [hg] at h
    simp at h

/-- What Feed told, stored into a box that was there when it was called. -/
theorem first_A {wr W w5 : World} {b : Nat} {x m u y : Value} {hl : List Int} {ms : List (List Int)} (hW : Below wr.heap.size wr W) (hbW : wr.heap.size ≤ b) (hBx : Box 45 b W u y) (hox : w5.ownsRow W.heap.size 5 1 x hl.length (u8s hl)) (hpx : Pays (Span W.heap.size w5) w5 m ms) (hb5 : Below W.heap.size W w5) :
    Box 45 b ((w5.setCell ⟨b, 0, none⟩ x).setCell ⟨b, 1, none⟩ (.bool false)) x (.bool false) ∧ ((w5.setCell ⟨b, 0, none⟩ x).setCell ⟨b, 1, none⟩ (.bool false)).ownsRow 0 5 1 x hl.length (u8s hl) ∧ Pays (Span wr.heap.size ((w5.setCell ⟨b, 0, none⟩ x).setCell ⟨b, 1, none⟩ (.bool false))) ((w5.setCell ⟨b, 0, none⟩ x).setCell ⟨b, 1, none⟩ (.bool false)) m ms ∧ Below wr.heap.size wr ((w5.setCell ⟨b, 0, none⟩ x).setCell ⟨b, 1, none⟩ (.bool false)) := by
  have hbl := hBx.facts.2.2.1
  have hB5 : Box 45 b w5 u y := hBx.below hb5 hbl
  have hg1 := grown_set w5 b 0 x
  have hg2 := grown_set (w5.setCell ⟨b, 0, none⟩ x) b 1 (.bool false)
  have hB6 : Box 45 b (w5.setCell ⟨b, 0, none⟩ x) x y := heap_setCell_same w5 b 0 _ 45 _ hB5
  have hB7 : Box 45 b ((w5.setCell ⟨b, 0, none⟩ x).setCell ⟨b, 1, none⟩ (.bool false)) x (.bool false) := heap_setCell_same _ b 1 _ 45 _ hB6
  have hne := own_other hox hB5 (by decide)
  have hsz := hW.size
  refine ⟨hB7, own_zero ((hox.kept hg1 (.inr hne)).kept hg2 (.inr hne)), ?_, ?_⟩
  · refine ((hpx.kept hg1 fun k hk he => ?_).kept hg2 fun k hk he => ?_).mono fun k hk => ⟨by have := hk.1; omega, by have := hk.2; simp; exact this⟩
    · cases he
      have := hk.1
      omega
    · cases he
      have := hk.1
      omega
  · exact ((hW.trans (hb5.mono hsz)).setCell (p := ⟨b, 0, none⟩) hbW x).setCell (p := ⟨b, 1, none⟩) hbW (.bool false)
/-- What Feed told, in a box that is made behind it. -/
theorem first_B {wr W w5 : World} {x m : Value} {hl : List Int} {ms : List (List Int)} (hW : Below wr.heap.size wr W) (hox : w5.ownsRow W.heap.size 5 1 x hl.length (u8s hl)) (hpx : Pays (Span W.heap.size w5) w5 m ms) (hb5 : Below W.heap.size W w5) :
    Box 45 w5.heap.size (w5.alloc (.cells #[x, .bool false] 45)) x (.bool false) ∧ (w5.alloc (.cells #[x, .bool false] 45)).ownsRow 0 5 1 x hl.length (u8s hl) ∧ Pays (Span wr.heap.size (w5.alloc (.cells #[x, .bool false] 45))) (w5.alloc (.cells #[x, .bool false] 45)) m ms ∧ Below wr.heap.size wr (w5.alloc (.cells #[x, .bool false] 45)) ∧ wr.heap.size ≤ w5.heap.size := by
  have hsz := hW.size
  have hsz5 := hb5.size
  have hal := (Below.refl w5.heap.size w5).alloc (Nat.le_refl _) (.cells #[x, .bool false] 45)
  refine ⟨Box.new 45 w5 x (.bool false), own_zero (ownsRow_below hox hal), (hpx.below hal).mono fun k hk => ⟨by have := hk.1; omega, by have := hk.2; simp; omega⟩, ?_, by omega⟩
  exact (hW.trans (hb5.mono hsz)).alloc (by omega) _
end Go.Proofs.Ytlfgnllmomeajaa.framePieces

namespace Go.Proofs.Ytlfgnllmomeajaa.framePieces
open Go.RowKit
/-- The round's end: the buffer in its box, the payloads behind those that were got. -/
theorem piece_round {wA wr wc w13 : World} {x got v' u y : Value} {hl : List Int} {P0 P : List (List Int)} (hbA : Below wA.heap.size wA wr) (hbx : Below wr.heap.size wr wc) (hszr : wA.heap.size + 1 ≤ wr.heap.size) (hB9E : Box 45 wA.heap.size w13 u y) (hg13 : wc.drew.grownBy w13 got.ownBlock) (hpay : Pays (Span (wA.heap.size + 1) wr) wr got P0)
    (hoxD : wc.drew.ownsRow 0 5 1 x hl.length (u8s hl)) (hapx : x.ownBlock = none ∨ x.ownBlock ≠ got.ownBlock) (hP13 : Pays (fun k => Span (wA.heap.size + 1) wr k ∨ Span wr.heap.size wc k ∨ (wc.drew.heap.size ≤ k ∧ k < w13.heap.size)) w13 v' P) :
    Below wA.heap.size wA ((w13.setCell ⟨wA.heap.size, 0, none⟩ x).setCell ⟨wA.heap.size, 1, none⟩ (.bool false)) ∧ wA.heap.size + 1 ≤ ((w13.setCell ⟨wA.heap.size, 0, none⟩ x).setCell ⟨wA.heap.size, 1, none⟩ (.bool false)).heap.size ∧ Box 45 wA.heap.size ((w13.setCell ⟨wA.heap.size, 0, none⟩ x).setCell ⟨wA.heap.size, 1, none⟩ (.bool false)) x (.bool false) ∧
      ((w13.setCell ⟨wA.heap.size, 0, none⟩ x).setCell ⟨wA.heap.size, 1, none⟩ (.bool false)).ownsRow 0 5 1 x hl.length (u8s hl) ∧ Pays (Span (wA.heap.size + 1) ((w13.setCell ⟨wA.heap.size, 0, none⟩ x).setCell ⟨wA.heap.size, 1, none⟩ (.bool false))) ((w13.setCell ⟨wA.heap.size, 0, none⟩ x).setCell ⟨wA.heap.size, 1, none⟩ (.bool false)) v' P := by
  have hzd : wc.drew.heap.size = wc.heap.size := by simp
  have hsx := hbx.size
  have hs13 := hg13.size
  rw [hzd] at hs13
  have hgs : ∀ k, got.ownBlock = some k → wA.heap.size + 1 ≤ k := by
    intro k hk
    by_cases h : Span (wA.heap.size + 1) wr k
    · exact h.1
    · exact absurd hk (hpay.apart h)
  have hg1 := grown_set w13 wA.heap.size 0 x
  have hg2 := grown_set (w13.setCell ⟨wA.heap.size, 0, none⟩ x) wA.heap.size 1 (.bool false)
  have hB1 : Box 45 wA.heap.size (w13.setCell ⟨wA.heap.size, 0, none⟩ x) x y := heap_setCell_same w13 _ 0 _ 45 _ hB9E
  have hox13 := hoxD.kept hg13 hapx
  have hne := own_other hox13 hB9E (by decide)
  refine ⟨?_, by simp; omega, heap_setCell_same _ _ 1 _ 45 _ hB1, (hox13.kept hg1 (.inr hne)).kept hg2 (.inr hne), ?_⟩
  · have h1 : Below wA.heap.size wA wc.drew := below_drew (hbA.trans (hbx.mono (by omega)))
    have h2 : Below wA.heap.size wA w13 := h1.trans ⟨hg13.os, hg13.tape, hg13.output, hg13.size, fun k hk => hg13.block k (by rw [hzd]; omega) (fun e => by have := hgs k e.symm; omega)⟩
    exact (h2.setCell (p := ⟨wA.heap.size, 0, none⟩) (Nat.le_refl _) x).setCell (p := ⟨wA.heap.size, 1, none⟩) (Nat.le_refl _) (.bool false)
  · have hk9 : ∀ k, (Span (wA.heap.size + 1) wr k ∨ Span wr.heap.size wc k ∨ (wc.drew.heap.size ≤ k ∧ k < w13.heap.size)) → wA.heap.size + 1 ≤ k ∧ k < w13.heap.size := by
      intro k hk
      rcases hk with hk | hk | hk
      · exact ⟨hk.1, by have := hk.2; omega⟩
      · exact ⟨by have := hk.1; omega, by have := hk.2; omega⟩
      · exact ⟨by have := hk.1; rw [hzd] at this; omega, hk.2⟩
    refine ((hP13.kept hg1 fun k hk he => ?_).kept hg2 fun k hk he => ?_).mono fun k hk => ⟨(hk9 k hk).1, by have := (hk9 k hk).2; simp; exact this⟩
    · cases he
      have := (hk9 _ hk).1
      omega
    · cases he
      have := (hk9 _ hk).1
      omega
end Go.Proofs.Ytlfgnllmomeajaa.framePieces
