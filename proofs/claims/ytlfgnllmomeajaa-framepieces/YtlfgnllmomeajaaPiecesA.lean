/- Towards FramePieces: the payloads that are put; one piece of frames fed; boxes; tails. -/
import Derived.Test.YtlfgnllmomeajaaOpenC
import Derived.Test.YtlfgnllmomeajaaSL
import Derived.Test.YtlfgnllmomeajaaStep
import Derived.Deep.DeepCutAuto
namespace Go.Proofs.Ytlfgnllmomeajaa.framePieces
open Go.ChangeShapes Go.WideShapes Go.ChangeAt Go.RowKit
open Go.ChangeMaps (open_string shut_string)

/-- The payloads that are put. -/
def cutTo (ls : List (List Int)) : List (List Int) := (ls.take 6).map (List.take 600)

theorem cut_len (ls : List (List Int)) : (cutTo ls).length = min ls.length 6 := by
  unfold cutTo
  rw [List.length_map, List.length_take]
  omega
theorem cut_at (ls : List (List Int)) (k : Nat) (h : k < ls.length) (h6 : k < 6) : (cutTo ls).getD k [] = (ls.getD k []).take 600 := by
  unfold cutTo
  simp [List.getD, h, h6]
theorem frames_succ {ls : List (List Int)} {k : Nat} (h : k < ls.length) : Pl.framesOf (ls.take (k + 1)) = Pl.framesOf (ls.take k) ++ Pl.frameOf (ls.getD k []) := by
  rw [take_succ_getD h]
  simp [Pl.framesOf]
theorem frames_small (ls : List (List Int)) (k : Nat) : (Pl.framesOf ((cutTo ls).take k)).length ≤ 3690 := by
  have key : ∀ ms : List (List Int), (∀ p ∈ ms, p.length ≤ 600) → (Pl.framesOf ms).length ≤ 615 * ms.length := by
    intro ms hm
    induction ms with
    | nil => simp [Pl.framesOf]
    | cons p r ih =>
      have h1 := Pl.frame_len p
      have h2 := Pl.enc_len_le 9 p.length
      have h3 := hm p (by simp)
      have h4 := ih (fun q hq => hm q (by simp [hq]))
      simp only [Pl.framesOf, List.flatMap_cons, List.length_append, List.length_cons] at h4 ⊢
      omega
  have h1 := key ((cutTo ls).take k) (by
    intro p hp
    have hp := List.mem_of_mem_take hp
    unfold cutTo at hp
    obtain ⟨q, _, rfl⟩ := List.mem_map.1 hp
    rw [List.length_take]
    omega)
  have h2 := cut_len ls
  rw [List.length_take] at h1
  have h3 : min k (cutTo ls).length ≤ 6 := by omega
  have h4 : 615 * min k (cutTo ls).length ≤ 615 * 6 := Nat.mul_le_mul_left _ h3
  omega
theorem fits_of {p : List Int} (h : Pl.errP p = 0) (ho : Pl.Octs p) : Pl.fits p := by
  unfold Pl.errP at h
  refine ⟨?_, ?_, ho⟩ <;> (split at h <;> first | (simp at h) | (split at h <;> simp_all))
  all_goals omega
theorem seg_head {w : World} {a : Option Addr} {n c m : Nat} {l : List Int} (h : Seg .u8 w (.slice a n c) l) (hm : m ≤ l.length) : Seg .u8 w (.slice a m c) (l.take m) := by
  obtain ⟨a', c', he, h1, h2, h3, h4⟩ := h
  simp only [Value.slice.injEq] at he
  obtain ⟨rfl, rfl, rfl⟩ := he
  have hl : (l.take m).length = m := by rw [List.length_take]; omega
  refine ⟨a, c, by rw [hl], by omega, h2, fun e => ?_, fun x hx i hi => ?_⟩
  · obtain ⟨rfl, rfl⟩ := h3 e
    exact ⟨by simp, rfl⟩
  · rw [hl] at hi
    rw [h4 x hx i (by omega)]
    simp [List.getD, hi]

/-- A box of a buffer. -/
def Box (t : TypeId) (b : Nat) (w : World) (x y : Value) : Prop := w.heap[b]? = some (.cells #[x, y] t (0, 0))
theorem Box.new (t : TypeId) (w : World) (x y : Value) : Box t w.heap.size (w.alloc (.cells #[x, y] t)) x y := heap_alloc_new _ _
theorem Box.facts {t : TypeId} {b : Nat} {w : World} {x y : Value} (h : Box t b w x y) : w.cell? ⟨b, 0, none⟩ = some x ∧ w.cell? ⟨b, 1, none⟩ = some y ∧ b < w.heap.size ∧ w.frozen? ⟨b, 0, none⟩ = false ∧ w.frozen? ⟨b, 1, none⟩ = false := by
  refine ⟨by rw [cell_of_row w b 0 _ t (0, 0) h]; rfl, by rw [cell_of_row w b 1 _ t (0, 0) h]; rfl, ?_, frozen_of_row w _ 0 _ t h, frozen_of_row w _ 1 _ t h⟩
  rcases Nat.lt_or_ge b w.heap.size with hlt | hge
  · exact hlt
  · unfold Box at h; rw [Array.getElem?_eq_none hge] at h; cases h
theorem Box.below {t : TypeId} {b B : Nat} {w w' : World} {x y : Value} (h : Box t b w x y) (hb : Below B w w') (hB : b < B) : Box t b w' x y := (hb.block b hB).trans h
theorem Box.kept {t : TypeId} {b : Nat} {w w' : World} {x y : Value} {row : Option Nat} (h : Box t b w x y) (hg : w.grownBy w' row) (hne : row ≠ some b) : Box t b w' x y := (hg.block b h.facts.2.2.1 (fun e => hne e.symm)).trans h
theorem octs_frames {ls : List (List Int)} (h : ∀ p ∈ ls, Pl.fits p) : Pl.Octs (Pl.framesOf ls) := by
  intro z hz
  simp only [Pl.framesOf, List.mem_flatMap] at hz
  obtain ⟨p, hp, hz⟩ := hz
  exact octs_frame' (h p hp) z hz

theorem tail_all {w : World} {v : Value} {l : List Int} (h : Seg .u8 w v l) (k : Nat) (hk : k ≤ l.length) :
    ∃ v', (∀ W, (Instr.sliceAt 22 v (some (.int .i64 k)) none none).run Try.prog W = .ok v' W) ∧ Seg .u8 w v' (l.drop k) := by
  obtain ⟨a, cap, rfl, h1, h2, h3, h4⟩ := h
  rcases a with _ | x
  · obtain ⟨rfl, rfl⟩ := h3 rfl
    obtain rfl : k = 0 := by simpa using hk
    exact ⟨_, fun W => run_tail_none W, by simpa using Seg.nil _ _⟩
  · by_cases hkl : k = l.length
    · subst hkl
      refine ⟨.slice (some (if cap = l.length then x else Addr.add x l.length)) 0 (cap - l.length), fun W => ?_, ?_⟩
      · unfold maxLen at h2
        by_cases hc : cap = l.length
        · have h5 : cap - l.length = 0 := by omega
          go_simp
        · have h5 : ¬ cap - l.length = 0 := by omega
          go_simp
      · rw [List.drop_length]
        exact seg_zero _ _ _ (by omega)
    · obtain ⟨b, off, hx, hb, hc⟩ := seg_at (w := w) (l := l) (a := some x) (cap := cap) (by omega) h3 h4
      cases hx
      refine ⟨_, fun W => run_tail_some W b off l.length cap k hk h1, ?_⟩
      rw [if_neg (by omega)]
      have := seg_part (w := w) (b := b) (off := off) (cap := cap) (l := l) k (l.length - k) (by omega) h1 h2 hc
      rw [List.take_of_length_le (by rw [List.length_drop]; omega)] at this
      exact this

/-- One piece of frames: what is told, what is left. -/
theorem piece_fd (PL : List (List Int)) (j : Nat) (held piece rest' : List Int) (hF : ∀ p ∈ PL, Pl.fits p) (h : held ++ piece ++ rest' = Pl.framesOf (PL.drop j)) :
    ∃ i held', j + i ≤ max j PL.length ∧ Pl.fd (held, false, [], 0) piece = (held', false, (PL.drop j).take i, 0) ∧ (Pl.getF held').2.2 = 71 ∧ held' ++ rest' = Pl.framesOf (PL.drop (j + i)) ∧ held'.length ≤ held.length + piece.length ∧ PL.take (j + i) = PL.take j ++ (PL.drop j).take i := by
  obtain ⟨i, hi, h1, h2, h3⟩ := Pl.scanF_prefix (PL.drop j) (held ++ piece) rest' (fun p hp => hF p (List.mem_of_mem_drop hp)) h
  rw [List.length_drop] at hi
  refine ⟨i, _, by omega, ?_, h2, by rw [h3, List.drop_drop], by rw [List.length_drop, List.length_append]; omega, List.take_add⟩
  unfold Pl.fd
  simp only [Bool.false_eq_true, if_false, List.nil_append]
  rw [h1]
  simp
theorem last_fd (PL : List (List Int)) (j : Nat) (held rest : List Int) (hF : ∀ p ∈ PL, Pl.fits p) (h : held ++ rest = Pl.framesOf (PL.drop j)) :
    Pl.fd (held, false, [], 0) rest = ([], false, PL.drop j, 0) := by
  have h1 := Pl.scanF_frames (PL.drop j) [] (fun p hp => hF p (List.mem_of_mem_drop hp)) (by rw [Pl.getF_nil])
  rw [List.append_nil, ← h] at h1
  unfold Pl.fd
  simp only [Bool.false_eq_true, if_false, List.nil_append]
  rw [h1]
  simp

end Go.Proofs.Ytlfgnllmomeajaa.framePieces
