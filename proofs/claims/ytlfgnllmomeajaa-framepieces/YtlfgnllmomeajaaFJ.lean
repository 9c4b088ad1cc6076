/- frame: a buffer on its way: hold, release, lose, miss. -/
import Derived.Test.YtlfgnllmomeajaaFG
namespace Go.Proofs.Ytlfgnllmomeajaa
open Go.RowKit

/-- A buffer on its way in block n, its rows from block B on. -/
def Way (B n : Nat) (w : World) (held : List Int) (lost : Bool) (pays : List (List Int)) (fault : Int) : Prop :=
  ∃ hv pv, w.heap[n]? = some (.cells #[hv, .bool lost, pv, .int .i64 fault] 75 (0, 0)) ∧ Part w 5 hv (u8s held) ∧ Since B hv ∧ hv.ownBlock ≠ some n ∧ B ≤ n ∧ Pays (fun k => Span B w k ∧ k ≠ n ∧ hv.ownBlock ≠ some k) w pv pays

theorem box_facts {w : World} {n : Nat} {a b c d : Value} (h : w.heap[n]? = some (.cells #[a, b, c, d] 75 (0, 0))) :
    w.cell? ⟨n, 0, none⟩ = some a ∧ w.cell? ⟨n, 1, none⟩ = some b ∧ w.cell? ⟨n, 2, none⟩ = some c ∧ w.cell? ⟨n, 3, none⟩ = some d ∧ (∀ k, w.frozen? ⟨n, k, none⟩ = false) ∧ n < w.heap.size := by
  refine ⟨by rw [cell_of_row w n 0 _ 75 (0, 0) h]; rfl, by rw [cell_of_row w n 1 _ 75 (0, 0) h]; rfl, by rw [cell_of_row w n 2 _ 75 (0, 0) h]; rfl, by rw [cell_of_row w n 3 _ 75 (0, 0) h]; rfl, fun k => frozen_of_row w n k _ 75 h, ?_⟩
  rcases Nat.lt_or_ge n w.heap.size with hlt | hge
  · exact hlt
  · rw [Array.getElem?_eq_none hge] at h; cases h
theorem Part.shape {w : World} {e : TypeId} {v : Value} {xs : List Value} (h : Part w e v xs) : ∃ a c n, v = .slice a n c ∧ n = xs.length := by
  rcases h with ⟨rfl, rfl⟩ | ⟨g, off, cap, cur, rfl, _⟩
  · exact ⟨none, 0, 0, rfl, rfl⟩
  · exact ⟨_, cap, _, rfl, rfl⟩
theorem grown_set (w : World) (n k : Nat) (u : Value) : w.grownBy (w.setCell ⟨n, k, none⟩ u) (some n) :=
  ⟨rfl, rfl, rfl, by simp, fun j _ hj => heap_setCell_other w ⟨n, k, none⟩ j u (fun e => hj (by simp [e]))⟩

set_option maxHeartbeats 1000000 in
theorem hold_any (B n : Nat) (w : World) (held : List Int) (lost : Bool) (pays : List (List Int)) (fault : Int) (u : Value) (piece : List Int) (hW : Way B n w held lost pays fault) (hs : Seg .u8 w u piece) (hlen : held.length + piece.length ≤ 140737488355328) :
    Calls Try.prog 46 #[.pointer (some ⟨n, 0, none⟩), u] w fun e w' => e = .returned (.tuple #[]) ∧ Way B n w' (held ++ piece) lost pays fault ∧ Below B w w' := by
  obtain ⟨hv, pv, hbx, hP, hsi, hne, hBn, hpay⟩ := hW
  obtain ⟨c0, c1, c2, c3, hfz, hlt⟩ := box_facts hbx
  have hf0 := hfz 0
  clear hfz
  go_enter Try.func46, Try.ntmps46
  go_wp2_with (at_builtin; refine wpList_append_oct _ rfl (.tmp 8) (.tmp 9) rfl hv u held piece rfl rfl hP hs hlen ?_; intro v' w1 hP1 hg1 hm1; have hbx1 := (hg1.block n hlt (fun e => hne e.symm)).trans hbx; obtain ⟨d0, d1, d2, d3, hfz1, hlt1⟩ := box_facts hbx1; have hf1 := hfz1 0; clear hfz1; obtain ⟨a1, k1, n1, rfl, hn1⟩ := hP1.shape; clear hn1)
  go_end0
  have hsz := hg1.size
  have hne1 : (Value.slice a1 n1 k1).ownBlock ≠ some n := by
    intro he
    rcases hm1 with h | ⟨j, h, hj⟩
    · exact hne (by rw [← h]; exact he)
    · rw [he] at h
      cases h
      omega
  have hsi1 := hm1.since hsi (by omega)
  have hgs := grown_set w1 n 0 (.slice a1 n1 k1)
  refine ⟨rfl, ⟨_, pv, heap_setCell_same w1 n 0 _ 75 _ hbx1, hP1.kept hgs (.inr hne1), hsi1, hne1, hBn, ?_⟩, ((Below.refl B w).grown hg1 (by omega) hsi).setCell hBn _⟩
  refine ((hpay.kept hg1 fun k hk => hk.2.2).kept hgs fun k hk he => hk.2.1 (by cases he; rfl)).mono fun k hk => ⟨hk.1.grow (by simp; omega), hk.2.1, fun he => ?_⟩
  rcases hm1 with h | ⟨j, h, hj⟩
  · exact hk.2.2 (by rw [← h]; exact he)
  · rw [he] at h
    cases h
    have := hk.1.2
    omega

set_option maxHeartbeats 1000000 in
theorem release_any (B n : Nat) (w : World) (held : List Int) (lost : Bool) (pays : List (List Int)) (fault : Int) (k : Nat) (hW : Way B n w held lost pays fault) (hk : k ≤ held.length) :
    Calls Try.prog 47 #[.pointer (some ⟨n, 0, none⟩), .int .i64 k] w fun e w' => e = .returned (.tuple #[]) ∧ Way B n w' (held.drop k) lost pays fault ∧ Below B w w' := by
  obtain ⟨hv, pv, hbx, hP, hsi, hne, hBn, hpay⟩ := hW
  obtain ⟨c0, c1, c2, c3, hfz, hlt⟩ := box_facts hbx
  have hf0 := hfz 0
  clear hfz
  obtain ⟨v', hsl, hP', hob, a1, k1, n1, hv'⟩ : ∃ v', (Instr.sliceAt 22 hv (some (.int .i64 k)) none none).run Try.prog w = .ok v' w ∧ Part w 5 v' (u8s (held.drop k)) ∧ v'.ownBlock = hv.ownBlock ∧ ∃ a1 k1 n1, v' = .slice a1 n1 k1 := by
    rcases id hP with ⟨rfl, hx⟩ | ⟨g, off, cap, cur, rfl, hg, hle, hm, hs, ht⟩
    · have : held = [] := by simpa using hx
      subst this
      obtain rfl : k = 0 := by simpa using hk
      exact ⟨_, run_tail_none w, by simpa using hP, rfl, _, _, _, rfl⟩
    · rw [List.length_map] at hP hle ⊢
      have h1 := hP.tail k hk
      rw [← List.map_drop] at h1
      exact ⟨_, run_tail_some w g off held.length cap k hk hle, h1, rfl, _, _, _, rfl⟩
  subst hv'
  go_enter Try.func47, Try.ntmps47
  go_wp2_with fail
  go_end0
  have hne1 : (Value.slice a1 n1 k1).ownBlock ≠ some n := by rw [hob]; exact hne
  have hgs := grown_set w n 0 (.slice a1 n1 k1)
  refine ⟨rfl, ⟨_, pv, heap_setCell_same w n 0 _ 75 _ hbx, hP'.kept hgs (.inr hne1), fun j hj => hsi j (by rw [← hob]; exact hj), hne1, hBn, ?_⟩, (Below.refl B w).setCell hBn _⟩
  exact (hpay.kept hgs fun k hk he => hk.2.1 (by cases he; rfl)).mono fun k hk => ⟨hk.1.grow (by simp), hk.2.1, by rw [hob]; exact hk.2.2⟩

set_option maxHeartbeats 1000000 in
theorem lose_any (B n : Nat) (w : World) (held : List Int) (lost : Bool) (pays : List (List Int)) (fault : Int) (hW : Way B n w held lost pays fault) :
    Calls Try.prog 48 #[.pointer (some ⟨n, 0, none⟩)] w fun e w' => e = .returned (.tuple #[]) ∧ Way B n w' [] true pays fault ∧ Below B w w' := by
  obtain ⟨hv, pv, hbx, hP, hsi, hne, hBn, hpay⟩ := hW
  obtain ⟨c0, c1, c2, c3, hfz, hlt⟩ := box_facts hbx
  have hf0 := hfz 0
  have hf1 := hfz 1
  clear hfz
  go_enter Try.func48, Try.ntmps48
  go_wp2_with fail
  go_end0
  have hg1 := grown_set w n 0 (.slice none 0 0)
  have hg2 := grown_set (w.setCell ⟨n, 0, none⟩ (.slice none 0 0)) n 1 (.bool true)
  refine ⟨rfl, ⟨_, pv, heap_setCell_same _ n 1 _ 75 _ (heap_setCell_same w n 0 _ 75 _ hbx), .inl ⟨rfl, rfl⟩, fun j hj => by simp [Value.ownBlock] at hj, by simp [Value.ownBlock], hBn, ?_⟩, ((Below.refl B w).setCell hBn _).setCell hBn _⟩
  exact ((hpay.kept hg1 fun k hk he => hk.2.1 (by cases he; rfl)).kept hg2 fun k hk he => hk.2.1 (by cases he; rfl)).mono fun k hk => ⟨hk.1.grow (by simp), hk.2.1, by simp [Value.ownBlock]⟩

set_option maxHeartbeats 1000000 in
theorem miss_any (B n : Nat) (w : World) (held : List Int) (lost : Bool) (pays : List (List Int)) (fault : Int) (u : Value) (piece : List Int) (hW : Way B n w held lost pays fault) (hs : Seg .u8 w u piece) :
    Calls Try.prog 45 #[.pointer (some ⟨n, 0, none⟩), u] w fun e w' => e = .returned (.tuple #[]) ∧ Way B n w' held lost pays (if fault = 0 ∧ 0 < piece.length then 21 else fault) ∧ Below B w w' := by
  have hW0 := hW
  obtain ⟨hv, pv, hbx, hP, hsi, hne, hBn, hpay⟩ := hW
  obtain ⟨c0, c1, c2, c3, hfz, hlt⟩ := box_facts hbx
  have hf3 := hfz 3
  clear hfz
  obtain ⟨a, c, hu, h1, h2, h3, h4⟩ := hs
  clear h3 h4
  generalize piece.length = pn at hu h1 ⊢
  subst hu
  by_cases h0 : fault = 0
  · subst h0
    by_cases hp : 0 < pn
    · rw [if_pos ⟨rfl, hp⟩]
      go_enter Try.func45, Try.ntmps45
      go_wp2_with fail
      go_end0
      have hg1 := grown_set w n 3 (.int .i64 21)
      refine ⟨rfl, ⟨_, pv, heap_setCell_same w n 3 _ 75 _ hbx, hP.kept hg1 (.inr hne), hsi, hne, hBn, ?_⟩, (Below.refl B w).setCell hBn _⟩
      exact (hpay.kept hg1 fun k hk he => hk.2.1 (by cases he; rfl)).mono fun k hk => ⟨hk.1.grow (by simp), hk.2⟩
    · rw [if_neg (fun h => hp h.2)]
      go_enter Try.func45, Try.ntmps45
      go_wp2_with fail
      go_end0
      exact ⟨rfl, hW0, Below.refl _ _⟩
  · rw [if_neg (fun h => h0 h.1)]
    have hb0 : (fault == 0) = false := by simp; exact h0
    go_enter Try.func45, Try.ntmps45
    go_wp2_with fail
    go_end0
    exact ⟨rfl, hW0, Below.refl _ _⟩
end Go.Proofs.Ytlfgnllmomeajaa
