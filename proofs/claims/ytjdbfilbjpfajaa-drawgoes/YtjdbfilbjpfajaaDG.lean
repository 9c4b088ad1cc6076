/- draw: Below and Shuffle, of any arguments; alive. -/
import Derived.Test.YtjdbfilbjpfajaaDF
namespace Go.Proofs.Ytjdbfilbjpfajaa
open Go.RowKit
set_option maxRecDepth 20000

def belS (s : Nat) (l : List Int) : Nat := if l.any badB = true then 0 else Hp.skip s l.length
def belL (s : Nat) (l : List Int) : List Int := if l.any badB = true then [] else bel s l
def belE (l : List Int) : Int := if l.any badB = true then 4 else 0
abbrev shufOk (n : Int) : Prop := 0 ≤ n ∧ n ≤ 1024
def shufS (s : Nat) (n : Int) : Nat := if shufOk n then Hp.skip s (n.toNat - 1) else 0
def shufL (s : Nat) (n : Int) : List Int := if shufOk n then (Hp.order s n.toNat).map Int.ofNat else []
def shufE (n : Int) : Int := if shufOk n then 0 else 4

theorem seg_row {w : World} {B : Nat} {v : Value} {l : List Int} (h : w.ownsRow B 3 1 v l.length (i64s l)) : Seg .i64 w v l := Seg.own h

theorem below_any (s : Nat) (v : Value) (l : List Int) (w : World) (hs : s < 18446744073709551616) (hv : Seg .i64 w v l) (hlen : l.length ≤ 1000000) :
    Calls Try.prog 11 #[.int .u64 s, v] w fun e w' => ∃ v', e = .returned (.tuple #[.int .u64 (belS s l : Nat), v', .int .i64 (belE l)]) ∧ Seg .i64 w' v' (belL s l) ∧ Below w.heap.size w w' := by
  by_cases hg : l.any badB = true
  · refine (below_bad s v l w hv hg).mono ?_
    rintro e w' ⟨rfl, rfl⟩
    refine ⟨.slice none 0 0, ?_, ?_, Below.refl _ _⟩
    · rw [belS, belE, if_pos hg, if_pos hg]; rfl
    · rw [belL, if_pos hg]; exact Seg.nil _ _
  · refine (below_good s v l w hs hv hlen (by simpa using hg)).mono ?_
    rintro e w' ⟨v', rfl, hr, hb⟩
    refine ⟨v', ?_, ?_, hb⟩
    · rw [belS, belE, if_neg hg, if_neg hg]
    · rw [belL, if_neg hg]; exact seg_row (by rw [bel_length]; exact hr)
theorem rbelow_any (s : Nat) (v : Value) (l : List Int) (w : World) (hs : s < 18446744073709551616) (hv : Seg .i64 w v l) (hlen : l.length ≤ 1000000) :
    Calls Try.prog 12 #[.int .u64 s, v] w fun e w' => ∃ v', e = .returned (.tuple #[.int .u64 (belS s l : Nat), v', .int .i64 (belE l)]) ∧ Seg .i64 w' v' (belL s l) ∧ Below w.heap.size w w' := by
  by_cases hg : l.any badB = true
  · refine (rbelow_bad s v l w hv hg).mono ?_
    rintro e w' ⟨rfl, rfl⟩
    refine ⟨.slice none 0 0, ?_, ?_, Below.refl _ _⟩
    · rw [belS, belE, if_pos hg, if_pos hg]; rfl
    · rw [belL, if_pos hg]; exact Seg.nil _ _
  · refine (rbelow_good s v l w hs hv hlen (by simpa using hg)).mono ?_
    rintro e w' ⟨v', rfl, hr, hb⟩
    refine ⟨v', ?_, ?_, hb⟩
    · rw [belS, belE, if_neg hg, if_neg hg]
    · rw [belL, if_neg hg]; exact seg_row (by rw [bel_length]; exact hr)
theorem order_ints (s n : Nat) : ((Hp.order s n).map Int.ofNat).length = n := by rw [List.length_map, Hp.order_length]
theorem shuffle_any (s : Nat) (n : Int) (w : World) (hs : s < 18446744073709551616) :
    Calls Try.prog 22 #[.int .u64 s, .int .i64 n] w fun e w' => ∃ v', e = .returned (.tuple #[.int .u64 (shufS s n : Nat), v', .int .i64 (shufE n)]) ∧ Seg .i64 w' v' (shufL s n) ∧ Below w.heap.size w w' := by
  by_cases hg : shufOk n
  · obtain ⟨N, rfl⟩ := Int.eq_ofNat_of_zero_le hg.1
    refine (shuffle_good s N w hs (by have := hg.2; omega)).mono ?_
    rintro e w' ⟨v', rfl, hr, hb⟩
    refine ⟨v', ?_, ?_, hb⟩
    · rw [shufS, shufE, if_pos hg, if_pos hg, Int.toNat_natCast]
    · rw [shufL, if_pos hg, Int.toNat_natCast]
      rw [nrow_ints] at hr
      exact seg_row (by rw [order_ints]; exact hr)
  · refine (shuffle_bad s n w hg).mono ?_
    rintro e w' ⟨rfl, rfl⟩
    refine ⟨.slice none 0 0, ?_, ?_, Below.refl _ _⟩
    · rw [shufS, shufE, if_neg hg, if_neg hg]; rfl
    · rw [shufL, if_neg hg]; exact Seg.nil _ _
theorem rshuffle_any (s : Nat) (n : Int) (w : World) (hs : s < 18446744073709551616) :
    Calls Try.prog 23 #[.int .u64 s, .int .i64 n] w fun e w' => ∃ v', e = .returned (.tuple #[.int .u64 (shufS s n : Nat), v', .int .i64 (shufE n)]) ∧ Seg .i64 w' v' (shufL s n) ∧ Below w.heap.size w w' := by
  by_cases hg : shufOk n
  · obtain ⟨N, rfl⟩ := Int.eq_ofNat_of_zero_le hg.1
    refine (rshuffle_good s N w hs (by have := hg.2; omega)).mono ?_
    rintro e w' ⟨v', rfl, hr, hb⟩
    refine ⟨v', ?_, ?_, hb⟩
    · rw [shufS, shufE, if_pos hg, if_pos hg, Int.toNat_natCast]
    · rw [shufL, if_pos hg, Int.toNat_natCast]
      rw [nrow_ints] at hr
      exact seg_row (by rw [order_ints]; exact hr)
  · refine (rshuffle_bad s n w hg).mono ?_
    rintro e w' ⟨rfl, rfl⟩
    refine ⟨.slice none 0 0, ?_, ?_, Below.refl _ _⟩
    · rw [shufS, shufE, if_neg hg, if_neg hg]; rfl
    · rw [shufL, if_neg hg]; exact Seg.nil _ _
theorem below2_any (s : Nat) (a b : Int) (w : World) (hs : s < 18446744073709551616) :
    Calls Try.prog 11 #[.int .u64 s, .slice (some ⟨w.heap.size, 0, none⟩) 2 2] (w.alloc (.cells #[.int .i64 a, .int .i64 b] 3)) fun e w' => ∃ v', e = .returned (.tuple #[.int .u64 (belS s [a, b] : Nat), v', .int .i64 (belE [a, b])]) ∧ Seg .i64 w' v' (belL s [a, b]) ∧ Below w.heap.size w w' := by
  refine (below_any s _ [a, b] _ hs (seg_new w [a, b] _ (by simp)) (by simp)).mono ?_
  rintro e w' ⟨v', rfl, h1, h2⟩
  exact ⟨v', rfl, h1, Below.step ((Below.refl _ w).alloc (Nat.le_refl _) _) h2⟩
theorem below1_any (s : Nat) (a : Int) (w : World) (hs : s < 18446744073709551616) :
    Calls Try.prog 11 #[.int .u64 s, .slice (some ⟨w.heap.size, 0, none⟩) 1 1] (w.alloc (.cells #[.int .i64 a] 3)) fun e w' => ∃ v', e = .returned (.tuple #[.int .u64 (belS s [a] : Nat), v', .int .i64 (belE [a])]) ∧ Seg .i64 w' v' (belL s [a]) ∧ Below w.heap.size w w' := by
  refine (below_any s _ [a] _ hs (seg_new w [a] _ (by simp)) (by simp)).mono ?_
  rintro e w' ⟨v', rfl, h1, h2⟩
  exact ⟨v', rfl, h1, Below.step ((Below.refl _ w).alloc (Nat.le_refl _) _) h2⟩

theorem alive_v (w : World) (s t : Nat) (E F : Int) (L M : List Int) (hs : s = 5) (hE : E = 0) (hF : F = 0) (hL : L = [0]) (hM : M.length = 2)
    (C1 : ∀ w : World, Calls Try.prog 22 #[.int .u64 5, .int .i64 1] w fun e w' => ∃ v', e = .returned (.tuple #[.int .u64 s, v', .int .i64 E]) ∧ Seg .i64 w' v' L ∧ Below w.heap.size w w')
    (C2 : ∀ w : World, Calls Try.prog 11 #[.int .u64 5, .slice (some ⟨w.heap.size, 0, none⟩) 2 2] (w.alloc (.cells #[.int .i64 1, .int .i64 1] 3)) fun e w' => ∃ v', e = .returned (.tuple #[.int .u64 t, v', .int .i64 F]) ∧ Seg .i64 w' v' M ∧ Below w.heap.size w w') :
    Calls Try.prog 21 #[] w fun e w' => e = .returned (.bool true) ∧ Below w.heap.size w w' := by
  subst hs hE hF hL
  go_enter Try.func21, Try.ntmps21
  go_wp2_with fail
  with_reducible refine (C1 w).mono ?_
  rintro e w1 ⟨v1, rfl, h1, b1⟩
  go_wp2_with fail
  with_reducible refine (C2 w1).mono ?_
  rintro e w2 ⟨v2, rfl, h2, b2⟩
  have c3 := sameInts_any v1 _ [0] [0] _ (h1.below (b2.alloc (o := .cells #[.int .i64 0] 3) b2.size)) (seg_one w2 0)
  obtain ⟨a2, cap2, rfl, _⟩ := h2
  rw [hM]
  go_wp2_with (first | (go_at_call 16; refine (num_any _ _).mono ?_; rintro e w3 ⟨rfl, rfl⟩) | (go_at_call 15; refine c3.mono ?_; rintro e w3 ⟨rfl, b3⟩))
  go_ret
  exact ⟨rfl, Below.step (Below.step (Below.step b1 b2) ((Below.refl _ w2).alloc (Nat.le_refl _) _)) b3⟩
theorem alive_any (w : World) : Calls Try.prog 21 #[] w fun e w' => e = .returned (.bool true) ∧ Below w.heap.size w w' :=
  alive_v w (shufS 5 1) (belS 5 [1, 1]) (shufE 1) (belE [1, 1]) (shufL 5 1) (belL 5 [1, 1]) (by decide +kernel) (by decide) (by decide) (by decide +kernel) (by rw [belL, if_neg (by decide), bel_length]; rfl)
    (fun w => shuffle_any 5 1 w (by decide)) (fun w => below2_any 5 1 1 w (by decide))
end Go.Proofs.Ytjdbfilbjpfajaa
