/- draw: Below and Shuffle, of any arguments; alive. -/
import Derived.Test.YtdgdhhbapgfjgaaDF
namespace Go.Proofs.Ytdgdhhbapgfjgaa
open Go.RowKit
set_option maxRecDepth 20000

def belS (s : Nat) (l : List Int) : Nat := if l.any badB = true then 0 else Hp.skip s l.length
def belL (s : Nat) (l : List Int) : List Int := if l.any badB = true then [] else bel s l
def belE (l : List Int) : Int := if l.any badB = true then 4 else 0
abbrev shufOk (n : Int) : Prop := 0 ≤ n ∧ n ≤ 1024
def shufS (s : Nat) (n : Int) : Nat := if shufOk n then Hp.skip s (n.toNat - 1) else 0
def shufL (s : Nat) (n : Int) : List Int := if shufOk n then (Hp.order s n.toNat).map Int.ofNat else []
def shufE (n : Int) : Int := if shufOk n then 0 else 4

theorem seg_row {w : World} {B : Nat} {v : Value} {l : List Int} (h : w.ownsRow B 3 1 v l.length (i64s l)) : Seg .i64 w v l := Seg.own h

theorem order_ints (s n : Nat) : ((Hp.order s n).map Int.ofNat).length = n := by rw [List.length_map, Hp.order_length]
theorem shuffle_any (s : Nat) (n : Int) (w : World) (hs : s < 18446744073709551616) :
    Calls Try.prog 31 #[.int .u64 s, .int .i64 n] w fun e w' => ∃ v', e = .returned (.tuple #[.int .u64 (shufS s n : Nat), v', .int .i64 (shufE n)]) ∧ Seg .i64 w' v' (shufL s n) ∧ Below w.heap.size w w' := by
  by_cases hg : shufOk n
  · obtain ⟨N, rfl⟩ := Int.eq_ofNat_of_zero_le hg.1
    refine (shuffle_good s N w hs (by have := hg.2; omega)).mono ?_
    rintro e w' ⟨v', rfl, hr, hb⟩
    refine ⟨v', ?_, ?_, hb⟩
    · rw [shufS, shufE, if_pos hg, if_pos hg, Int.toNat_natCast]
    · rw [shufL, if_pos hg, Int.toNat_natCast]
      rw [nrow_ints] at hr
      exact seg_row (by rw [order_ints]; exact hr)
  · refine (shuffle_bad s n w hg).mono ?_
    rintro e w' ⟨rfl, rfl⟩
    refine ⟨.slice none 0 0, ?_, ?_, Below.refl _ _⟩
    · rw [shufS, shufE, if_neg hg, if_neg hg]; rfl
    · rw [shufL, if_neg hg]; exact Seg.nil _ _
theorem rshuffle_any (s : Nat) (n : Int) (w : World) (hs : s < 18446744073709551616) :
    Calls Try.prog 25 #[.int .u64 s, .int .i64 n] w fun e w' => ∃ v', e = .returned (.tuple #[.int .u64 (shufS s n : Nat), v', .int .i64 (shufE n)]) ∧ Seg .i64 w' v' (shufL s n) ∧ Below w.heap.size w w' := by
  by_cases hg : shufOk n
  · obtain ⟨N, rfl⟩ := Int.eq_ofNat_of_zero_le hg.1
    refine (rshuffle_good s N w hs (by have := hg.2; omega)).mono ?_
    rintro e w' ⟨v', rfl, hr, hb⟩
    refine ⟨v', ?_, ?_, hb⟩
    · rw [shufS, shufE, if_pos hg, if_pos hg, Int.toNat_natCast]
    · rw [shufL, if_pos hg, Int.toNat_natCast]
      rw [nrow_ints] at hr
      exact seg_row (by rw [order_ints]; exact hr)
  · refine (rshuffle_bad s n w hg).mono ?_
    rintro e w' ⟨rfl, rfl⟩
    refine ⟨.slice none 0 0, ?_, ?_, Below.refl _ _⟩
    · rw [shufS, shufE, if_neg hg, if_neg hg]; rfl
    · rw [shufL, if_neg hg]; exact Seg.nil _ _
end Go.Proofs.Ytdgdhhbapgfjgaa
