/- Ints, of the program. -/
import Derived.Test.YtdgdhhbapgfjgaaHB
import Derived.Laws.NewBlocks
namespace Go.Proofs.Ytdgdhhbapgfjgaa
open Go.RowKit
set_option maxRecDepth 20000

def Hp.add (s : Nat) (z : Int) : Nat := ((s + z) % 18446744073709551616).toNat
theorem Hp.add_lt (s : Nat) (z : Int) : Hp.add s z < 18446744073709551616 := by unfold Hp.add; omega
def Hp.stepI (s : Nat) (z : Int) : Nat := Hp.mix (Hp.add s z)
theorem Hp.stepI_is (s : Nat) (z : Int) : Hp.stepI s z = Hp.mix (Hp.add s z) := rfl
theorem Hp.stepI_lt (s : Nat) (z : Int) : Hp.stepI s z < 18446744073709551616 := Hp.mix_lt _
def Hp.ints (s : Nat) (l : List Int) : Nat := l.foldl Hp.stepI s
theorem Hp.fold_lt' {f : Nat → Int → Nat} {M : Nat} (hf : ∀ s z, f s z < M) : ∀ (l : List Int) (s : Nat), s < M → l.foldl f s < M := by
  intro l
  induction l with
  | nil => intro s hs; exact hs
  | cons z l ih => intro s hs; exact ih _ (hf s z)
theorem Hp.fold_snoc {f : Nat → Int → Nat} (s : Nat) (l : List Int) (z : Int) : (l ++ [z]).foldl f s = f (l.foldl f s) z := by
  rw [List.foldl_append, List.foldl_cons, List.foldl_nil]
theorem Hp.fold_one {f : Nat → Int → Nat} (s : Nat) (a : Int) : [a].foldl f s = f s a := rfl
theorem Hp.fold_two {f : Nat → Int → Nat} (s : Nat) (a b : Int) : [a, b].foldl f s = [b].foldl f ([a].foldl f s) := rfl
theorem Hp.ints_lt {s : Nat} (hs : s < 18446744073709551616) (l : List Int) : Hp.ints s l < 18446744073709551616 := Hp.fold_lt' Hp.stepI_lt l s hs
theorem Hp.ints_snoc (s : Nat) (l : List Int) (z : Int) : Hp.ints s (l ++ [z]) = Hp.stepI (Hp.ints s l) z := Hp.fold_snoc s l z
theorem Hp.ints_one (s : Nat) (a : Int) : Hp.ints s [a] = Hp.stepI s a := Hp.fold_one s a
theorem Hp.ints_two (s : Nat) (a b : Int) : Hp.ints s [a, b] = Hp.ints (Hp.ints s [a]) [b] := Hp.fold_two s a b
theorem addU (s : Nat) (z : Int) : IntKind.u64.wrap ((s : Int) + IntKind.u64.wrap z) = (Hp.add s z : Nat) := by rw [wrapU, wrapU, Hp.add]; omega

set_option maxHeartbeats 400000 in
theorem ints_any (s : Nat) (v : Value) (l : List Int) (w : World) (hx : s < 18446744073709551616) (hs : Seg .i64 w v l) :
    Calls Try.prog 32 #[.int .u64 s, v] w fun e w' => e = .returned (.int .u64 (Hp.ints s l : Nat)) ∧ w = w' := by
  obtain ⟨a, cap, rfl, h1, h2, h3, h4⟩ := hs
  unfold maxLen at h2
  go_enter Try.func32, Try.ntmps32
  go_wp2
  go_loopw [5, 11] (fun a i wr => ∃ k : Nat, k ≤ l.length ∧ i = .int .i64 k ∧ a = .int .u64 (Hp.ints s (l.take k) : Nat) ∧ w = wr) (fun _ i _ => l.length - (intOf i).toNat)
  case atStart => exact ⟨0, Nat.zero_le _, rfl, rfl, rfl⟩
  case round =>
    obtain ⟨k, hk, rfl, rfl, rfl⟩ := hrel
    by_cases hlt : k < l.length
    · obtain ⟨b, off, rfl, hb, hc⟩ := seg_at (by omega) h3 h4
      have hck := hc k hlt
      have HS : Hid (Hp.ints s (l.take (k + 1)) = Hp.stepI (Hp.ints s (l.take k)) (l.getD k 0)) := by
        show _ = _
        rw [List.take_succ_eq_append_getElem hlt, Hp.ints_snoc]
        simp [List.getD, hlt]
      have hrl : Hp.ints s (l.take k) < 18446744073709551616 := Hp.ints_lt hx _
      have c1 := mix_any _ w (Hp.add_lt (Hp.ints s (l.take k)) (l.getD k 0))
      rw [← Hp.stepI_is] at c1
      have hz := addU (Hp.ints s (l.take k)) (l.getD k 0)
      generalize Hp.ints s (l.take k) = r at *
      generalize l.getD k 0 = z at *
      generalize Hp.stepI r z = mz at *
      generalize Hp.add r z = az at *
      clear hc h4 h3
      go_wp2_with (go_at_call 41; (try rw [hz]); with_reducible refine c1.mono ?_; rintro e w1 ⟨rfl, rfl⟩)
      go_roundw
      case rel => exact ⟨k + 1, by omega, by go_num, by rw [HS.out], trivial⟩
      case measure => simp [intOf]; omega
    · have hke : k = l.length := by omega
      subst hke
      rw [List.take_length]
      go_wp2
      go_ret
      exact ⟨rfl, rfl⟩

end Go.Proofs.Ytdgdhhbapgfjgaa
