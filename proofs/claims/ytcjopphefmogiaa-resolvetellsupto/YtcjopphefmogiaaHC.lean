/- Ints, of the program. -/
import Derived.Test.YtcjopphefmogiaaHB
import Derived.Laws.NewBlocks
namespace Go.Proofs.Ytcjopphefmogiaa
open Go.RowKit
set_option maxRecDepth 20000

def Hp.add (s : Nat) (z : Int) : Nat := ((s + z) % 18446744073709551616).toNat
theorem Hp.add_lt (s : Nat) (z : Int) : Hp.add s z < 18446744073709551616 := by unfold Hp.add; omega
def Hp.stepI (s : Nat) (z : Int) : Nat := Hp.mix (Hp.add s z)
theorem Hp.stepI_is (s : Nat) (z : Int) : Hp.stepI s z = Hp.mix (Hp.add s z) := rfl
theorem Hp.stepI_lt (s : Nat) (z : Int) : Hp.stepI s z < 18446744073709551616 := Hp.mix_lt _
def Hp.ints (s : Nat) (l : List Int) : Nat := l.foldl Hp.stepI s
theorem Hp.fold_lt' {f : Nat → Int → Nat} {M : Nat} (hf : ∀ s z, f s z < M) : ∀ (l : List Int) (s : Nat), s < M → l.foldl f s < M := by
  intro l
  induction l with
  | nil => intro s hs; exact hs
  | cons z l ih => intro s hs; exact ih _ (hf s z)
theorem Hp.fold_snoc {f : Nat → Int → Nat} (s : Nat) (l : List Int) (z : Int) : (l ++ [z]).foldl f s = f (l.foldl f s) z := by
  rw [List.foldl_append, List.foldl_cons, List.foldl_nil]
theorem Hp.fold_one {f : Nat → Int → Nat} (s : Nat) (a : Int) : [a].foldl f s = f s a := rfl
theorem Hp.fold_two {f : Nat → Int → Nat} (s : Nat) (a b : Int) : [a, b].foldl f s = [b].foldl f ([a].foldl f s) := rfl
theorem Hp.ints_lt {s : Nat} (hs : s < 18446744073709551616) (l : List Int) : Hp.ints s l < 18446744073709551616 := Hp.fold_lt' Hp.stepI_lt l s hs
theorem Hp.ints_snoc (s : Nat) (l : List Int) (z : Int) : Hp.ints s (l ++ [z]) = Hp.stepI (Hp.ints s l) z := Hp.fold_snoc s l z
theorem Hp.ints_one (s : Nat) (a : Int) : Hp.ints s [a] = Hp.stepI s a := Hp.fold_one s a
theorem Hp.ints_two (s : Nat) (a b : Int) : Hp.ints s [a, b] = Hp.ints (Hp.ints s [a]) [b] := Hp.fold_two s a b
theorem addU (s : Nat) (z : Int) : IntKind.u64.wrap ((s : Int) + IntKind.u64.wrap z) = (Hp.add s z : Nat) := by rw [wrapU, wrapU, Hp.add]; omega

end Go.Proofs.Ytcjopphefmogiaa
