/- Texts mixed: octets and Of; the reference's Mix, Unmix, Ints and Of. -/
import Derived.Test.YtcjopphefmogiaaHE
namespace Go.Proofs.Ytcjopphefmogiaa
open Go.RowKit
set_option maxRecDepth 20000

def bl (s : ByteArray) : List Nat := s.data.toList.map UInt8.toNat
theorem bl_length (s : ByteArray) : (bl s).length = s.size := by unfold bl; rw [List.length_map]; rfl
def Hp.oct (h : Nat) (z : Nat) : Nat := Hp.mT (h ^^^ z)
theorem Hp.oct_is (h : Nat) (z : Nat) : Hp.oct h z = Hp.mT (h ^^^ z) := rfl
theorem Hp.oct_lt (h : Nat) (z : Nat) : Hp.oct h z < 18446744073709551616 := Hp.mT_lt _
def Hp.text (h : Nat) (l : List Nat) : Nat := l.foldl Hp.oct h
theorem Hp.foldn_lt {f : Nat → Nat → Nat} {M : Nat} (hf : ∀ s z, f s z < M) : ∀ (l : List Nat) (s : Nat), s < M → l.foldl f s < M := by
  intro l
  induction l with
  | nil => intro s hs; exact hs
  | cons z l ih => intro s hs; exact ih _ (hf s z)
theorem Hp.foldn_snoc {f : Nat → Nat → Nat} (s : Nat) (l : List Nat) (z : Nat) : (l ++ [z]).foldl f s = f (l.foldl f s) z := by
  rw [List.foldl_append, List.foldl_cons, List.foldl_nil]
theorem Hp.text_lt {s : Nat} (hs : s < 18446744073709551616) (l : List Nat) : Hp.text s l < 18446744073709551616 := Hp.foldn_lt Hp.oct_lt l s hs
theorem Hp.text_snoc (s : Nat) (l : List Nat) (z : Nat) : Hp.text s (l ++ [z]) = Hp.oct (Hp.text s l) z := Hp.foldn_snoc s l z
theorem mulT (x : Nat) : IntKind.u64.wrap ((x : Int) * 1099511628211) = (Hp.mT x : Nat) := by
  rw [wrapU, Hp.mT]; omega
theorem bl_take {s : ByteArray} {k : Nat} (h : k < s.size) : (bl s).take (k + 1) = (bl s).take k ++ [s[k].toNat] := by
  have h' : k < (bl s).length := by rw [bl_length]; exact h
  rw [List.take_succ_eq_append_getElem h']
  congr 2
  simp [bl]
  rfl
theorem octW {m z : Nat} (hm : m < 18446744073709551616) (hz : z < 256) : IntKind.u64.wrap (bits .xor .u64 (m : Int) (z : Int) * 1099511628211) = (Hp.oct m z : Nat) := by
  rw [u64x _ _ hm (by omega), mulT, Hp.oct_is]

end Go.Proofs.Ytcjopphefmogiaa
