/- Of, of both. -/
import Derived.Test.YtcpcnajifdicmaaHF
namespace Go.Proofs.Ytcpcnajifdicmaa
open Go.RowKit
set_option maxRecDepth 20000

def Hp.txt (h : Nat) (s : ByteArray) : Nat := (Hp.mT (Hp.text h (bl s)) + 1) % 18446744073709551616
theorem Hp.txt_is (h : Nat) (s : ByteArray) : Hp.txt h s = (Hp.mT (Hp.text h (bl s)) + 1) % 18446744073709551616 := rfl
theorem Hp.txt_lt (h : Nat) (s : ByteArray) : Hp.txt h s < 18446744073709551616 := Hp.mod_lt' _
def Hp.txts (h : Nat) (l : List ByteArray) : Nat := l.foldl Hp.txt h
theorem Hp.foldb_lt {f : Nat → ByteArray → Nat} {M : Nat} (hf : ∀ s z, f s z < M) : ∀ (l : List ByteArray) (s : Nat), s < M → l.foldl f s < M := by
  intro l
  induction l with
  | nil => intro s hs; exact hs
  | cons z l ih => intro s hs; exact ih _ (hf s z)
theorem Hp.foldb_snoc {f : Nat → ByteArray → Nat} (s : Nat) (l : List ByteArray) (z : ByteArray) : (l ++ [z]).foldl f s = f (l.foldl f s) z := by
  rw [List.foldl_append, List.foldl_cons, List.foldl_nil]
theorem Hp.txts_lt {s : Nat} (hs : s < 18446744073709551616) (l : List ByteArray) : Hp.txts s l < 18446744073709551616 := Hp.foldb_lt Hp.txt_lt l s hs
theorem Hp.txts_snoc (s : Nat) (l : List ByteArray) (z : ByteArray) : Hp.txts s (l ++ [z]) = Hp.txt (Hp.txts s l) z := Hp.foldb_snoc s l z
def Hp.of (s : Nat) (l : List ByteArray) : Nat := Hp.mix (Hp.txts (14695981039346656037 ^^^ s) l)
theorem one_more (x : Nat) : IntKind.u64.wrap ((x : Int) + 1) = (((x + 1) % 18446744073709551616 : Nat) : Int) := by rw [wrapU]; omega
theorem startU (s : Nat) (h : s < 18446744073709551616) : bits .xor .u64 14695981039346656037 (s : Int) = ((14695981039346656037 ^^^ s : Nat) : Int) := u64x 14695981039346656037 s (by decide) h

/-- A row of texts. -/
def SegT (w : World) (b : Nat) (l : List ByteArray) : Prop := ∀ i (h : i < l.length), w.cell? ⟨b, i, none⟩ = some (.string l[i]) ∧ l[i].size ≤ 9223372036854775807

theorem segT2 (w : World) (s t : ByteArray) (hs : s.size ≤ 9223372036854775807) (ht : t.size ≤ 9223372036854775807) : SegT (w.alloc (.cells #[.string s, .string t] 9)) w.heap.size [s, t] := by
  intro i h
  have : i = 0 ∨ i = 1 := by simp at h; omega
  rw [World.cell?_alloc_at _ _ _ _ rfl]
  rcases this with rfl | rfl
  · exact ⟨rfl, hs⟩
  · exact ⟨rfl, ht⟩
theorem rints2 (s : Nat) (a b : Int) (w : World) (hx : s < 18446744073709551616) :
    Calls Try.prog 42 #[.int .u64 s, .slice (some ⟨w.heap.size, 0, none⟩) 2 2] (w.alloc (.cells #[.int .i64 a, .int .i64 b] 3)) fun e w' => e = .returned (.int .u64 (Hp.ints s [a, b] : Nat)) ∧ Below w.heap.size w w' := by
  refine (rints_any s _ [a, b] _ hx (seg_new w [a, b] _ (by simp))).mono ?_
  rintro e w' ⟨rfl, rfl⟩
  exact ⟨rfl, (Below.refl _ _).alloc (Nat.le_refl _) _⟩
end Go.Proofs.Ytcpcnajifdicmaa
