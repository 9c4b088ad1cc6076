/- Of, of both. -/
import Derived.Test.YticmplnpkkkojaaHF
namespace Go.Proofs.Yticmplnpkkkojaa
open Go.RowKit
set_option maxRecDepth 20000

def Hp.txt (h : Nat) (s : ByteArray) : Nat := (Hp.mT (Hp.text h (bl s)) + 1) % 18446744073709551616
theorem Hp.txt_is (h : Nat) (s : ByteArray) : Hp.txt h s = (Hp.mT (Hp.text h (bl s)) + 1) % 18446744073709551616 := rfl
theorem Hp.txt_lt (h : Nat) (s : ByteArray) : Hp.txt h s < 18446744073709551616 := Hp.mod_lt' _
def Hp.txts (h : Nat) (l : List ByteArray) : Nat := l.foldl Hp.txt h
theorem Hp.foldb_lt {f : Nat → ByteArray → Nat} {M : Nat} (hf : ∀ s z, f s z < M) : ∀ (l : List ByteArray) (s : Nat), s < M → l.foldl f s < M := by
  intro l
  induction l with
  | nil => intro s hs; exact hs
  | cons z l ih => intro s hs; exact ih _ (hf s z)
theorem Hp.foldb_snoc {f : Nat → ByteArray → Nat} (s : Nat) (l : List ByteArray) (z : ByteArray) : (l ++ [z]).foldl f s = f (l.foldl f s) z := by
  rw [List.foldl_append, List.foldl_cons, List.foldl_nil]
theorem Hp.txts_lt {s : Nat} (hs : s < 18446744073709551616) (l : List ByteArray) : Hp.txts s l < 18446744073709551616 := Hp.foldb_lt Hp.txt_lt l s hs
theorem Hp.txts_snoc (s : Nat) (l : List ByteArray) (z : ByteArray) : Hp.txts s (l ++ [z]) = Hp.txt (Hp.txts s l) z := Hp.foldb_snoc s l z
def Hp.of (s : Nat) (l : List ByteArray) : Nat := Hp.mix (Hp.txts (14695981039346656037 ^^^ s) l)
theorem one_more (x : Nat) : IntKind.u64.wrap ((x : Int) + 1) = (((x + 1) % 18446744073709551616 : Nat) : Int) := by rw [wrapU]; omega
theorem startU (s : Nat) (h : s < 18446744073709551616) : bits .xor .u64 14695981039346656037 (s : Int) = ((14695981039346656037 ^^^ s : Nat) : Int) := u64x 14695981039346656037 s (by decide) h

/-- A row of texts. -/
def SegT (w : World) (b : Nat) (l : List ByteArray) : Prop := ∀ i (h : i < l.length), w.cell? ⟨b, i, none⟩ = some (.string l[i]) ∧ l[i].size ≤ 9223372036854775807

set_option maxHeartbeats 400000 in
theorem of_any (s b : Nat) (l : List ByteArray) (w : World) (hx : s < 18446744073709551616) (hl : l.length ≤ 1000) (hs : SegT w b l) :
    Calls Try.prog 14 #[.int .u64 s, .slice (some ⟨b, 0, none⟩) l.length l.length] w fun e w' => e = .returned (.int .u64 (Hp.of s l : Nat)) ∧ w = w' := by
  have h0 := startU s hx
  have hx0 : 14695981039346656037 ^^^ s < 18446744073709551616 := Hp.xlt (by decide) hx
  have cE := fun x (h : x < 18446744073709551616) => mix_any x w h
  have HE : Hid (Hp.of s l = Hp.mix (Hp.txts (14695981039346656037 ^^^ s) l)) := rfl
  generalize Hp.of s l = R at *
  generalize 14695981039346656037 ^^^ s = s0 at *
  go_enter Try.func14, Try.ntmps14
  go_wp2
  go_loopw [5, 12] (fun a i wr => ∃ k r : Nat, k ≤ l.length ∧ i = .int .i64 k ∧ a = .int .u64 r ∧ Hid (r = Hp.txts s0 (l.take k)) ∧ w = wr) (fun _ i _ => l.length - (intOf i).toNat)
  case atStart => exact ⟨0, s0, Nat.zero_le _, rfl, rfl, rfl, rfl⟩
  case round =>
    obtain ⟨k, r, hk, rfl, rfl, HR, rfl⟩ := hrel
    have hr : r < 18446744073709551616 := by rw [HR.out]; exact Hp.txts_lt hx0 _
    by_cases hlt : k < l.length
    · obtain ⟨hck, hsz⟩ := hs k hlt
      have hbk : b < w.heap.size := World.block_lt_of_cell? w _ hck
      have HS : Hid (Hp.txts s0 (l.take (k + 1)) = Hp.txt r l[k]) := by
        show _ = _
        rw [List.take_succ_eq_append_getElem hlt, Hp.txts_snoc, HR.out]
      rw [Hp.txt_is] at HS
      have c1 := octets_any r l[k] w hr hsz
      have hm := mulT (Hp.text r (bl l[k]))
      have ho := one_more (Hp.mT (Hp.text r (bl l[k])))
      generalize Hp.text r (bl l[k]) = t1 at *
      generalize Hp.mT t1 = t2 at *
      generalize (t2 + 1) % 18446744073709551616 = t3 at *
      generalize l[k] = z at *
      go_wp2_with (go_at_call 23; with_reducible refine c1.mono ?_; rintro e w1 ⟨rfl, rfl⟩)
      go_roundw
      case rel => exact ⟨k + 1, t3, by omega, by go_num, by first | rfl | rw [ho], HS.out.symm, trivial⟩
      case measure => simp [intOf]; omega
    · have hke : k = l.length := by omega
      subst hke
      have hR := HR.out
      rw [List.take_length] at hR
      have cE := cE r hr
      have hE := HE.out
      rw [← hR] at hE
      rw [← hE] at cE
      clear hR hE
      go_wp2_with (go_at_call 10; with_reducible refine cE.mono ?_; rintro e w1 ⟨rfl, rfl⟩)
      go_ret
      exact ⟨rfl, rfl⟩

set_option maxHeartbeats 800000 in
theorem rof_any (s b : Nat) (l : List ByteArray) (w : World) (hx : s < 18446744073709551616) (hl : l.length ≤ 1000) (hs : SegT w b l) :
    Calls Try.prog 15 #[.int .u64 s, .slice (some ⟨b, 0, none⟩) l.length l.length] w fun e w' => e = .returned (.int .u64 (Hp.of s l : Nat)) ∧ w = w' := by
  have h0 := startU s hx
  have hx0 : 14695981039346656037 ^^^ s < 18446744073709551616 := Hp.xlt (by decide) hx
  have cE := fun x (h : x < 18446744073709551616) => rmix_any x w h
  have HE : Hid (Hp.of s l = Hp.mix (Hp.txts (14695981039346656037 ^^^ s) l)) := rfl
  generalize Hp.of s l = R at *
  generalize 14695981039346656037 ^^^ s = s0 at *
  go_enter Try.func15, Try.ntmps15
  go_wp2
  go_loopw [5, 6] (fun a i wr => ∃ k r : Nat, k ≤ l.length ∧ i = .int .i64 k ∧ a = .int .u64 r ∧ Hid (r = Hp.txts s0 (l.take k)) ∧ w = wr) (fun _ i _ => l.length - (intOf i).toNat)
  case atStart => exact ⟨0, s0, Nat.zero_le _, rfl, rfl, rfl, rfl⟩
  case round =>
    obtain ⟨k, r, hk, rfl, rfl, HR, rfl⟩ := hrel
    have hr : r < 18446744073709551616 := by rw [HR.out]; exact Hp.txts_lt hx0 _
    by_cases hlt : k < l.length
    · obtain ⟨hck, hsz⟩ := hs k hlt
      have hbk : b < w.heap.size := World.block_lt_of_cell? w _ hck
      have HS : Hid (Hp.txts s0 (l.take (k + 1)) = Hp.txt r l[k]) := by
        show _ = _
        rw [List.take_succ_eq_append_getElem hlt, Hp.txts_snoc, HR.out]
      rw [Hp.txt_is] at HS
      have ct := timesT (Hp.text r (bl l[k])) w
      have ho := one_more (Hp.mT (Hp.text r (bl l[k])))
      obtain ⟨t1, HT1⟩ : ∃ t1, Hid (t1 = Hp.text r (bl l[k])) := ⟨_, (show Hp.text r (bl l[k]) = Hp.text r (bl l[k]) from rfl)⟩
      rw [← HT1.out] at HS ct ho
      generalize Hp.mT t1 = t2 at *
      generalize (t2 + 1) % 18446744073709551616 = t3 at *
      generalize l[k] = z at *
      go_wp2
      go_loopw [5, 7] (fun a i wr => ∃ j m : Nat, j ≤ z.size ∧ i = .int .i64 j ∧ a = .int .u64 m ∧ Hid (m = Hp.text r ((bl z).take j)) ∧ w = wr) (fun _ i _ => z.size - (intOf i).toNat)
      case atStart => exact ⟨0, r, Nat.zero_le _, rfl, rfl, rfl, rfl⟩
      case round =>
        obtain ⟨j, m, hj, rfl, rfl, HM, rfl⟩ := hrel
        have hm : m < 18446744073709551616 := by rw [HM.out]; exact Hp.text_lt hr _
        by_cases hjt : j < z.size
        · have HS2 : Hid (Hp.text r ((bl z).take (j + 1)) = Hp.oct m z[j].toNat) := by
            show _ = _
            rw [bl_take hjt, Hp.text_snoc, HM.out]
          have hz : z[j].toNat < 256 := UInt8.toNat_lt _
          have hxz := u64x m z[j].toNat hm (by omega)
          have c1 := timesT (m ^^^ z[j].toNat) w
          rw [← Hp.oct_is] at c1
          generalize Hp.oct m z[j].toNat = q at *
          go_wp2_with (go_at_call 21; with_reducible refine c1.mono ?_; rintro e w1 ⟨rfl, rfl⟩)
          go_roundw
          case rel => exact ⟨j + 1, q, by omega, by go_num, rfl, HS2.out.symm, trivial⟩
          case measure => simp [intOf]; omega
        · have hje : j = z.size := by omega
          subst hje
          have hM := HM.out
          rw [← bl_length, List.take_length, ← HT1.out] at hM
          subst hM
          go_wp2_with (go_at_call 21; with_reducible refine ct.mono ?_; rintro e w1 ⟨rfl, rfl⟩)
          go_roundw
          case rel => exact ⟨k + 1, t3, by omega, by go_num, by first | rfl | rw [ho], HS.out.symm, trivial⟩
          case measure => simp [intOf]; omega
    · have hke : k = l.length := by omega
      subst hke
      have hR := HR.out
      rw [List.take_length] at hR
      have cE := cE r hr
      have hE := HE.out
      rw [← hR] at hE
      rw [← hE] at cE
      clear hR hE
      go_wp2_with (go_at_call 11; with_reducible refine cE.mono ?_; rintro e w1 ⟨rfl, rfl⟩)
      go_ret
      exact ⟨rfl, rfl⟩

theorem segT2 (w : World) (s t : ByteArray) (hs : s.size ≤ 9223372036854775807) (ht : t.size ≤ 9223372036854775807) : SegT (w.alloc (.cells #[.string s, .string t] 9)) w.heap.size [s, t] := by
  intro i h
  have : i = 0 ∨ i = 1 := by simp at h; omega
  rw [World.cell?_alloc_at _ _ _ _ rfl]
  rcases this with rfl | rfl
  · exact ⟨rfl, hs⟩
  · exact ⟨rfl, ht⟩
theorem of2 (x : Nat) (s t : ByteArray) (w : World) (hx : x < 18446744073709551616) (hs : s.size ≤ 9223372036854775807) (ht : t.size ≤ 9223372036854775807) :
    Calls Try.prog 14 #[.int .u64 x, .slice (some ⟨w.heap.size, 0, none⟩) 2 2] (w.alloc (.cells #[.string s, .string t] 9)) fun e w' => e = .returned (.int .u64 (Hp.of x [s, t] : Nat)) ∧ Below w.heap.size w w' := by
  refine (of_any x _ [s, t] _ hx (by simp) (segT2 w s t hs ht)).mono ?_
  rintro e w' ⟨rfl, rfl⟩
  exact ⟨rfl, (Below.refl _ _).alloc (Nat.le_refl _) _⟩
theorem rof2 (x : Nat) (s t : ByteArray) (w : World) (hx : x < 18446744073709551616) (hs : s.size ≤ 9223372036854775807) (ht : t.size ≤ 9223372036854775807) :
    Calls Try.prog 15 #[.int .u64 x, .slice (some ⟨w.heap.size, 0, none⟩) 2 2] (w.alloc (.cells #[.string s, .string t] 9)) fun e w' => e = .returned (.int .u64 (Hp.of x [s, t] : Nat)) ∧ Below w.heap.size w w' := by
  refine (rof_any x _ [s, t] _ hx (by simp) (segT2 w s t hs ht)).mono ?_
  rintro e w' ⟨rfl, rfl⟩
  exact ⟨rfl, (Below.refl _ _).alloc (Nat.le_refl _) _⟩
theorem rints2 (s : Nat) (a b : Int) (w : World) (hx : s < 18446744073709551616) :
    Calls Try.prog 17 #[.int .u64 s, .slice (some ⟨w.heap.size, 0, none⟩) 2 2] (w.alloc (.cells #[.int .i64 a, .int .i64 b] 3)) fun e w' => e = .returned (.int .u64 (Hp.ints s [a, b] : Nat)) ∧ Below w.heap.size w w' := by
  refine (rints_any s _ [a, b] _ hx (seg_new w [a, b] _ (by simp))).mono ?_
  rintro e w' ⟨rfl, rfl⟩
  exact ⟨rfl, (Below.refl _ _).alloc (Nat.le_refl _) _⟩
end Go.Proofs.Yticmplnpkkkojaa
