/- The reference's names: plain, Name. -/
import Derived.Test.YtdbgncdnffbhkaaGreatDoorCutRC
import Derived.Test.YtdbgncdnffbhkaaGreatDoorCutPut15
namespace Go.Proofs.YtdbgncdnffbhkaaGreatDoor
open Go.RowKit
set_option maxRecDepth 20000

theorem tw_all (t : List Nat) (h : ∀ d ∈ t, Pl.isPart d = true) : t.takeWhile Pl.isPart = t ∧ t.dropWhile Pl.isPart = [] := by
  induction t with
  | nil => exact ⟨rfl, rfl⟩
  | cons d t ih =>
    have h1 := ih (fun e he => h e (by simp [he]))
    have h2 := h d (by simp)
    simp [h2, h1.1, h1.2]
theorem tok_word (n : List Nat) (h : Pl.okKt (1, n)) (ln : Nat) : Pl.tok n ln = ([⟨1, n, ln⟩], 0, 0) := by
  rcases h with ⟨h1, _⟩ | ⟨h1, h2, h3⟩
  · simp at h1
  · simp only at h1 h2 h3
    cases n with
    | nil => exact absurd rfl h1
    | cons c r =>
      obtain ⟨s1, s2⟩ := tw_all (c :: r) h2
      rw [Pl.tok_part c r ln (h2 c (by simp)), s1, s2, h3, Pl.tok_nil]
      simp [Pl.tokCons]
theorem name_tok (s : ByteArray) (h : Pl.okName (bl s)) : tokA s = ([⟨1, bl s, 1⟩], 0, 0) := by
  have hl := Pl.name_len h
  rw [bl_length] at hl
  unfold tokA
  rw [if_neg (by omega), tok_word _ h.1]
theorem name_plain {n : List Nat} (h : Pl.okName n) : Pl.plainK n = 0 ∧ Pl.isGram n = false := by
  have h2 := h.2
  simp only [Pl.nameT, Bool.and_eq_true, decide_eq_true_eq, Bool.not_eq_true'] at h2
  exact ⟨h2.1.2, h2.2⟩
theorem name_words (s : ByteArray) (h : Pl.okName (bl s)) : (s ≠ sBool ∧ s ≠ sInt ∧ s ≠ sUint ∧ s ≠ sText ∧ s ≠ sBytes) ∧ s ≠ sStruct ∧ s ≠ sEnum ∧ s ≠ sService ∧ s ≠ sOnce ∧ s ≠ sRead := by
  obtain ⟨h1, h2⟩ := name_plain h
  refine ⟨⟨?_, ?_, ?_, ?_, ?_⟩, ?_, ?_, ?_, ?_, ?_⟩ <;> intro e <;> subst e
  · exact absurd h1 (by decide)
  · exact absurd h1 (by decide)
  · exact absurd h1 (by decide)
  · exact absurd h1 (by decide)
  · exact absurd h1 (by decide)
  · exact absurd h2 (by decide)
  · exact absurd h2 (by decide)
  · exact absurd h2 (by decide)
  · exact absurd h2 (by decide)
  · exact absurd h2 (by decide)

theorem lit_list (l : List UInt8) : (ByteArray.toList ⟨⟨l⟩⟩) = l := by rw [ByteArray.toList_eq]
theorem lit_no {x : ByteArray} {l : List UInt8} (h : x ≠ ⟨⟨l⟩⟩) : (l == x.toList) = false ∧ (x.toList == l) = false ∧ ¬ x.toList = l ∧ ¬ l = x.toList := by
  have h1 : ¬ x.toList = l := fun e => h (toList_inj (e.trans (lit_list l).symm))
  have h2 : ¬ l = x.toList := fun e => h1 e.symm
  exact ⟨by rw [beq_eq_false_iff_ne]; exact h2, by rw [beq_eq_false_iff_ne]; exact h1, h1, h2⟩

set_option maxHeartbeats 4000000 in
theorem rplain_none (x : ByteArray) (h : x ≠ sBool ∧ x ≠ sInt ∧ x ≠ sUint ∧ x ≠ sText ∧ x ≠ sBytes) (w : World) : Calls Tryz.prog 135 #[.string x] w fun e w' => e = .returned (.int .i64 0) ∧ Below w.heap.size w w' := by
  obtain ⟨h1, h2, h3, h4, h5⟩ := h
  obtain ⟨e1, _, _, f1⟩ := lit_no (l := [98, 111, 111, 108]) h1
  obtain ⟨e2, _, _, f2⟩ := lit_no (l := [105, 110, 116]) h2
  obtain ⟨e3, _, _, f3⟩ := lit_no (l := [117, 105, 110, 116]) h3
  obtain ⟨e4, _, _, f4⟩ := lit_no (l := [116, 101, 120, 116]) h4
  obtain ⟨e5, _, _, f5⟩ := lit_no (l := [98, 121, 116, 101, 115]) h5
  clear h1 h2 h3 h4 h5
  have HB := hid (below_alloc w (.cells #[.string ⟨#[98, 111, 111, 108]⟩, .string ⟨#[105, 110, 116]⟩, .string ⟨#[117, 105, 110, 116]⟩, .string ⟨#[116, 101, 120, 116]⟩, .string ⟨#[98, 121, 116, 101, 115]⟩] 9))
  go_enter Tryz.func135, Tryz.ntmps135
  go_wp2_with fail
  go_rounds 6
  go_ret
  exact ⟨rfl, HB.out⟩

set_option maxHeartbeats 4000000 in
theorem rname_ok (x : ByteArray) (h : Pl.okName (bl x)) (w : World) : Calls Tryz.prog 89 #[.string x] w fun e w' => e = .returned (.bool true) ∧ Below w.heap.size w w' := by
  have ht := rtokens_any x w
  rw [name_tok x h] at ht
  obtain ⟨hp, g1, g2, g3, g4, g5⟩ := name_words x h
  have HP := hid hp
  obtain ⟨_, e1, f1, _⟩ := lit_no (l := [115, 116, 114, 117, 99, 116]) g1
  obtain ⟨_, e2, f2, _⟩ := lit_no (l := [101, 110, 117, 109]) g2
  obtain ⟨_, e3, f3, _⟩ := lit_no (l := [115, 101, 114, 118, 105, 99, 101]) g3
  obtain ⟨_, e4, f4, _⟩ := lit_no (l := [111, 110, 99, 101]) g4
  obtain ⟨_, e5, f5, _⟩ := lit_no (l := [114, 101, 97, 100]) g5
  clear hp g1 g2 g3 g4 g5
  go_enter Tryz.func89, Tryz.ntmps89
  go_wp2_with fail
  refine ht.mono ?_
  rintro e w1 ⟨v, tl, rfl, hT, htl, hb⟩
  obtain ⟨a, cap, rfl, h1, h2, h3, h4⟩ := hT.seg
  rcases tl with _ | ⟨t0, _ | ⟨t1, tl⟩⟩ <;> simp at htl
  obtain ⟨k0, x0, l0⟩ := t0
  simp only [asTok, Pl.Tok.mk.injEq] at htl
  obtain ⟨rfl, hx, rfl⟩ := htl
  obtain rfl : x0 = x := bl_inj hx
  rcases a with _ | ⟨g, off, ar⟩
  · simp at h3
  obtain ⟨rfl, hlt, hc⟩ := h4 g off ar rfl (by simp)
  obtain ⟨q1, q2, q3⟩ := hc 0 _ rfl
  simp only [toZ, Nat.zero_mul, Nat.add_zero] at q1 q2 q3
  have hpl := rplain_none x0 HP.out w1
  have HB := hid hb
  clear hc h3 h4 hT hb ht
  simp only [List.map_cons, List.map_nil, List.length_cons, List.length_nil] at h1 h2 ⊢
  go_wp2_with fail
  refine hpl.mono ?_
  rintro e w2 ⟨rfl, hb2⟩
  have HB2 := hid (below_next HB.out hb2)
  clear hb2
  go_wp2
  go_ret
  exact ⟨rfl, HB2.out⟩
end Go.Proofs.YtdbgncdnffbhkaaGreatDoor
