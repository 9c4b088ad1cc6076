/- The reference's Print: how long texts are; what a round keeps. -/
import Derived.Test.YtdbgncdnffbhkaaGreatDoorCutND
import Derived.Test.YtdbgncdnffbhkaaGreatDoorCutPut22
namespace Go.Proofs.YtdbgncdnffbhkaaGreatDoor
open Go.RowKit
set_option maxRecDepth 20000

theorem flat_step (ps : List (List Nat)) (k : Nat) (p : List Nat) (h : ps[k]? = some p) : (ps.take (k + 1)).flatten = (ps.take k).flatten ++ p := by
  rw [List.take_add_one, h]
  simp
theorem flat_all (K : Nat) : ∀ (l : List (List Nat)), (∀ p ∈ l, p.length ≤ K) → l.flatten.length ≤ K * l.length := by
  intro l
  induction l with
  | nil => intro _; simp
  | cons a l ih =>
    intro h
    have h1 := ih (fun p hp => h p (by simp [hp]))
    have h2 := h a (by simp)
    rw [List.flatten_cons, List.length_append, List.length_cons, Nat.mul_add]
    omega
theorem flat_len (K : Nat) (ps : List (List Nat)) (h : ∀ p ∈ ps, p.length ≤ K) (k : Nat) : (ps.take k).flatten.length ≤ K * ps.length := by
  have h1 := flat_all K (ps.take k) (fun p hp => h p (List.mem_of_mem_take hp))
  have h2 : (ps.take k).length ≤ ps.length := by rw [List.length_take]; omega
  exact Nat.le_trans h1 (Nat.mul_le_mul_left _ h2)

theorem fld_len (f : Pl.Fld) (h : Pl.okFld f) : (Pl.fldX f).length ≤ 153 := Pl.Small.part ((Pl.Small.gf (Pl.embF f)).mono (by decide)) _ (Pl.partW_fld f h)
theorem cas_len (f : Pl.Cas) (h : Pl.okCas f) : (Pl.casX f).length ≤ 153 := Pl.Small.part ((Pl.Small.gc (Pl.embC f)).mono (by decide)) _ (Pl.partW_cas f h)
theorem mth_len (f : Pl.Mth) (h : Pl.okMth f) : (Pl.mthX f).length ≤ 153 := Pl.Small.part (Pl.Small.gm (Pl.embM f)) _ (Pl.partW_mth f h)
theorem part_lens {α : Type} (X : α → List Nat) (Q : α → Prop) (hX : ∀ f, Q f → (X f).length ≤ 153) (l : List α) (h : ∀ f ∈ l, Q f) : ∀ p ∈ l.map X, p.length ≤ 153 := by
  intro p hp
  obtain ⟨f, hf, rfl⟩ := List.mem_map.1 hp
  exact hX f (h f hf)
theorem body_len (kw n : List Nat) (hk : kw.length ≤ 10) (hn : n.length ≤ 32) (ps : List (List Nat)) (hl : ps.length ≤ 32) (h : ∀ p ∈ ps, p.length ≤ 153) : (Pl.bodyX kw n ps).length ≤ 5000 := by
  have := flat_all 153 ps h
  simp only [Pl.bodyX, List.length_append, List.length_cons, List.length_nil]
  omega
theorem decl_len (d : Pl.Decl) (h : Pl.okDecl d) : (Pl.declX d).length ≤ 5000 := by
  cases d with
  | st n l => exact body_len _ _ (by decide) (Pl.name_len h.1) _ (by rw [List.length_map]; exact h.2.1) (part_lens _ _ fld_len l h.2.2)
  | en n l => exact body_len _ _ (by decide) (Pl.name_len h.1) _ (by rw [List.length_map]; exact h.2.1) (part_lens _ _ cas_len l h.2.2)
  | sv n l => exact body_len _ _ (by decide) (Pl.name_len h.1) _ (by rw [List.length_map]; exact h.2.1) (part_lens _ _ mth_len l h.2.2)

/-- So many pieces are told. -/
structure PrI (b : Nat) (acc : List Nat) (ps : List (List Nat)) (M : Nat) (w : World) (i : Value) (wr : World) : Prop where
  all : ∃ k : Nat, k ≤ M ∧ i = .int .i64 k ∧ WSt b (acc ++ (ps.take k).flatten) wr ∧ Ch (Xo b) w wr
theorem WSt.putL {b : Nat} {acc : List Nat} {w : World} {s : ByteArray} (hB : Bx w b [.string s, .int .i64 0] 105) (hs : bl s = acc) (L : List Nat) : ∀ t : ByteArray, bl t = L → Bx (w.setCell ⟨b, 0, none⟩ (.string (s ++ t))) b [.string (s ++ t), .int .i64 0] 105 ∧ bl (s ++ t) = acc ++ L :=
  fun t ht => ⟨WSt.set hB, by rw [bl_append, hs, ht]⟩
end Go.Proofs.YtdbgncdnffbhkaaGreatDoor
