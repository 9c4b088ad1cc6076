/- LexBack: the walk. -/
import Derived.Test.YtjeegcfdhoiplaaPE
namespace Go.Proofs.Ytjeegcfdhoiplaa.lexBack
open Go.RowKit

/-- A token that came back is the one that was printed. -/
theorem back_one {t : T3} {z : Z3} (hz : checkZ z = 0) (h : asTok t = zTok z) : toZ t = z := by
  obtain ⟨k, x, ln⟩ := t
  obtain ⟨k', x', ln'⟩ := z
  have hc := check_zero hz
  simp only [asTok, zTok, Pl.Tok.mk.injEq] at h
  obtain ⟨h1, h2, h3⟩ := h
  obtain rfl := bl_inj h2
  have a1 := hc.2.1
  have a2 := hc.2.2.2.1
  simp only at a1 a2
  simp only [toZ, Prod.mk.injEq, true_and]
  omega
theorem back_all : ∀ (tl : List T3) (l : List Z3), (∀ z ∈ l, checkZ z = 0) → tl.map asTok = l.map zTok → tl.map toZ = l := by
  intro tl
  induction tl with
  | nil =>
    intro l _ h
    cases l with
    | nil => rfl
    | cons z l => simp at h
  | cons t tl ih =>
    intro l hl h
    cases l with
    | nil => simp at h
    | cons z l =>
      simp only [List.map_cons, List.cons.injEq] at h ⊢
      exact ⟨back_one (hl z (by simp)) h.1, ih l (fun y hy => hl y (by simp [hy])) h.2⟩

set_option maxHeartbeats 2000000 in
set_option maxRecDepth 4000 in
theorem walk (v : Value) (l : List Z3) {w : World} (hv : TSeg w v l) (hx : ∀ t ∈ l, t.2.1.size ≤ maxLen) (hlen : l.length ≤ 1048576) :
    Calls Try.prog 3 #[v] w fun e w' => e = .returned (.bool true) ∧ Below w.heap.size w w' := by
  have hal := alive_any w
  go_enter Try.func3, Try.ntmps3
  go_wp2_with fail
  refine hal.mono ?_
  rintro e w1 ⟨rfl, hb1⟩
  have hpr := print_any v l w1 (hv.below hb1) hx (by omega)
  go_wp2_with fail
  refine hpr.mono ?_
  rintro e w2 ⟨x, er, rfl, hx0, hx1, _, hb2⟩
  have hb12 : Below w.heap.size w w2 := hb1.trans (hb2.mono hb1.size)
  by_cases her : er = 0
  · subst her
    obtain ⟨hG, hs16, hbl⟩ := hx1 rfl
    obtain ⟨g1, g2, g3, g4⟩ := good_toks hG
    have hA : tokA x = (l.map zTok, 0, 0) := by
      unfold tokA
      rw [if_neg (by omega), hbl]
      exact Pl.tok_print (l.map zTok) 1 _ true g1 g2 (by omega)
    have ht : Calls Try.prog 11 #[.string x] w2 fun e w' => ∃ v tl, e = .returned (.tuple #[v, .int .i64 ((0 : Nat) : Int), .int .i64 0]) ∧ Toks w2.heap.size w' v tl ∧ tl.map asTok = l.map zTok ∧ Below w2.heap.size w2 w' := by
      have h := tokens_any x w2
      rw [hA] at h
      exact h
    have HC : Hid (∀ z ∈ l, checkZ z = 0) := hG.1
    clear hpr hx0 hx1 g1 g2 g3 g4 hA hG hbl
    go_wp2_with (go_at_call 10; refine (num_any _ _).mono ?_; rintro e w6 ⟨rfl, hw6⟩; subst w6)
    refine ht.mono ?_
    rintro e w3 ⟨v3, tl, rfl, hT, hm, hb3⟩
    have hz := back_all tl l HC.out hm
    have hsm := same_true v3 v l w3 (by rw [← hz]; exact hT.seg) ((hv.below hb12).below hb3)
    have hbf : Below w.heap.size w w3 := hb12.trans (hb3.mono hb12.size)
    clear hz hm ht
    go_wp2_with (go_at_call 10; refine (num_any _ _).mono ?_; rintro e w6 ⟨rfl, hw6⟩; subst w6)
    refine hsm.mono ?_
    rintro e w4 ⟨rfl, hb4⟩
    have hbz : Below w.heap.size w w4 := hbf.trans (hb4.mono hbf.size)
    go_wp2
    go_ret
    exact ⟨rfl, hbz⟩
  · have hx2 := hx0 her
    subst hx2
    have hne : (er != 0) = true := by simp [her]
    go_wp2_with (go_at_call 10; refine (num_any _ _).mono ?_; rintro e w6 ⟨rfl, hw6⟩; subst w6)
    go_ret
    refine ⟨?_, hb12⟩
    show Ending.returned (Value.bool empty.toList.isEmpty) = _
    rw [ByteArray.toList_eq]
    rfl
end Go.Proofs.Ytjeegcfdhoiplaa.lexBack
