/- LexOwn: the walk. -/
import Derived.Test.YtjeegcfdhoiplaaRC
import Derived.Test.YtjeegcfdhoiplaaRemA
namespace Go.Proofs.Ytjeegcfdhoiplaa.lexOwn
open Go.RowKit

/-- A row that may be written. -/
def Row (w : World) (g c : Nat) : Prop := ∃ cur : Array Value, w.heap[g]? = some (.cells cur 34 (0, 0)) ∧ cur.size = c * 3

theorem Row.facts {w : World} {g c : Nat} (h : Row w g c) (j : Nat) (hj : j < c * 3) : (∃ u, w.cell? ⟨g, j, none⟩ = some u) ∧ w.frozen? ⟨g, j, none⟩ = false := by
  obtain ⟨cur, h1, h2⟩ := h
  refine ⟨⟨cur[j]'(by omega), ?_⟩, frozen_of_row w g j cur 34 h1⟩
  rw [cell_of_row w g j cur 34 (0, 0) h1]
  simp [h2, hj]
theorem Row.set {w : World} {g c : Nat} (h : Row w g c) (j : Nat) (u : Value) : Row (w.setCell ⟨g, j, none⟩ u) g c := by
  obtain ⟨cur, h1, h2⟩ := h
  exact ⟨_, heap_setCell_same w g j cur 34 u h1, by simp [h2]⟩

set_option maxHeartbeats 4000000 in
set_option maxRecDepth 4000 in
theorem walk (s : ByteArray) (_hs : s.size ≤ maxLen) {w : World} :
    Calls Try.prog 7 #[.string s] w fun e w' => e = .returned (.bool true) ∧ Below w.heap.size w w' := by
  have hal := alive_any w
  generalize hA : tokA s = A
  obtain ⟨L, ln, er⟩ := A
  have ht : ∀ w1 : World, Calls Try.prog 11 #[.string s] w1 fun e w' => ∃ v tl, e = .returned (.tuple #[v, .int .i64 (ln : Int), .int .i64 er]) ∧ Toks w1.heap.size w' v tl ∧ tl.map asTok = L ∧ Below w1.heap.size w1 w' := by
    intro w1
    have h := tokens_any s w1
    rw [hA] at h
    exact h
  have hr : ∀ w1 : World, Calls Try.prog 14 #[.string s] w1 fun e w' => ∃ v tl, e = .returned (.tuple #[v, .int .i64 (ln : Int), .int .i64 er]) ∧ Toks w1.heap.size w' v tl ∧ tl.map asTok = L ∧ Below w1.heap.size w1 w' := by
    intro w1
    have h := rtokens_any s w1
    rw [hA] at h
    exact h
  go_enter Try.func7, Try.ntmps7
  go_wp2_with fail
  refine hal.mono ?_
  rintro e w1 ⟨rfl, hb1⟩
  go_wp2_with fail
  refine (ht w1).mono ?_
  rintro e w2 ⟨v1, tl1, rfl, hT1, hm1, hb2⟩
  go_wp2_with fail
  refine (ht w2).mono ?_
  rintro e w3 ⟨v2, tl2, rfl, hT2, hm2, hb3⟩
  obtain rfl : tl1 = tl2 := asTok_inj (hm1.trans hm2.symm)
  have hT1' := hT1.below hb3
  have hbb : Below w.heap.size w w3 := (hb1.trans (hb2.mono hb1.size)).trans (hb3.mono (Nat.le_trans hb1.size hb2.size))
  have hdis : ∀ g, v1.ownBlock = some g → w.heap.size ≤ g ∧ v2.ownBlock ≠ some g := by
    intro g hg
    refine ⟨Nat.le_trans hb1.size (hT1.since g hg), fun h2 => ?_⟩
    have h3 := hT2.since g h2
    have h4 : g < w2.heap.size := by
      rcases hT1.2 with ⟨rfl, _⟩ | ⟨g', cap, cur, rfl, _, hgg, _⟩
      · simp [Value.ownBlock] at hg
      · simp [Value.ownBlock] at hg
        subst hg
        rcases Nat.lt_or_ge g' w2.heap.size with hlt | hge
        · exact hlt
        · rw [Array.getElem?_eq_none hge] at hgg; cases hgg
    omega
  have hee : (er == er) = true := by simp
  obtain ⟨N, hN⟩ : ∃ N, N = tl1.length := ⟨_, rfl⟩
  have hNs : N ≤ maxLen := by
    obtain ⟨a, cap, _, h1, h2, _⟩ := hT1.seg
    rw [List.length_map] at h1
    omega
  unfold maxLen at hNs
  obtain ⟨ad, cp, hv1⟩ := hT1.shape
  rw [← hN] at hv1
  subst hv1
  go_wp2_with fail
  go_loopw [9] (fun i wr => ∃ j : Nat, j ≤ N ∧ i = .int .i64 j ∧ (∀ g, ad = some ⟨g, 0, none⟩ → Row wr g cp) ∧ w3.grownBy wr (Value.slice ad N cp).ownBlock) (fun i _ => N - (intOf i).toNat)
  case atStart =>
    refine ⟨0, Nat.zero_le _, rfl, fun g hg => ?_, grownBy_refl _ _⟩
    rcases hT1'.2 with ⟨h, _⟩ | ⟨g', cap, cur, h, _, hgg, _, _, hcs, _⟩
    · rw [hg] at h
      simp at h
    · rw [hg] at h
      simp at h
      obtain ⟨h1, h2, h3⟩ := h
      subst h1 h3
      exact ⟨cur, hgg, hcs⟩
  case round =>
    obtain ⟨j, hj, rfl, hrow, hgr⟩ := hrel
    by_cases hlt : j < N
    · obtain ⟨g, cap, hf, hbg, _⟩ := hT1.form (by omega)
      simp at hf
      obtain ⟨rfl, h2, rfl⟩ := hf
      have hNc : N ≤ cp := by
        obtain ⟨a, cap, h, h1, _⟩ := hT1.seg
        rw [List.length_map] at h h1
        simp at h
        omega
      have hrw := hrow g rfl
      obtain ⟨⟨u0, c0⟩, f0⟩ := hrw.facts (j * 3) (by omega)
      obtain ⟨⟨u1, c1⟩, f1⟩ := hrw.facts (j * 3 + 1) (by omega)
      obtain ⟨⟨u2, c2⟩, f2⟩ := hrw.facts (j * 3 + 2) (by omega)
      clear hrow
      go_wp2
      refine ⟨⟨j + 1, by omega, by go_num, fun g' hg' => ?_, ?_⟩, by simp [intOf]; omega⟩
      · simp at hg'
        subst hg'
        exact ((hrw.set _ _).set _ _).set _ _
      · exact ((hgr.trans (grown_set wr g _ _)).trans (grown_set _ g _ _)).trans (grown_set _ g _ _)
    · have hT2' : Toks w2.heap.size wr v2 tl1 := by
        cases hob : (Value.slice ad N cp).ownBlock with
        | none => exact hT2.kept hgr (by rw [hob]; cases v2.ownBlock <;> simp)
        | some g => exact hT2.kept hgr (.inl (by rw [hob]; exact (hdis g hob).2))
      have hbr : Below w.heap.size w wr := below_grown hbb hgr hbb.size (fun g hg => (hdis g hg).1)
      clear hrow hgr hT1 hT1' hT2 hdis
      go_wp2_with fail
      refine (hr wr).mono ?_
      rintro e w5 ⟨v5, tl5, rfl, hT5, hm5, hb5⟩
      obtain rfl : tl1 = tl5 := asTok_inj (hm1.trans hm5.symm)
      have hsm := same_true v2 v5 _ w5 (hT2'.below hb5).seg hT5.seg
      go_wp2_with (go_at_call 10; refine (num_any _ _).mono ?_; rintro e w6 ⟨rfl, hw6⟩; subst w6)
      refine hsm.mono ?_
      rintro e w6 ⟨rfl, hb6⟩
      have hbf : Below w.heap.size w w6 := (hbr.trans (hb5.mono hbr.size)).trans (hb6.mono (Nat.le_trans hbr.size hb5.size))
      go_wp2
      go_ret
      exact ⟨rfl, hbf⟩
end Go.Proofs.Ytjeegcfdhoiplaa.lexOwn
