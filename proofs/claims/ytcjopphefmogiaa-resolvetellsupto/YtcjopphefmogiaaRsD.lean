/- resolve: a snapshot of one's own; compared; IDs, weights, by the reference. -/
import Derived.Test.YtcjopphefmogiaaRsC
namespace Go.Proofs.Ytcjopphefmogiaa
open Go.RowKit
set_option linter.unusedVariables false
set_option maxRecDepth 20000

theorem own_lower' {W : World} {B C : Nat} {e : TypeId} {s : Nat} {v : Value} {k : Nat} {xs : List Value} (h : W.ownsRow B e s v k xs) (hC : C ≤ B) : W.ownsRow C e s v k xs := by
  refine ⟨h.1, ?_⟩
  rcases h.2 with hn | ⟨g, cap, cur, rfl, hB, hgg, rest⟩
  · exact .inl hn
  · exact .inr ⟨g, cap, cur, rfl, by omega, hgg, rest⟩
theorem own_cgB {W W' : World} {B b : Nat} {e : TypeId} {s : Nat} {v : Value} {k : Nat} {xs : List Value} (h : W.ownsRow B e s v k xs) (hc : Cg b W W') (hb : b < B) : W'.ownsRow B e s v k xs := by
  refine ⟨h.1, ?_⟩
  rcases h.2 with hn | ⟨g, cap, cur, rfl, hB, hgg, rest⟩
  · exact .inl hn
  · refine .inr ⟨g, cap, cur, rfl, hB, ?_, rest⟩
    rw [hc.block g (Array.getElem?_eq_some_iff.1 hgg).1 (by omega)]
    exact hgg
theorem OB.on {W W' : World} {B : Nat} {v : Value} {l : List Rp.Pt} (h : OB W B v l) (hb : Below W.heap.size W W') : OB W' B v l := own_below h hb
theorem OB.cg {W W' : World} {B b : Nat} {v : Value} {l : List Rp.Pt} (h : OB W B v l) (hc : Cg b W W') (hb : b < B) : OB W' B v l := own_cgB h hc hb
theorem ret_s {fn : Func} {k : Nat} (h : fn.results = #[.cell k 24]) {W : World} {tmps : Array Value} {b : Nat} {x0 x1 : Value} (ht : tmps.getD k undef = .pointer (some ⟨b, 0, none⟩))
    (hB : Bo W b [x0, x1] 24) : (results fn tmps).run Try.prog W = .ok (.agg #[x0, x1]) W := by
  have h0 := hB.cell 0 rfl
  have h1 := hB.cell 1 rfl
  clear hB
  rw [Array.getD_eq_getD_getElem?] at ht
  simp [results, h]
  go_simp
set_option maxHeartbeats 4000000 in
theorem rownS_any (r : Value) (s : Rv.S) (w : World) (hs : BS w r s.l) (hl : s.l.length ≤ 8796093022208) : Calls Try.prog 9 #[vS r s.v] w fun e w' => ∃ r', e = .returned (vS r' s.v) ∧ Below w.heap.size w w' ∧ OB w' w.heap.size r' s.l := by
  obtain ⟨v, l⟩ := s
  dsimp only at hs hl ⊢
  obtain ⟨W1, hW1, X1, B1, Z1⟩ := box_one w [.int .i64 v, r] 24
  obtain ⟨W2, hW2, X2, B2, Z2⟩ := box_one W1 [.int .i64 0, .slice none 0 0] 24
  obtain ⟨W3, hW3, X3, B3, Z3⟩ := box_one W2 [.int .i64 v, .slice none 0 0] 24
  have C1 := X1.below B2
  have BB : Below w.heap.size w W3 := below_on (below_on B1 (by omega) B2) (by omega) B3
  have HS := hidD (hs.below BB)
  obtain ⟨b, hb⟩ : ∃ b, b = w.heap.size := ⟨_, rfl⟩
  obtain ⟨c, hc⟩ : ∃ c, c = W2.heap.size := ⟨_, rfl⟩
  rw [← hb] at C1 X1 BB Z1 ⊢
  rw [Z1] at X2
  rw [← hc] at X3 Z3
  have D1 := hidD (C1.below B3)
  have D2 := hidD (X2.below B3)
  have D3 := hidD X3
  have u0 := C1.cell 0 rfl
  have u1 := C1.cell 1 rfl
  have HBB := hidD BB
  have HZ : Hid (c = b + 2 ∧ W3.heap.size = b + 3) := hidD (by omega)
  obtain ⟨a, cap, rfl, _⟩ := id hs
  clear X1 C1 X2 X3 B1 B2 B3 BB Z1 Z2 Z3 hs
  go_enter Try.func9, Try.ntmps9
  go_upto_region 1 with fail
  rw [← hb, ← hW1, ← hW2]
  clear hb hW1 hW2
  go_upto_region 2 with fail
  rw [← hc, ← hW3]
  clear hc hW3 u0 u1
  have u1 := D1.out.cell 1 rfl
  have p1 := D3.out.cell 1 rfl
  go_wp2_with (first | (at_builtin; refine wpList_append_bk W3 rfl _ _ rfl W3.heap.size (.slice none 0 0) (.slice a l.length cap) [] l rfl (World.ownsRow_nil _ _ _ _) rfl HS.out (by simp; omega) (Nat.le_refl _) ?_; intro v2 w6 hown' hB6 hgrow; rw [List.nil_append] at hown'; obtain ⟨a2, c2, rfl, _⟩ := id (OB.ts hown'); have E3 := hidD (D3.out.below hB6); have E2 := hidD (D2.out.below hB6); have r0 := E3.out.cell 0 rfl; have r1 := E3.out.cell 1 rfl; have f1 := E3.out.frozen 1; have s0 := E2.out.cell 0 rfl; have s1 := E2.out.cell 1 rfl; have g0 := E2.out.frozen 0; have g1 := E2.out.frozen 1; have HO := hidD hown'; have H6 := hidD (below_on HBB.out (by have := HZ.out; omega) hB6); have H7 : Hid (W3.heap.size ≤ w6.heap.size) := hidD hB6.size; have n1 : ¬ c = b + 1 := (by have := HZ.out; omega); have n2 : ¬ b + 1 = c := (by have := HZ.out; omega); clear hown' hB6 hgrow u1 p1))
  have C3 := Cg.set (b := c) w6 1 (.slice a2 l.length c2)
  have G2 : Bo (w6.setCell ⟨c, 1, none⟩ (.slice a2 l.length c2)) (b + 1) [.int .i64 0, .slice none 0 0] 24 := C3.bo n2 E2.out
  have C4 := (Cg.set (b := b + 1) (w6.setCell ⟨c, 1, none⟩ (.slice a2 l.length c2)) 0 (.int .i64 v)).trans (Cg.set (b := b + 1) _ 1 (.slice a2 l.length c2))
  have G3 := (G2.set 0 (.int .i64 v)).set 1 (.slice a2 l.length c2)
  have hz := HZ.out
  refine bodyPost_ret (ret_s rfl rfl G3) rfl ?_
  refine ⟨_, rfl, C4.below (B := b) (by omega) (by have := C3.size; have := H7.out; omega) (C3.below (B := b) (by omega) (by have := H7.out; omega) H6.out), ?_⟩
  exact own_lower' ((HO.out.cg C3 (by omega)).cg C4 (by omega)) (by omega)
end Go.Proofs.Ytcjopphefmogiaa
