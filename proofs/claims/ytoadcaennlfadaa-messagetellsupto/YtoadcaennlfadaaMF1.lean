/- message: Frames. -/
import Derived.Test.YtoadcaennlfadaaCQ
import Derived.Test.YtoadcaennlfadaaFG
namespace Go.Proofs.Ytoadcaennlfadaa
open Go.RowKit
set_option maxRecDepth 20000

/-- A message's cells from a place on. -/
def MCells (w : World) (g o : Nat) (x : Mg) (dv : Value) : Prop :=
  w.cell? ⟨g, o, none⟩ = some (.int .i64 x.k) ∧ w.cell? ⟨g, o + 1, none⟩ = some (.int .i64 x.c) ∧ w.cell? ⟨g, o + 2, none⟩ = some (.int .i64 x.b) ∧ w.cell? ⟨g, o + 3, none⟩ = some (.int .i64 x.i) ∧ w.cell? ⟨g, o + 4, none⟩ = some (.int .i64 x.s) ∧ w.cell? ⟨g, o + 5, none⟩ = some (.int .i64 x.q) ∧ w.cell? ⟨g, o + 6, none⟩ = some (.int .i64 x.m) ∧ w.cell? ⟨g, o + 7, none⟩ = some (.int .i64 x.n) ∧ w.cell? ⟨g, o + 8, none⟩ = some (.int .i64 x.l) ∧ w.cell? ⟨g, o + 9, none⟩ = some (.int .i64 x.o) ∧ w.cell? ⟨g, o + 10, none⟩ = some (.int .i64 x.p) ∧ w.cell? ⟨g, o + 11, none⟩ = some dv
/-- A slice of messages that reads as a list. -/
def MSeg (w : World) (v : Value) (ms : List (Mg × List Int)) : Prop :=
  ∃ a cap, v = .slice a ms.length cap ∧ ms.length ≤ cap ∧ cap ≤ maxLen ∧ (a = none → ms = [] ∧ cap = 0) ∧ ∀ g off ar, a = some ⟨g, off, ar⟩ → 0 < ms.length → ar = none ∧ g < w.heap.size ∧ ∀ i p, ms[i]? = some p → ∃ dv, MCells w g (off + i * 12) p.1 dv ∧ Seg .u8 w dv p.2
theorem MCells.below {w w' : World} {g o : Nat} {x : Mg} {dv : Value} (h : MCells w g o x dv) (hg : g < w.heap.size) (hb : Below w.heap.size w w') : MCells w' g o x dv := by
  have hc : ∀ k, w'.cell? ⟨g, k, none⟩ = w.cell? ⟨g, k, none⟩ := fun k => hb.cell (p := ⟨g, k, none⟩) hg
  unfold MCells
  rw [hc, hc, hc, hc, hc, hc, hc, hc, hc, hc, hc, hc]
  exact h
theorem MSeg.below {w w' : World} {v : Value} {ms : List (Mg × List Int)} (h : MSeg w v ms) (hb : Below w.heap.size w w') : MSeg w' v ms := by
  obtain ⟨a, cap, hv, h1, h2, h3, h4⟩ := h
  refine ⟨a, cap, hv, h1, h2, h3, fun g off ar ha hl => ?_⟩
  obtain ⟨k1, k2, k3⟩ := h4 g off ar ha hl
  refine ⟨k1, Nat.lt_of_lt_of_le k2 hb.size, fun i p hp => ?_⟩
  obtain ⟨dv, c, s⟩ := k3 i p hp
  exact ⟨dv, c.below k2 hb, s.below hb⟩
theorem MSeg.one {w : World} {b : Nat} {x : Mg} {v : Value} {d : List Int} (h : MBx w b x v) (hs : Seg .u8 w v d) : MSeg w (.slice (some ⟨b, 0, none⟩) 1 1) [(x, d)] := by
  refine ⟨some ⟨b, 0, none⟩, 1, rfl, by simp, by unfold maxLen; omega, (fun h => by cases h), fun g off ar ha _ => ?_⟩
  cases ha
  refine ⟨rfl, h.lt, fun i p hp => ?_⟩
  have hi : i = 0 := by
    have := (List.getElem?_eq_some_iff.1 hp).1
    simp at this
    exact this
  subst hi
  simp at hp
  subst hp
  exact ⟨v, by unfold MCells; simpa using h.facts, hs⟩

def encP (p : Mg × List Int) : List Int := encM p.1 p.2

set_option maxHeartbeats 8000000 in
theorem mFrames_ok (v : Value) (ms : List (Mg × List Int)) (w : World) (h : MSeg w v ms) (hok : ∀ p ∈ ms, ckM p.1 p.2 = 0) (hlen : ms.length ≤ 5864062014804)
    (hput : ∀ W u, Pays (Span w.heap.size W) W u (ms.map encP) → Below w.heap.size w W → Calls Try.prog 39 #[.slice none 0 0, u] W fun e w' => ∃ o, e = .returned (.tuple #[o, .int .i64 0]) ∧ Part w' 5 o (u8s (Pl.framesOf (ms.map encP))) ∧ Since W.heap.size o ∧ Below W.heap.size W w') :
    Calls Try.prog 14 #[v] w fun e w' => ∃ o, e = .returned (.tuple #[o, .int .i64 0]) ∧ Part w' 5 o (u8s (Pl.framesOf (ms.map encP))) ∧ Since w.heap.size o ∧ Below w.heap.size w w' := by
  obtain ⟨a, cap, rfl, h1, h2, h3, h4⟩ := id h
  unfold maxLen at h2
  obtain ⟨N, hN⟩ : ∃ N, N = ms.length := ⟨_, rfl⟩
  rw [← hN] at h1 hlen ⊢
  have HN : Hid (N = ms.length) := hN
  generalize Pl.framesOf (ms.map encP) = FR at *
  have HP := hid hput
  clear hN h3 hput
  go_enter Try.func14, Try.ntmps14
  go_wp2_with fail
  go_loopw [4, 11] (fun a i wr => ∃ k : Nat, k ≤ N ∧ i = .int .i64 k ∧ Pays (Span w.heap.size wr) wr a ((ms.take k).map encP) ∧ Below w.heap.size w wr) (fun _ i _ => N - (intOf i).toNat)
  case atStart => exact ⟨0, Nat.zero_le _, rfl, Pays.nil _ _, Below.refl _ _⟩
  case round =>
    obtain ⟨k, hk, rfl, hP, hbel⟩ := hrel
    by_cases hlt : k < N
    · obtain ⟨p, hp⟩ : ∃ p, ms[k]? = some p := ⟨ms[k]'(by have := HN.out; omega), by simp⟩
      rcases a with _ | ⟨g, off, ar⟩
      · have := HN.out
        obtain ⟨a', c', hv', _, _, h3', _⟩ := h
        simp only [Value.slice.injEq] at hv'
        obtain ⟨rfl, _, _⟩ := hv'
        have := (h3' rfl).1
        rw [this] at hp
        simp at hp
      obtain ⟨rfl, hg, hcc⟩ := h4 g off ar rfl (by have := HN.out; omega)
      obtain ⟨dv, hmc, hsd⟩ := hcc k p hp
      have hmr := hmc.below hg (hbel.mono (Nat.le_refl _))
      obtain ⟨c0, c1, c2, c3, c4, c5, c6, c7, c8, c9, c10, c11⟩ := hmr
      obtain ⟨x, d⟩ := p
      have hck := hok (x, d) (List.mem_of_getElem? hp)
      simp only at c0 c1 c2 c3 c4 c5 c6 c7 c8 c9 c10 c11 hsd hck
      have HT : Hid ((ms.take (k + 1)).map encP = (ms.take k).map encP ++ [encM x d]) := by
        show _ = _
        rw [List.take_add_one, hp]
        simp [encP]
      obtain ⟨da, dc, rfl, _⟩ := id hsd
      have hsr := hsd.below hbel
      have hal : Below wr.heap.size wr (wr.alloc (.cells ⟨x.cells (.slice da d.length dc)⟩ 24)) := (Below.refl _ wr).alloc (Nat.le_refl _) _
      have hen := mEncode_ok x (.slice da d.length dc) d _ (hsr.below hal) hck
      have HLK : Hid (((ms.take k).map encP).length = k) := by show _ = _; rw [List.length_map, List.length_take]; have := HN.out; omega
      simp only [Mg.val, Mg.cells] at hen hal
      clear hmc hcc hp hck hsr h4
      go_wp2_with fail
      refine hen.mono ?_
      rintro e w2 ⟨v2, rfl, hown2', hb2'⟩
      clear c0 c1 c2 c3 c4 c5 c6 c7 c8 c9 c10 c11 hen
      have hb2 := hal.trans (hb2'.mono hal.size)
      have hown2 := ownsRow_lower (C := wr.heap.size) hown2' hal.size
      have hP2 := hP.below hb2
      have hsi2 := Since.own hown2
      have htl2 := Till.own hown2
      have hs2 := Part.seg (Part.own hown2)
      obtain ⟨a2, e2, hv2, _, _, _, _⟩ := id hs2
      generalize hpl : (encM x d).length = pn at hv2
      subst hv2
      clear hown2 hown2' hb2' hal hsd
      go_wp2_with (at_builtin; refine wpList_append_pays _ rfl (.tmp 23) (.tmp 25) rfl (Span w.heap.size wr) (Span wr.heap.size w2) u4 _ ((ms.take k).map encP) [encM x d] [.slice a2 pn e2] rfl rfl (hP2.below ((Below.refl _ _).alloc (Nat.le_refl _) _)) (reads_one w2 _ 22) (elems_one (hs2.below ((Below.refl _ _).alloc (Nat.le_refl _) _)) hsi2 htl2) (span_lt _ hb2) (span_ap _ hP) (by rw [HLK.out]; simp; omega) ?_; intro v5 w5 hP5 hg5 hm5; clear hm5)
      have hsz5 := hg5.size
      simp at hsz5
      have hb5 : Below w.heap.size w w5 := ((hbel.trans (hb2.mono hbel.size)).alloc (by have := hbel.size; have := hb2.size; omega) _).grown hg5 (by have := hbel.size; have := hb2.size; simp; omega) (fun j hj => by
        by_cases h : w.heap.size ≤ j
        · exact h
        · exact absurd hj (hP.apart fun hq => h hq.1))
      have hPn := hP5.mono (R := Span w.heap.size w5) (fun j hj => by
        have h1 := hbel.size
        have h2 := hb2.size
        rcases hj with hj | hj | hj
        · exact ⟨hj.1, by have := hj.2; omega⟩
        · exact ⟨by have := hj.1; omega, by have := hj.2; omega⟩
        · have h3 := hj.1
          simp at h3
          exact ⟨by omega, hj.2⟩)
      rw [← HT.out] at hPn
      clear hP5 hg5 hP2 hP hs2 hsi2 htl2 HT HLK
      go_wp2
      go_roundw
      case rel => exact ⟨k + 1, by omega, by go_num, hPn, hb5⟩
      case measure => simp [intOf]; omega
    · have hke : ms.take k = ms := List.take_of_length_le (by have := HN.out; omega)
      rw [hke] at hP
      have hpt := HP.out wr u4 hP hbel
      clear hP h4 h hke HP hok
      go_wp2_with fail
      refine hpt.mono ?_
      rintro e w2 ⟨o, rfl, hPo, hSo, hb2⟩
      have HO := hid hPo
      have HS := hid (hSo.mono hbel.size)
      have HB := hid (hbel.trans (hb2.mono hbel.size))
      clear hPo hSo hb2 hbel hpt
      go_wp2
      go_ret2
      exact ⟨o, rfl, HO.out, HS.out, HB.out⟩
end Go.Proofs.Ytoadcaennlfadaa
