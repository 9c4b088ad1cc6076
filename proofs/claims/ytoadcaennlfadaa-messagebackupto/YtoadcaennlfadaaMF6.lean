/- Messages that are handed in. -/
import Derived.Test.YtoadcaennlfadaaMN5
import Derived.Test.YtoadcaennlfadaaMF5
import Derived.Deep.SlicePairs
import Derived.ChangeArms
namespace Go.Proofs.Ytoadcaennlfadaa
open Go.ChangeShapes Go.WideShapes Go.ChangeAt Go.RowKit Go.Deep
set_option maxRecDepth 20000

theorem octets_of {H : Type} {enc : TypeId × Value → H} {W : World} {n : Nat} {u : Value} {y : DataW H × List MemPlace} (h : DataW.trod enc Try.prog W 0 (fun _ => true) true n 22 [u] = some y) : ∃ l : List Int, Seg .u8 W u l ∧ ∀ z ∈ l, 0 ≤ z ∧ z ≤ 255 := by
  rcases open_ints Try.underlying22 Try.underlying5 (by kernel_rfl) h with ⟨hcs, hx⟩ | ⟨x, len, cap, zs, hcs, _, hl, hm, hz, hx, hcell, hwz⟩
  · simp only [List.cons.injEq, and_true] at hcs
    subst hcs
    exact ⟨[], Seg.nil _ _, (fun z hz => by cases hz)⟩
  · simp only [List.cons.injEq, and_true] at hcs
    subst hcs
    simp only [if_true] at hz
    have hlen : (zs.take len).length = len := by rw [List.length_take]; omega
    refine ⟨zs.take len, ⟨some x, cap, by rw [hlen], by rw [hlen]; exact hl, hm, (fun h => by cases h), fun y hy i hi => ?_⟩, fun z hz => ?_⟩
    · cases hy
      rw [hlen] at hi
      rw [hcell i (by omega)]
      simp [List.getD, hi]
    · exact bounds_u8 (hwz z (List.mem_of_mem_take hz))

set_option maxHeartbeats 2000000 in
theorem open_msgs {H : Type} {enc : TypeId × Value → H} {W : World} {base : Nat} {v : Value} {d : DataW H} {p : List MemPlace} (hval : Value.okWide Try.prog W .any base 37 v)
    (h : DataW.Trod enc Try.prog W 0 (fun _ => true) true 37 v d p) :
    ∃ ms : List (Mg × List Int), MSeg W v ms ∧ (∀ p ∈ ms, ∀ z ∈ p.2, 0 ≤ z ∧ z ≤ 255) ∧ ms.length ≤ Rows.uptoBulk d := by
  obtain ⟨a, len, cap, rfl⟩ := okWide_slice Try.underlying37 hval
  obtain ⟨fuel, hf⟩ := h
  obtain ⟨f0, f1, f2, f3, f4, f5, f6, f7, f8, f9, f10, f11, he, ⟨o0, o1, o2, o3, o4, o5, o6, o7, o8, o9, o10, o11⟩, ⟨y0, y1, y2, y3, y4, y5, y6, y7, y8, y9, y10, y11⟩⟩ := msg_fields
  have ce : Try.prog.cellsOf 24 = 12 := by kernel_rfl
  have c3 : Try.prog.cellsOf 3 = 1 := by kernel_rfl
  have c22 : Try.prog.cellsOf 22 = 1 := by kernel_rfl
  rcases open_slice Try.underlying37 hf with ⟨hcs, hx⟩ | ⟨x, l, c, m, n, D, Pl, hcs, hb, hl, hm, hmm, hx, hr⟩
  · simp [Value.cells] at hcs
    obtain ⟨rfl, rfl, rfl⟩ := hcs
    exact ⟨[], ⟨none, 0, rfl, Nat.le_refl _, Nat.zero_le _, fun _ => ⟨rfl, rfl⟩, fun g off ar ha _ => by cases ha⟩, (fun t ht => by cases ht), Nat.zero_le _⟩
  · simp [Value.cells] at hcs
    obtain ⟨rfl, rfl, rfl⟩ := hcs
    simp only [if_true] at hmm
    have each : ∀ i, i < len → ∃ t : (Mg × List Int) × Value, (∀ j u, (t.1.1.cells t.2)[j]? = some u → W.cell? (x.add (i * 12 + j)) = some u) ∧ Seg .u8 W t.2 t.1.2 ∧ ∀ z ∈ t.1.2, 0 ≤ z ∧ z ≤ 255 := by
      intro i hi
      obtain ⟨cs', h1, h2⟩ := hr i (by omega)
      rw [ce] at h1
      obtain ⟨_, hlen, hcell⟩ := World.cells?_some h1
      obtain ⟨xs, k, hk, hxy, _, hxl, hg⟩ := DataW.trod_struct he h2
      obtain ⟨q0, q1, q2, q3, q4, q5, q6, q7, q8, q9, q10, q11, rfl⟩ := list12 hxl
      obtain ⟨z0, z1, z2, z3, z4, z5, z6, z7, z8, z9, z10, z11, rfl⟩ := list12 hlen
      have g0 := hg 0 f0 rfl
      have g1 := hg 1 f1 rfl
      have g2 := hg 2 f2 rfl
      have g3 := hg 3 f3 rfl
      have g4 := hg 4 f4 rfl
      have g5 := hg 5 f5 rfl
      have g6 := hg 6 f6 rfl
      have g7 := hg 7 f7 rfl
      have g8 := hg 8 f8 rfl
      have g9 := hg 9 f9 rfl
      have g10 := hg 10 f10 rfl
      have g11 := hg 11 f11 rfl
      clear hg
      simp only [o0, o1, o2, o3, o4, o5, o6, o7, o8, o9, o10, o11, y0, y1, y2, y3, y4, y5, y6, y7, y8, y9, y10, y11, c3, c22, List.drop_zero, List.drop_succ_cons, List.take_succ_cons, List.take_zero, List.getElem?_cons_zero, List.getElem?_cons_succ] at g0 g1 g2 g3 g4 g5 g6 g7 g8 g9 g10 g11
      obtain ⟨n0, e0, _⟩ := DataW.trod_int Try.underlying3 g0
      obtain ⟨n1, e1, _⟩ := DataW.trod_int Try.underlying3 g1
      obtain ⟨n2, e2, _⟩ := DataW.trod_int Try.underlying3 g2
      obtain ⟨n3, e3, _⟩ := DataW.trod_int Try.underlying3 g3
      obtain ⟨n4, e4, _⟩ := DataW.trod_int Try.underlying3 g4
      obtain ⟨n5, e5, _⟩ := DataW.trod_int Try.underlying3 g5
      obtain ⟨n6, e6, _⟩ := DataW.trod_int Try.underlying3 g6
      obtain ⟨n7, e7, _⟩ := DataW.trod_int Try.underlying3 g7
      obtain ⟨n8, e8, _⟩ := DataW.trod_int Try.underlying3 g8
      obtain ⟨n9, e9, _⟩ := DataW.trod_int Try.underlying3 g9
      obtain ⟨n10, e10, _⟩ := DataW.trod_int Try.underlying3 g10
      simp only [List.cons.injEq, and_true] at e0 e1 e2 e3 e4 e5 e6 e7 e8 e9 e10
      subst e0 e1 e2 e3 e4 e5 e6 e7 e8 e9 e10
      obtain ⟨t, hst, hot⟩ := octets_of g11
      refine ⟨((⟨n0, n1, n2, n3, n4, n5, n6, n7, n8, n9, n10⟩, t), z11), fun j u hu => ?_, hst, hot⟩
      have hj : j < 12 := by
        have := (List.getElem?_eq_some_iff.1 hu).1
        exact this
      have := hcell j (by omega)
      rw [add_add] at this
      rw [this]
      exact hu
    haveI : Inhabited ((Mg × List Int) × Value) := ⟨((zmg, []), undef)⟩
    obtain ⟨q, hq⟩ := choose_lt each
    have hlen : ((List.range len).map fun i => (q i).1).length = len := by simp
    have hget : ∀ i t, ((List.range len).map fun i => (q i).1)[i]? = some t → i < len ∧ t = (q i).1 := by
      intro i t ht
      rw [List.getElem?_map] at ht
      by_cases hi : i < len
      · rw [List.getElem?_range hi] at ht
        simp at ht
        exact ⟨hi, ht.symm⟩
      · rw [List.getElem?_eq_none (by simp; omega)] at ht
        simp at ht
    refine ⟨(List.range len).map fun i => (q i).1, ⟨some x, cap, by rw [hlen], by rw [hlen]; exact hl, hm, (fun h => by cases h), fun g off ar ha h00 => ?_⟩, ?_, ?_⟩
    · cases ha
      have h0 : 0 < len := by rw [hlen] at h00; exact h00
      have hc0 := (hq 0 h0).1 0 _ rfl
      have har : ar = none := by simpa [Addr.add] using World.cell?_spot hc0
      subst har
      refine ⟨rfl, by simpa [Addr.add] using World.block_lt_of_cell? W _ hc0, fun i t hi => ?_⟩
      obtain ⟨hil, rfl⟩ := hget i t hi
      obtain ⟨a1, a2, _⟩ := hq i hil
      have hc : ∀ j u, ((q i).1.1.cells (q i).2)[j]? = some u → W.cell? ⟨g, off + i * 12 + j, none⟩ = some u := by
        intro j u hu
        have := a1 j u hu
        rw [add_plain, ← Nat.add_assoc] at this
        exact this
      exact ⟨(q i).2, ⟨hc 0 _ rfl, hc 1 _ rfl, hc 2 _ rfl, hc 3 _ rfl, hc 4 _ rfl, hc 5 _ rfl, hc 6 _ rfl, hc 7 _ rfl, hc 8 _ rfl, hc 9 _ rfl, hc 10 _ rfl, hc 11 _ rfl⟩, a2⟩
    · intro t ht
      obtain ⟨i, hi, rfl⟩ := List.mem_map.1 ht
      exact (hq i (List.mem_range.1 hi)).2.2
    · rw [hlen]
      simp only [Prod.mk.injEq] at hx
      rw [hx.1]
      have := bulk_len ((List.range len).map D)
      simp only [Rows.uptoBulk]
      simp only [List.length_map, List.length_range] at this
      omega
end Go.Proofs.Ytoadcaennlfadaa
