/- Points that are handed in, and how many there are. -/
import Derived.Test.YtcpcnajifdicmaaOpenP
namespace Go.Proofs.Ytcpcnajifdicmaa
open Go.ChangeShapes Go.WideShapes Go.ChangeAt Go.RowKit Go.Deep
set_option maxRecDepth 20000

theorem Try.bytesP : Try.prog.bytesOf 79 = 16 := by kernel_rfl
theorem open_pointsZ {H : Type} {enc : TypeId × Value → H} {W : World} {base : Nat} {v : Value} {d : DataW H} {p : List MemPlace} (hval : Value.okWide Try.prog W .any base 24 v)
    (h : DataW.Trod enc Try.prog W 0 (fun _ => true) true 24 v d p) :
    ∃ l : List Rp.Pt, PSeg .u64 W v l ∧ (∀ t ∈ l, (Lit.int .i64 t.2).wf = true) ∧ (d = .nil ∧ l = [] ∨ ∃ elems spare, d = .slice elems spare ∧ l.length = elems.length) := by
  obtain ⟨a, len, cap, rfl⟩ := okWide_slice Try.underlying24 hval
  obtain ⟨fuel, hf⟩ := h
  obtain ⟨f0, f1, he, o0, o1, y0, y1⟩ := fields_points
  have ce : Try.prog.cellsOf 79 = 2 := by kernel_rfl
  have c3 : Try.prog.cellsOf 3 = 1 := by kernel_rfl
  have c9 : Try.prog.cellsOf 22 = 1 := by kernel_rfl
  rcases open_slice Try.underlying24 hf with ⟨hcs, hx⟩ | ⟨x, l, c, m, n, D, Pl, hcs, hb, hl, hm, hmm, hx, hr⟩
  · simp [Value.cells] at hcs
    obtain ⟨rfl, rfl, rfl⟩ := hcs
    simp only [Prod.mk.injEq] at hx
    exact ⟨[], PSeg.nil _ _, (fun t ht => by cases ht), .inl ⟨hx.1, rfl⟩⟩
  · simp [Value.cells] at hcs
    obtain ⟨rfl, rfl, rfl⟩ := hcs
    simp only [if_true] at hmm
    have each : ∀ i, i < len → ∃ t : Rp.Pt, W.cell? (x.add (i * 2)) = some (.int .u64 t.1) ∧ W.cell? (x.add (i * 2 + 1)) = some (.int .i64 t.2) ∧ (Lit.int .i64 t.2).wf = true := by
      intro i hi
      obtain ⟨cs', h1, h2⟩ := hr i (by omega)
      rw [ce] at h1
      obtain ⟨_, hlen, hcell⟩ := World.cells?_some h1
      obtain ⟨xs, k, hk, hxy, _, hxl, hf⟩ := DataW.trod_struct he h2
      match xs, hxl, cs', hlen with
      | [z0, z1], _, [v0, v1], _ =>
        have g0 := hf 0 f0 rfl
        have g1 := hf 1 f1 rfl
        simp [o0, o1, y0, y1, c3, c9] at g0 g1
        have e0 := hcell 0 (by omega)
        have e1 := hcell 1 (by omega)
        rw [add_add] at e0 e1
        obtain ⟨n0, hn0, _, _⟩ := DataW.trod_int Try.underlying22 g0
        obtain ⟨n1, hn1, _, hw1⟩ := DataW.trod_int Try.underlying3 g1
        simp only [List.cons.injEq, and_true] at hn0 hn1
        subst hn0 hn1
        exact ⟨(n0, n1), by simpa using e0, by simpa using e1, hw1⟩
    obtain ⟨q, hq⟩ := choose_lt each
    have hlen : ((List.range len).map q).length = len := by simp
    refine ⟨(List.range len).map q, ⟨some x, cap, by rw [hlen], by rw [hlen]; exact hl, hm, (fun h => by cases h), fun g off ar ha h00 => ?_⟩, ?_, ?_⟩
    · cases ha
      have h0 : 0 < len := by rw [hlen] at h00; exact h00
      have hc0 := (hq 0 h0).1
      have har : ar = none := by simpa [Addr.add] using World.cell?_spot hc0
      subst har
      refine ⟨rfl, by simpa [Addr.add] using World.block_lt_of_cell? W _ hc0, fun i hi => ?_⟩
      rw [hlen] at hi
      obtain ⟨a1, a2, _⟩ := hq i hi
      rw [add_plain] at a1 a2
      have e : ((List.range len).map q).getD i (0, 0) = q i := by rw [pgetD_at (by rw [hlen]; exact hi)]; simp
      rw [e]
      exact ⟨a1, by rw [Nat.add_assoc]; exact a2⟩
    · intro t ht
      obtain ⟨i, hi, rfl⟩ := List.mem_map.1 ht
      exact (hq i (List.mem_range.1 hi)).2.2
    · simp only [Prod.mk.injEq] at hx
      exact .inr ⟨_, _, hx.1, by simp⟩
end Go.Proofs.Ytcpcnajifdicmaa
