/- Tokens that are handed in. -/
import Derived.Test.YtjeegcfdhoiplaaOpen
import Derived.Test.YtjeegcfdhoiplaaYA
import Derived.Deep.SlicePairs
import Derived.ChangeArms
namespace Go.Proofs.Ytjeegcfdhoiplaa
open Go.ChangeShapes Go.WideShapes Go.ChangeAt Go.RowKit Go.Deep

theorem token_fields : ∃ f0 f1 f2 : Field, Try.prog.underlying 34 = some (.struct #[f0, f1, f2]) ∧ f0.offset = 0 ∧ f1.offset = 1 ∧ f2.offset = 2 ∧ f0.type = 3 ∧ f1.type = 9 ∧ f2.type = 3 := by
  refine ⟨_, _, _, Try.underlying34, rfl, rfl, rfl, rfl, rfl, rfl⟩

theorem open_toks {H : Type} {enc : TypeId × Value → H} {W : World} {base : Nat} {v : Value} {d : DataW H} {p : List MemPlace} (hval : Value.okWide Try.prog W .any base 22 v)
    (h : DataW.Trod enc Try.prog W 0 (fun _ => true) true 22 v d p) :
    ∃ l : List Z3, TSeg W v l ∧ (∀ t ∈ l, t.2.1.size ≤ maxLen) ∧ l.length ≤ Rows.uptoBulk d := by
  obtain ⟨a, len, cap, rfl⟩ := okWide_slice Try.underlying22 hval
  obtain ⟨fuel, hf⟩ := h
  obtain ⟨f0, f1, f2, he, o0, o1, o2, y0, y1, y2⟩ := token_fields
  have ce : Try.prog.cellsOf 34 = 3 := by kernel_rfl
  have c3 : Try.prog.cellsOf 3 = 1 := by kernel_rfl
  have c9 : Try.prog.cellsOf 9 = 1 := by kernel_rfl
  rcases open_slice Try.underlying22 hf with ⟨hcs, hx⟩ | ⟨x, l, c, m, n, D, Pl, hcs, hb, hl, hm, hmm, hx, hr⟩
  · simp [Value.cells] at hcs
    obtain ⟨rfl, rfl, rfl⟩ := hcs
    exact ⟨[], ⟨none, 0, rfl, Nat.le_refl _, Nat.zero_le _, fun _ => ⟨rfl, rfl⟩, fun g off ar ha _ => by cases ha⟩, (fun t ht => by cases ht), Nat.zero_le _⟩
  · simp [Value.cells] at hcs
    obtain ⟨rfl, rfl, rfl⟩ := hcs
    simp only [if_true] at hmm
    have each : ∀ i, i < len → ∃ t : Z3, W.cell? (x.add (i * 3)) = some (.int .i64 t.1) ∧ W.cell? (x.add (i * 3 + 1)) = some (.string t.2.1) ∧ W.cell? (x.add (i * 3 + 2)) = some (.int .i64 t.2.2) ∧ t.2.1.size ≤ maxLen := by
      intro i hi
      obtain ⟨cs', h1, h2⟩ := hr i (by omega)
      rw [ce] at h1
      obtain ⟨_, hlen, hcell⟩ := World.cells?_some h1
      obtain ⟨xs, k, hk, hxy, _, hxl, hf⟩ := DataW.trod_struct he h2
      match xs, hxl, cs', hlen with
      | [z0, z1, z2], _, [v0, v1, v2], _ =>
        have g0 := hf 0 f0 rfl
        have g1 := hf 1 f1 rfl
        have g2 := hf 2 f2 rfl
        simp [o0, o1, o2, y0, y1, y2, c3, c9] at g0 g1 g2
        have e0 := hcell 0 (by omega)
        have e1 := hcell 1 (by omega)
        have e2 := hcell 2 (by omega)
        rw [add_add] at e0 e1 e2
        obtain ⟨n0, hn0, _, _⟩ := DataW.trod_int Try.underlying3 g0
        obtain ⟨s1, hn1, _, hs1⟩ := DataW.trod_string Try.underlying9 g1
        obtain ⟨n2, hn2, _, _⟩ := DataW.trod_int Try.underlying3 g2
        simp only [List.cons.injEq, and_true] at hn0 hn1 hn2
        subst hn0 hn1 hn2
        exact ⟨(n0, s1, n2), by simpa using e0, by simpa using e1, by simpa using e2, hs1⟩
    obtain ⟨q, hq⟩ := choose_lt each
    have hlen : ((List.range len).map q).length = len := by simp
    have hget : ∀ i t, ((List.range len).map q)[i]? = some t → i < len ∧ t = q i := by
      intro i t ht
      rw [List.getElem?_map] at ht
      by_cases hi : i < len
      · rw [List.getElem?_range hi] at ht
        simp at ht
        exact ⟨hi, ht.symm⟩
      · rw [List.getElem?_eq_none (by simp; omega)] at ht
        simp at ht
    refine ⟨(List.range len).map q, ⟨some x, cap, by rw [hlen], by rw [hlen]; exact hl, hm, (fun h => by cases h), fun g off ar ha h00 => ?_⟩, ?_, ?_⟩
    · cases ha
      have h0 : 0 < len := by rw [hlen] at h00; exact h00
      · have hc0 := (hq 0 h0).1
        have har : ar = none := by simpa [Addr.add] using World.cell?_spot hc0
        subst har
        refine ⟨rfl, by simpa [Addr.add] using World.block_lt_of_cell? W _ hc0, fun i t hi => ?_⟩
        obtain ⟨hil, rfl⟩ := hget i t hi
        obtain ⟨a1, a2, a3, _⟩ := hq i hil
        rw [add_plain] at a1 a2 a3
        exact ⟨a1, by rw [Nat.add_assoc]; exact a2, by rw [Nat.add_assoc]; exact a3⟩
    · intro t ht
      obtain ⟨i, hi, rfl⟩ := List.mem_map.1 ht
      exact (hq i (List.mem_range.1 hi)).2.2.2
    · rw [hlen]
      simp only [Prod.mk.injEq] at hx
      rw [hx.1]
      have := bulk_len ((List.range len).map D)
      simp only [Rows.uptoBulk]
      simp only [List.length_map, List.length_range] at this
      omega
end Go.Proofs.Ytjeegcfdhoiplaa
