/- A schema that is handed in. A value that is handed in. The law's alive: the page's example. value: what a meaning asks of a value: isTooLong, isWhole, isInRange. -/
import Derived.Test.YtmiohekmpjiloaaGreatDoorCutPut30
import Derived.Test.YtmiohekmpjiloaaGreatDoorCutPut18
import Derived.Deep.SlicePairs
import Derived.ChangeArms
import Derived.SizedLaws
import Derived.Test.YtmiohekmpjiloaaGreatDoorCutPut25
import Derived.Test.YtmiohekmpjiloaaGreatDoorCutPut29
namespace Go.Proofs.YtmiohekmpjiloaaGreatDoor
open Go.ChangeShapes Go.WideShapes Go.ChangeAt Go.RowKit Go.Deep
set_option maxRecDepth 20000

/-- Rows of a slice that is handed in, each by what its cells are. -/
theorem open_rows {H : Type} {enc : TypeId × Value → H} {W : World} {α : Type} [Inhabited α] (ST E : TypeId) (m : Nat) (hu : Tryz.prog.underlying ST = some (.slice E)) (ce : Tryz.prog.cellsOf E = m) (hm0 : 0 < m) (Q : α → List Value → World → Prop)
    (hE : ∀ (fuel : Nat) (cs : List Value) (x : DataW H × List MemPlace), DataW.trod enc Tryz.prog W 0 (fun _ => true) true fuel E cs = some x → ∃ a : α, Q a cs W)
    {fuel : Nat} {cs : List Value} {x : DataW H × List MemPlace} (hf : DataW.trod enc Tryz.prog W 0 (fun _ => true) true fuel ST cs = some x) : ∃ v, cs = [v] ∧ ∃ xs : List α, SlR m Q W.heap.size W v xs := by
  rcases open_slice hu hf with ⟨hcs, _⟩ | ⟨a, len, cap, mm, n, D, Pl, hcs, _, hl, hm, hmm, _, hr⟩
  · exact ⟨_, hcs, [], none, 0, rfl, by simp, fun i x h => by simp at h⟩
  · refine ⟨_, hcs, ?_⟩
    simp only [if_true] at hmm
    rw [ce] at hr
    have each : ∀ i, i < len → ∃ p : α × List Value, (∀ (j : Nat) (u : Value), p.2[j]? = some u → W.cell? (a.add (i * m + j)) = some u) ∧ p.2.length = m ∧ Q p.1 p.2 W := by
      intro i hi
      obtain ⟨cs', h1, h2⟩ := hr i (by omega)
      obtain ⟨_, hlen, hcell⟩ := World.cells?_some h1
      obtain ⟨y, hy⟩ := hE _ _ _ h2
      refine ⟨(y, cs'), fun j u hj => ?_, hlen, hy⟩
      have hjl : j < m := by
        have := (List.getElem?_eq_some_iff.1 hj).1
        simp only at this
        omega
      have := hcell j hjl
      rw [add_add] at this
      rw [this]
      exact hj
    obtain ⟨q, hq⟩ := choose_lt each
    have hget : ∀ (i : Nat) (t : α), ((List.range len).map fun i => (q i).1)[i]? = some t → i < len ∧ t = (q i).1 := by
      intro i t ht
      rw [List.getElem?_map] at ht
      by_cases hi : i < len
      · rw [List.getElem?_range hi] at ht
        simp at ht
        exact ⟨hi, ht.symm⟩
      · rw [List.getElem?_eq_none (by simp; omega)] at ht
        simp at ht
    refine ⟨(List.range len).map fun i => (q i).1, some a, cap, by simp, by simp; unfold maxLen at hm; omega, fun i t hi => ?_⟩
    obtain ⟨hil, rfl⟩ := hget i t hi
    obtain ⟨k1, k2, k3⟩ := hq i hil
    obtain ⟨l1, l2, l3⟩ := hq 0 (by omega)
    obtain ⟨u, hu0⟩ : ∃ u, (q 0).2[0]? = some u := ⟨(q 0).2[0]'(by omega), by simp⟩
    have hc0 := l1 0 u hu0
    obtain ⟨blk, off, ar⟩ := a
    have har : ar = none := by simpa [Addr.add] using World.cell?_spot hc0
    subst har
    refine ⟨blk, off, (q i).2, rfl, by simpa [Addr.add] using World.block_lt_of_cell? W _ hc0, fun j v hj => ?_, k3⟩
    have := k1 j v hj
    rw [add_plain] at this
    rw [Nat.add_assoc]
    exact this

instance : Inhabited Pl.GT := ⟨.node 0 [] []⟩
instance : Inhabited Pl.GF := ⟨⟨[], 0, .node 0 [] []⟩⟩
instance : Inhabited Pl.GC := ⟨⟨[], 0⟩⟩
instance : Inhabited Pl.GM := ⟨⟨[], false, .node 0 [] [], .node 0 [] []⟩⟩

theorem SlR.lys {B n : Nat} {w : World} {v : Value} {xs : List Pl.GT} (h : SlR 3 (fun g c w => ∃ k s o, c = [k, s, o] ∧ Ly B n g w k s o) B w v xs) : LyS B (n + 1) xs w v := by
  obtain ⟨ad, cp, h1, h2, h3⟩ := h
  refine ⟨ad, cp, h1, h2, fun i g hg => ?_⟩
  obtain ⟨blk, off, c, q1, q2, q3, k, s, o, rfl, rfl, ⟨x, rfl, hx, hxs⟩, hos⟩ := h3 i g hg
  refine ⟨blk, off, x, o, q1, q2, ?_, q3 1 _ rfl, hx, hxs, q3 2 _ rfl, hos⟩
  have := q3 0 _ rfl
  rwa [Nat.add_zero] at this

theorem open_type {H : Type} {enc : TypeId × Value → H} {W : World} (n : Nat) : ∀ (fuel : Nat) (cs : List Value) (x : DataW H × List MemPlace), DataW.trod enc Tryz.prog W 0 (fun _ => true) true fuel 29 cs = some x → ∃ g : Pl.GT, ∃ k s o, cs = [k, s, o] ∧ Ly W.heap.size n g W k s o := by
  obtain ⟨f0, f1, f2, he, o0, o1, o2, y0, y1, y2⟩ : ∃ f0 f1 f2 : Field, Tryz.prog.underlying 29 = some (.struct #[f0, f1, f2]) ∧ f0.offset = 0 ∧ f1.offset = 1 ∧ f2.offset = 2 ∧ f0.type = 3 ∧ f1.type = 9 ∧ f2.type = 27 := ⟨_, _, _, Tryz.underlying29, rfl, rfl, rfl, rfl, rfl, rfl⟩
  have ce : Tryz.prog.cellsOf 29 = 3 := by kernel_rfl
  have c3 : Tryz.prog.cellsOf 3 = 1 := by kernel_rfl
  have c9 : Tryz.prog.cellsOf 9 = 1 := by kernel_rfl
  have cs1 : Tryz.prog.cellsOf 27 = 1 := by kernel_rfl
  induction n with
  | zero =>
    intro fuel cs x h
    obtain ⟨xs, k, hk, hxy, hlen, hxl, hf⟩ := DataW.trod_struct he h
    rw [ce] at hlen
    match xs, hxl, cs, hlen with
    | [z0, z1, z2], _, [v0, v1, v2], _ =>
      have g0 := hf 0 f0 rfl
      have g1 := hf 1 f1 rfl
      have g2 := hf 2 f2 rfl
      simp [o0, o1, o2, y0, y1, y2, c3, c9, cs1] at g0 g1 g2
      obtain ⟨n0, hn0, _, _⟩ := DataW.trod_int Tryz.underlying3 g0
      obtain ⟨s1, hn1, _, hs1⟩ := DataW.trod_string Tryz.underlying9 g1
      simp only [List.cons.injEq, and_true] at hn0 hn1
      subst hn0 hn1
      refine ⟨.node n0 (bl s1) [], _, _, _, rfl, rfl, ⟨s1, rfl, rfl, hs1⟩, ?_⟩
      rcases open_slice Tryz.underlying27 g2 with ⟨hcs, _⟩ | ⟨a, len, cap, mm, n, D, Pl, hcs, _⟩
      · simp only [List.cons.injEq, and_true] at hcs
        exact ⟨_, _, _, hcs⟩
      · simp only [List.cons.injEq, and_true] at hcs
        exact ⟨_, _, _, hcs⟩
  | succ n ih =>
    intro fuel cs x h
    obtain ⟨xs, k, hk, hxy, hlen, hxl, hf⟩ := DataW.trod_struct he h
    rw [ce] at hlen
    match xs, hxl, cs, hlen with
    | [z0, z1, z2], _, [v0, v1, v2], _ =>
      have g0 := hf 0 f0 rfl
      have g1 := hf 1 f1 rfl
      have g2 := hf 2 f2 rfl
      simp [o0, o1, o2, y0, y1, y2, c3, c9, cs1] at g0 g1 g2
      obtain ⟨n0, hn0, _, _⟩ := DataW.trod_int Tryz.underlying3 g0
      obtain ⟨s1, hn1, _, hs1⟩ := DataW.trod_string Tryz.underlying9 g1
      simp only [List.cons.injEq, and_true] at hn0 hn1
      subst hn0 hn1
      obtain ⟨v, hv, os, hos⟩ := open_rows 27 29 3 Tryz.underlying27 ce (by omega) (fun g c w => ∃ k s o, c = [k, s, o] ∧ Ly W.heap.size n g w k s o) (fun fuel cs x h => ih fuel cs x h) g2
      simp only [List.cons.injEq, and_true] at hv
      subst hv
      exact ⟨.node n0 (bl s1) os, _, _, _, rfl, rfl, ⟨s1, rfl, rfl, hs1⟩, hos.lys⟩

theorem open_field {H : Type} {enc : TypeId × Value → H} {W : World} (n : Nat) (fuel : Nat) (cs : List Value) (x : DataW H × List MemPlace) (h : DataW.trod enc Tryz.prog W 0 (fun _ => true) true fuel 61 cs = some x) : ∃ f : Pl.GF, GFR W.heap.size n f cs W := by
  obtain ⟨f0, f1, f2, he, o0, o1, o2, y0, y1, y2⟩ : ∃ f0 f1 f2 : Field, Tryz.prog.underlying 61 = some (.struct #[f0, f1, f2]) ∧ f0.offset = 0 ∧ f1.offset = 1 ∧ f2.offset = 2 ∧ f0.type = 9 ∧ f1.type = 3 ∧ f2.type = 29 := ⟨_, _, _, Tryz.underlying61, rfl, rfl, rfl, rfl, rfl, rfl⟩
  have ce : Tryz.prog.cellsOf 61 = 5 := by kernel_rfl
  have ct : Tryz.prog.cellsOf 29 = 3 := by kernel_rfl
  have c3 : Tryz.prog.cellsOf 3 = 1 := by kernel_rfl
  have c9 : Tryz.prog.cellsOf 9 = 1 := by kernel_rfl
  obtain ⟨xs, k, hk, hxy, hlen, hxl, hf⟩ := DataW.trod_struct he h
  rw [ce] at hlen
  match xs, hxl, cs, hlen with
  | [z0, z1, z2], _, [v0, v1, v2, v3, v4], _ =>
    have g0 := hf 0 f0 rfl
    have g1 := hf 1 f1 rfl
    have g2 := hf 2 f2 rfl
    simp [o0, o1, o2, y0, y1, y2, c3, c9, ct] at g0 g1 g2
    obtain ⟨n1, hn1, _, _⟩ := DataW.trod_int Tryz.underlying3 g1
    obtain ⟨s0, hn0, _, hs0⟩ := DataW.trod_string Tryz.underlying9 g0
    obtain ⟨g, k, s, o, hc, hl⟩ := open_type n _ _ _ g2
    simp only [List.cons.injEq, and_true] at hn0 hn1 hc
    obtain ⟨rfl, rfl, rfl⟩ := hc
    subst hn0 hn1
    exact ⟨⟨bl s0, n1, g⟩, s0, _, _, _, rfl, rfl, hs0, hl⟩

theorem open_case {H : Type} {enc : TypeId × Value → H} {W : World} (fuel : Nat) (cs : List Value) (x : DataW H × List MemPlace) (h : DataW.trod enc Tryz.prog W 0 (fun _ => true) true fuel 101 cs = some x) : ∃ f : Pl.GC, GCR f cs W := by
  obtain ⟨f0, f1, he, o0, o1, y0, y1⟩ : ∃ f0 f1 : Field, Tryz.prog.underlying 101 = some (.struct #[f0, f1]) ∧ f0.offset = 0 ∧ f1.offset = 1 ∧ f0.type = 9 ∧ f1.type = 3 := ⟨_, _, Tryz.underlying101, rfl, rfl, rfl, rfl⟩
  have ce : Tryz.prog.cellsOf 101 = 2 := by kernel_rfl
  have c3 : Tryz.prog.cellsOf 3 = 1 := by kernel_rfl
  have c9 : Tryz.prog.cellsOf 9 = 1 := by kernel_rfl
  obtain ⟨xs, k, hk, hxy, hlen, hxl, hf⟩ := DataW.trod_struct he h
  rw [ce] at hlen
  match xs, hxl, cs, hlen with
  | [z0, z1], _, [v0, v1], _ =>
    have g0 := hf 0 f0 rfl
    have g1 := hf 1 f1 rfl
    simp [o0, o1, y0, y1, c3, c9] at g0 g1
    obtain ⟨n1, hn1, _, _⟩ := DataW.trod_int Tryz.underlying3 g1
    obtain ⟨s0, hn0, _, hs0⟩ := DataW.trod_string Tryz.underlying9 g0
    simp only [List.cons.injEq, and_true] at hn0 hn1
    subst hn0 hn1
    exact ⟨⟨bl s0, n1⟩, s0, rfl, rfl, hs0⟩

theorem open_method {H : Type} {enc : TypeId × Value → H} {W : World} (n : Nat) (fuel : Nat) (cs : List Value) (x : DataW H × List MemPlace) (h : DataW.trod enc Tryz.prog W 0 (fun _ => true) true fuel 122 cs = some x) : ∃ f : Pl.GM, GMR W.heap.size n f cs W := by
  obtain ⟨f0, f1, f2, f3, he, o0, o1, o2, o3, y0, y1, y2, y3⟩ : ∃ f0 f1 f2 f3 : Field, Tryz.prog.underlying 122 = some (.struct #[f0, f1, f2, f3]) ∧ f0.offset = 0 ∧ f1.offset = 1 ∧ f2.offset = 2 ∧ f3.offset = 5 ∧ f0.type = 9 ∧ f1.type = 4 ∧ f2.type = 29 ∧ f3.type = 29 := ⟨_, _, _, _, Tryz.underlying122, rfl, rfl, rfl, rfl, rfl, rfl, rfl, rfl⟩
  have ce : Tryz.prog.cellsOf 122 = 8 := by kernel_rfl
  have ct : Tryz.prog.cellsOf 29 = 3 := by kernel_rfl
  have c4 : Tryz.prog.cellsOf 4 = 1 := by kernel_rfl
  have c9 : Tryz.prog.cellsOf 9 = 1 := by kernel_rfl
  obtain ⟨xs, k, hk, hxy, hlen, hxl, hf⟩ := DataW.trod_struct he h
  rw [ce] at hlen
  match xs, hxl, cs, hlen with
  | [z0, z1, z2, z3], _, [v0, v1, v2, v3, v4, v5, v6, v7], _ =>
    have g0 := hf 0 f0 rfl
    have g1 := hf 1 f1 rfl
    have g2 := hf 2 f2 rfl
    have g3 := hf 3 f3 rfl
    simp [o0, o1, o2, o3, y0, y1, y2, y3, c4, c9, ct] at g0 g1 g2 g3
    obtain ⟨b1, hn1, _⟩ := DataW.trod_bool Tryz.underlying4 g1
    obtain ⟨s0, hn0, _, hs0⟩ := DataW.trod_string Tryz.underlying9 g0
    obtain ⟨g, k, s, o, hc, hl⟩ := open_type n _ _ _ g2
    obtain ⟨g', k', s', o', hc', hl'⟩ := open_type n _ _ _ g3
    simp only [List.cons.injEq, and_true] at hn0 hn1 hc hc'
    obtain ⟨rfl, rfl, rfl⟩ := hc
    obtain ⟨rfl, rfl, rfl⟩ := hc'
    subst hn0 hn1
    exact ⟨⟨bl s0, b1, g, g'⟩, s0, _, _, _, _, _, _, rfl, rfl, hs0, hl, hl'⟩

/-- A declaration: its name and its parts. -/
theorem open_decl {H : Type} {enc : TypeId × Value → H} {W : World} {α : Type} [Inhabited α] (D S E : TypeId) (m : Nat) (f0 f1 : Field) (he : Tryz.prog.underlying D = some (.struct #[f0, f1])) (o0 : f0.offset = 0) (o1 : f1.offset = 1) (y0 : f0.type = 9) (y1 : f1.type = S) (ce : Tryz.prog.cellsOf D = 2) (cs1 : Tryz.prog.cellsOf S = 1) (hu : Tryz.prog.underlying S = some (.slice E)) (cm : Tryz.prog.cellsOf E = m) (hm0 : 0 < m) (R : α → List Value → World → Prop)
    (hE : ∀ (fuel : Nat) (cs : List Value) (x : DataW H × List MemPlace), DataW.trod enc Tryz.prog W 0 (fun _ => true) true fuel E cs = some x → ∃ a : α, R a cs W)
    (fuel : Nat) (cs : List Value) (x : DataW H × List MemPlace) (h : DataW.trod enc Tryz.prog W 0 (fun _ => true) true fuel D cs = some x) : ∃ d : List Nat × List α, GDR m R W.heap.size d cs W := by
  have c9 : Tryz.prog.cellsOf 9 = 1 := by kernel_rfl
  obtain ⟨xs, k, hk, hxy, hlen, hxl, hf⟩ := DataW.trod_struct he h
  rw [ce] at hlen
  match xs, hxl, cs, hlen with
  | [z0, z1], _, [v0, v1], _ =>
    have g0 := hf 0 f0 rfl
    have g1 := hf 1 f1 rfl
    simp [o0, o1, y0, y1, c9, cs1] at g0 g1
    obtain ⟨s0, hn0, _, hs0⟩ := DataW.trod_string Tryz.underlying9 g0
    obtain ⟨v, hv, ps, hps⟩ := open_rows S E m hu cm hm0 R hE g1
    simp only [List.cons.injEq, and_true] at hn0 hv
    subst hn0 hv
    exact ⟨(bl s0, ps), s0, _, rfl, rfl, hs0, hps⟩

/-- A schema that is handed in: three slices, which lie as a schema of any make. -/
theorem open_schema {H : Type} {enc : TypeId × Value → H} {W : World} {base : Nat} {v : Value} {d : DataW H} {p : List MemPlace} (n : Nat) (hval : Value.okWide Tryz.prog W .any base 26 v)
    (h : DataW.Trod enc Tryz.prog W 0 (fun _ => true) true 26 v d p) :
    ∃ s1 s2 s3 a b c, v = .agg #[s1, s2, s3] ∧ SchL W.heap.size n a b c s1 s2 s3 W := by
  obtain ⟨f0, f1, f2, he, o0, o1, o2, y0, y1, y2⟩ : ∃ f0 f1 f2 : Field, Tryz.prog.underlying 26 = some (.struct #[f0, f1, f2]) ∧ f0.offset = 0 ∧ f1.offset = 1 ∧ f2.offset = 2 ∧ f0.type = 22 ∧ f1.type = 23 ∧ f2.type = 24 := ⟨_, _, _, Tryz.underlying26, rfl, rfl, rfl, rfl, rfl, rfl⟩
  have ce : Tryz.prog.cellsOf 26 = 3 := by kernel_rfl
  have c1 : Tryz.prog.cellsOf 22 = 1 := by kernel_rfl
  have c2 : Tryz.prog.cellsOf 23 = 1 := by kernel_rfl
  have c3 : Tryz.prog.cellsOf 24 = 1 := by kernel_rfl
  unfold Value.okWide at hval
  rw [Tryz.underlying26] at hval
  obtain ⟨cs, rfl, hsz, _⟩ := hval
  obtain ⟨fuel, hf0⟩ := h
  obtain ⟨xs, k, hk, hxy, hlen, hxl, hf⟩ := DataW.trod_struct he hf0
  rw [ce] at hsz
  obtain ⟨l⟩ := cs
  match xs, hxl, l, hsz with
  | [z0, z1, z2], _, [v0, v1, v2], _ =>
    have g0 := hf 0 f0 rfl
    have g1 := hf 1 f1 rfl
    have g2 := hf 2 f2 rfl
    simp [o0, o1, o2, y0, y1, y2, c1, c2, c3, Value.cells] at g0 g1 g2
    obtain ⟨w0, hv0, a, ha⟩ := open_rows 22 59 2 Tryz.underlying22 (by kernel_rfl) (by omega) (GDR 5 (GFR W.heap.size n) W.heap.size) (open_decl 59 57 61 5 _ _ Tryz.underlying59 rfl rfl rfl rfl (by kernel_rfl) (by kernel_rfl) Tryz.underlying57 (by kernel_rfl) (by omega) _ (open_field n)) g0
    obtain ⟨w1, hv1, b, hb⟩ := open_rows 23 83 2 Tryz.underlying23 (by kernel_rfl) (by omega) (GDR 2 GCR W.heap.size) (open_decl 83 81 101 2 _ _ Tryz.underlying83 rfl rfl rfl rfl (by kernel_rfl) (by kernel_rfl) Tryz.underlying81 (by kernel_rfl) (by omega) _ open_case) g1
    obtain ⟨w2, hv2, c, hc⟩ := open_rows 24 86 2 Tryz.underlying24 (by kernel_rfl) (by omega) (GDR 8 (GMR W.heap.size n) W.heap.size) (open_decl 86 84 122 8 _ _ Tryz.underlying86 rfl rfl rfl rfl (by kernel_rfl) (by kernel_rfl) Tryz.underlying84 (by kernel_rfl) (by omega) _ (open_method n)) g2
    simp only [List.cons.injEq, and_true] at hv0 hv1 hv2
    subst hv0 hv1 hv2
    exact ⟨_, _, _, a, b, c, rfl, ha, hb, hc⟩

theorem rows_len {H : Type} {enc : TypeId × Value → H} {W : World} {ST E : TypeId} (hu : Tryz.prog.underlying ST = some (.slice E)) {fuel : Nat} {ad : Option Addr} {L cp : Nat} {x : DataW H × List MemPlace} (hf : DataW.trod enc Tryz.prog W 0 (fun _ => true) true fuel ST [.slice ad L cp] = some x) : L = 0 ∨ ∃ elems spare, x.1 = .slice elems spare ∧ elems.length = L := by
  rcases open_slice hu hf with ⟨hcs, _⟩ | ⟨a, len, cap, mm, n, D, Pl, hcs, _, _, _, _, hx, _⟩
  · simp only [List.cons.injEq, Value.slice.injEq, and_true] at hcs
    exact .inl hcs.2.1
  · simp only [List.cons.injEq, Value.slice.injEq, and_true] at hcs
    refine .inr ⟨_, _, congrArg Prod.fst hx, ?_⟩
    rw [List.length_map, List.length_range, hcs.2.1]

/-- A schema that is handed in has no more declarations than memory holds. -/
theorem schema_sized {H : Type} {enc : TypeId × Value → H} {W : World} {a1 a2 a3 : Option Addr} {m1 m2 m3 c1 c2 c3 : Nat} {d : DataW H} {p : List MemPlace} (h : DataW.Trod enc Tryz.prog W 0 (fun _ => true) true 26 (.agg #[.slice a1 m1 c1, .slice a2 m2 c2, .slice a3 m3 c3]) d p)
    {ts : List TypeId} {ds : List (DataW H)} (hsz : (DataW.weightsEach Tryz.prog ts ds).all (· ≤ reachBytes) = true) {j : Nat} (htj : ts[j]? = some 26) (hdj : ds[j]? = some d) : m1 ≤ 140737488355328 ∧ m2 ≤ 140737488355328 ∧ m3 ≤ 140737488355328 := by
  obtain ⟨f0, f1, f2, he, o0, o1, o2, y0, y1, y2⟩ : ∃ f0 f1 f2 : Field, Tryz.prog.underlying 26 = some (.struct #[f0, f1, f2]) ∧ f0.offset = 0 ∧ f1.offset = 1 ∧ f2.offset = 2 ∧ f0.type = 22 ∧ f1.type = 23 ∧ f2.type = 24 := ⟨_, _, _, Tryz.underlying26, rfl, rfl, rfl, rfl, rfl, rfl⟩
  have q1 : Tryz.prog.cellsOf 22 = 1 := by kernel_rfl
  have q2 : Tryz.prog.cellsOf 23 = 1 := by kernel_rfl
  have q3 : Tryz.prog.cellsOf 24 = 1 := by kernel_rfl
  have b1 : 1 ≤ Tryz.prog.bytesOf 59 := of_decide_eq_true (by kernel_rfl)
  have b2 : 1 ≤ Tryz.prog.bytesOf 83 := of_decide_eq_true (by kernel_rfl)
  have b3 : 1 ≤ Tryz.prog.bytesOf 86 := of_decide_eq_true (by kernel_rfl)
  obtain ⟨fuel, hf0⟩ := h
  obtain ⟨xs, k, hk, hxy, hlen, hxl, hf⟩ := DataW.trod_struct he hf0
  match xs, hxl with
  | [z0, z1, z2], _ =>
    have g0 := hf 0 f0 rfl
    have g1 := hf 1 f1 rfl
    have g2 := hf 2 f2 rfl
    simp [o0, o1, o2, y0, y1, y2, q1, q2, q3, Value.cells] at g0 g1 g2
    simp only [Prod.mk.injEq] at hxy
    obtain ⟨rfl, _⟩ := hxy
    have key : ∀ (i : Nat) (ST E : TypeId) (z : DataW H) (elems spare : List (DataW H)), ([22, 23, 24] : List TypeId)[i]? = some ST → ([z0, z1, z2].map (fun x => x.1))[i]? = some z → z = .slice elems spare → Tryz.prog.underlying ST = some (.slice E) → 1 ≤ Tryz.prog.bytesOf E → elems.length ≤ 140737488355328 := by
      intro i ST E z elems spare h1 h2 h3 h4 h5
      subst h3
      have hm : (elems.length + spare.length) * Tryz.prog.bytesOf E ∈ DataW.weights Tryz.prog 26 (.agg ([z0, z1, z2].map (fun x => x.1))) := by
        have := DataW.weights_mem_each (P := Tryz.prog) h1 h2 ((elems.length + spare.length) * Tryz.prog.bytesOf E) (by simp [DataW.weights, h4])
        simpa [DataW.weights, he, y0, y1, y2] using this
      have hall := List.all_eq_true.1 hsz _ (DataW.weights_mem_each htj hdj _ hm)
      have hle : (elems.length + spare.length) * Tryz.prog.bytesOf E ≤ reachBytes := by simpa using hall
      have hmul : elems.length + spare.length ≤ (elems.length + spare.length) * Tryz.prog.bytesOf E := Nat.le_mul_of_pos_right _ h5
      simp only [reachBytes] at hle
      omega
    refine ⟨?_, ?_, ?_⟩
    · rcases rows_len Tryz.underlying22 g0 with h | ⟨elems, spare, h1, h2⟩
      · omega
      · have := key 0 _ _ _ elems spare rfl rfl h1 Tryz.underlying22 b1
        omega
    · rcases rows_len Tryz.underlying23 g1 with h | ⟨elems, spare, h1, h2⟩
      · omega
      · have := key 1 _ _ _ elems spare rfl rfl h1 Tryz.underlying23 b2
        omega
    · rcases rows_len Tryz.underlying24 g2 with h | ⟨elems, spare, h1, h2⟩
      · omega
      · have := key 2 _ _ _ elems spare rfl rfl h1 Tryz.underlying24 b3
        omega
end Go.Proofs.YtmiohekmpjiloaaGreatDoor

namespace Go.Proofs.YtmiohekmpjiloaaGreatDoor
open Go.ChangeShapes Go.WideShapes Go.ChangeAt Go.RowKit Go.Deep
set_option maxRecDepth 20000

theorem SlR.vys {B n : Nat} {w : World} {v : Value} {xs : List Pl.GV} (h : SlR 4 (fun g c w => ∃ o, c = [.int .i64 g.i, .int .u64 g.u, .string g.t, o] ∧ VyS B n g.l w o) B w v xs) : VyS B (n + 1) xs w v := by
  obtain ⟨ad, cp, h1, h2, h3⟩ := h
  refine ⟨ad, cp, h1, h2, fun i g hg => ?_⟩
  obtain ⟨blk, off, c, q1, q2, q3, o, rfl, hos⟩ := h3 i g hg
  refine ⟨blk, off, o, q1, q2, ?_, q3 1 _ rfl, q3 2 _ rfl, q3 3 _ rfl, hos⟩
  have := q3 0 _ rfl
  rwa [Nat.add_zero] at this

end Go.Proofs.YtmiohekmpjiloaaGreatDoor

namespace Go.Proofs.YtmiohekmpjiloaaGreatDoor
open Go.RowKit
set_option maxRecDepth 20000

set_option maxHeartbeats 1000000 in
theorem num7_any (e : Int) (w : World) : Calls Tryz.prog 14 #[.int .i64 e] w fun r w' => r = .returned (.int .i64 e) ∧ w' = w := by
  go_enter Tryz.func14, Tryz.ntmps14
  go_wp2
  go_ret
  exact ⟨rfl, rfl⟩

/-- The text of alive, and what it declares. -/
def sP : ByteArray := { data := #[115, 116, 114, 117, 99, 116, 32, 80, 32, 123, 32, 49, 32, 120, 32, 58, 32, 105, 110, 116, 59, 32, 50, 32, 108, 32, 58, 32, 91, 117, 105, 110, 116, 93, 59, 32, 125] }
def xP : List Nat × List Pl.Fld := ([80], [⟨1, [120], .plain 2⟩, ⟨2, [108], .list (.plain 3)⟩])
theorem tok_P : (tokA sP).2.2 = 0 ∧ (tokA sP).1.map Pl.kt = [(1, Pl.wStruct), (1, [80]), (3, [123]), (2, [49]), (1, [120]), (3, [58]), (1, [105, 110, 116]), (3, [59]), (2, [50]), (1, [108]), (3, [58]), (3, [91]), (1, [117, 105, 110, 116]), (3, [93]), (3, [59]), (3, [125])] := by decide
theorem ok_P : TOk sP [Pl.mkSt xP] := ⟨tok_P.1, by rw [tok_P.2]; rfl⟩
theorem okd_P : Pl.okDecl (Pl.mkSt xP) := ok_P.good.1 _ (List.mem_singleton.2 rfl)
theorem okn_P : Pl.okName (bl ⟨#[80]⟩) := by
  rw [show bl ⟨#[80]⟩ = [80] by decide]
  exact okd_P.1
theorem all_P : allE [xP] [] [] = 0 := by decide
theorem flat_P : ∀ f ∈ xP.2, Pl.okFld f ∧ flatT f.ty := by
  intro f hf
  refine ⟨okd_P.2.2 f hf, ?_⟩
  simp [xP] at hf
  rcases hf with rfl | rfl <;> trivial
theorem good_P : FGood (knP (fnd [xP] [] [])) xP.2 := by
  refine ⟨?_, ?_, ?_⟩
  · intro a ha
    simp [xP] at ha
    rcases ha with rfl | rfl <;> exact ⟨by decide, by decide⟩
  · intro i k a b hk ha hb
    match i, k, hk with
    | 0, k, hk => omega
    | 1, 0, _ =>
      simp [xP] at ha hb
      subst ha hb
      exact ⟨by decide, by decide⟩
    | i + 2, k, _ => simp [xP] at ha
  · intro a ha
    simp [xP] at ha
    rcases ha with rfl | rfl <;> rfl
theorem one_P : OneT sP xP := ⟨okd_P, tok_P.1, tok_P.2.trans (by decide), by decide, good_P, flat_P, by decide⟩
theorem rows_vys {B k : Nat} (hk : k ≤ 1000) {w : World} {o : Value} (h : Rows 33 4 ZR B w o (List.replicate k ())) : ∀ n, VyS w.heap.size n (List.replicate k zeroV) w o := by
  intro n
  obtain ⟨ad, cp, hsh⟩ := h.shape
  cases n with
  | zero => exact ⟨_, _, _, hsh⟩
  | succ n =>
    have h1 := h.sl (R' := fun (g : Pl.GV) c w' => ∃ o, c = [.int .i64 g.i, .int .u64 g.u, .string g.t, o] ∧ VyS w.heap.size n g.l w' o) (fun _ => zeroV) (by simpa using hk) (fun _ _ c hc => ⟨.slice none 0 0, hc, VyS.nil _ _ _⟩)
    rw [List.map_replicate] at h1
    exact h1.vys
theorem sc_P {B : Nat} {w : World} {s1 : Value} (h : Rows 59 2 (SctR B) B w s1 [xP]) : ScOk w s1 (.slice none 0 0) (.slice none 0 0) 0 (some ([xP], [], [])) := by
  exact ⟨one_sch okd_P h, ⟨_, Pl.schW_ok _ _ _ (one_in okd_P) (by decide)⟩, one_in okd_P, by decide, all_P.symm⟩

def gP : Pl.GV := .node 0 0 ⟨#[]⟩ [zeroV, zeroV]
theorem deep_P : deepV 100 [gP] = 2 := by decide

set_option maxHeartbeats 8000000 in
theorem alive7_any (w : World) (ht : Tab w.heap.size w) : Calls Tryz.prog 24 #[] w fun e w' => e = .returned (.bool true) ∧ Below w.heap.size w w' := by
  have H1 := hid (rOf_one sP xP one_P w)
  have HT := hid ht
  unfold sP at H1
  clear ht
  go_enter Tryz.func24, Tryz.ntmps24
  go_wp2_with fail
  refine H1.out.mono ?_
  rintro e w1 ⟨s1, rfl, hR, hb1⟩
  obtain ⟨as1, cs1, rfl⟩ := hR.shape
  simp only [List.length_cons, List.length_nil, Nat.zero_add] at *
  have hba := below_alloc w1 (.cells #[.slice as1 1 cs1, .slice none 0 0, .slice none 0 0] 26)
  have hb2 := below_next hb1 hba
  have h2 := Default_struct [xP] [] [] _ _ _ ⟨#[80]⟩ 0 xP rfl (by decide) okn_P flat_P (by decide) none 0 (w1.alloc (.cells #[.slice as1 1 cs1, .slice none 0 0, .slice none 0 0] 26)) ((sc_P hR).below hba) ((HT.out.below hb2).up2 hb2.size)
  have H2 := hid h2
  have HB2 := hid hb2
  clear hR hb1 hba hb2 h2 H1
  go_wp2_with fail
  refine H2.out.mono ?_
  rintro e w3 ⟨o, rfl, hR3, hb3⟩
  have hR3' : Rows 33 4 ZR (w1.alloc (.cells #[.slice as1 1 cs1, .slice none 0 0, .slice none 0 0] 26)).heap.size w3 o (List.replicate 2 ()) := hR3
  obtain ⟨ao, co, rfl⟩ := hR3'.shape
  simp only [List.length_replicate] at *
  have hV3 := rows_vys (by omega) hR3'
  have hb3' := below_next HB2.out hb3
  have hba := below_alloc w3 (.cells #[.int .i64 0, .int .u64 0, .string ⟨#[]⟩, .slice ao 2 co] 33)
  have hb4 := below_next hb3' hba
  have hV4 := fun n => VyS.bel hba n _ _ (hV3 n)
  have hB4 : Bx (w3.alloc (.cells #[.int .i64 0, .int .u64 0, .string ⟨#[]⟩, .slice ao 2 co] 33)) w3.heap.size [.int .i64 0, .int .u64 0, .string ⟨#[]⟩, .slice ao 2 co] 33 := Bx.new w3 _ _
  obtain ⟨w4, hw4⟩ : ∃ w4, w4 = w3.alloc (.cells #[.int .i64 0, .int .u64 0, .string ⟨#[]⟩, .slice ao 2 co] 33) := ⟨_, rfl⟩
  rw [← hw4] at hb4 hV4 hB4
  have hz34 : w3.heap.size ≤ w4.heap.size := Nat.le_of_lt hB4.lt
  have HDEEP : Hid (Calls Tryz.prog 16 #[.agg #[.int .i64 0, .int .u64 0, .string ⟨#[]⟩, .slice ao 2 co]] w4 fun e w' => e = .returned (.int .i64 2) ∧ Below w4.heap.size w4 w') := by
    have h := DeepV_any w3.heap.size gP (.slice ao 2 co) w4 (hV4 99) hz34
    rw [deep_P] at h
    exact h
  have HNUM := hid (fun W => num7_any 0 W)
  have HV4 := hid hV4
  have HB4 := hid hB4
  have Hb4 := hid hb4
  have HW4 := hid hw4
  have x0 := hB4.cell 0 rfl
  have x1 := hB4.cell 1 rfl
  have x2 := hB4.cell 2 rfl
  have x3 := hB4.cell 3 rfl
  clear hR3 hR3' hV3 hb3 hb3' hba hV4 hB4 hb4 hw4 H2
  go_wp2_with fail
  rw [← HW4.out]
  refine (HNUM.out _).mono ?_
  rintro e w5 ⟨rfl, rfl⟩
  go_wp2_with fail
  refine HDEEP.out.mono ?_
  rintro e w6 ⟨rfl, hb6⟩
  have hB6 := HB4.out.below hb6
  have hba := below_alloc w6 (.cells #[.int .i64 0, .int .u64 0, .string ⟨#[]⟩, .slice ao 2 co] 33)
  have hb67 := below_next hb6 hba
  have HSZ : Hid (Calls Tryz.prog 18 #[.slice (some ⟨w6.heap.size, 0, none⟩) 1 1] (w6.alloc (.cells #[.int .i64 0, .int .u64 0, .string ⟨#[]⟩, .slice ao 2 co] 33)) fun e w' => e = .returned (.int .i64 3) ∧ Below (w6.alloc (.cells #[.int .i64 0, .int .u64 0, .string ⟨#[]⟩, .slice ao 2 co] 33)).heap.size (w6.alloc (.cells #[.int .i64 0, .int .u64 0, .string ⟨#[]⟩, .slice ao 2 co] 33)) w') :=
    Size_one w3.heap.size 0 gP (fun x hx => by simp [gP, Pl.GV.l] at hx; rw [hx]; rfl) w6.heap.size 2 ⟨by omega, by omega⟩ ao co _ (Bx.new w6 _ _) (VyS.bel (hb67.mono hz34) _ _ _ (HV4.out 2)) (Nat.le_trans hz34 hb67.size)
  have HB7 := hid (below_next Hb4.out hb67)
  have y0 := hB6.cell 0 rfl
  have y1 := hB6.cell 1 rfl
  have y2 := hB6.cell 2 rfl
  have y3 := hB6.cell 3 rfl
  clear hb6 hB6 hba hb67 x0 x1 x2 x3 HDEEP
  go_wp2_with fail
  refine HSZ.out.mono ?_
  rintro e w8 ⟨rfl, hb8⟩
  have HL := hid (below_next HB7.out hb8)
  clear hb8
  go_wp2
  go_ret
  exact ⟨rfl, HL.out⟩
end Go.Proofs.YtmiohekmpjiloaaGreatDoor

namespace Go.Proofs.YtmiohekmpjiloaaGreatDoor
open Go.RowKit
set_option maxRecDepth 20000

def tooL (κ : Int) (s m : Nat) : Bool := decide (1024 < s) || (decide (κ = 6) && decide (64 < m))
set_option maxHeartbeats 4000000 in
theorem tooLong_any (κ : Int) (sn : ByteArray) (ao af ac : Option Addr) (mo co mf cf mc cc : Nat) (i u : Int) (t : ByteArray) (a1 : Option Addr) (m1 c1 : Nat) (w : World) :
    Calls Tryz.prog 56 #[.agg #[.int .i64 κ, .string sn, .slice ao mo co, .slice af mf cf, .slice ac mc cc], .agg #[.int .i64 i, .int .u64 u, .string t, .slice a1 m1 c1]] w fun e w' => e = .returned (.bool (tooL κ t.size m1)) ∧ Below w.heap.size w w' := by
  have HB := hid (below_next (below_alloc w (.cells #[.int .i64 κ, .string sn, .slice ao mo co, .slice af mf cf, .slice ac mc cc] 97)) (below_alloc _ (.cells #[.int .i64 i, .int .u64 u, .string t, .slice a1 m1 c1] 33)))
  unfold tooL
  by_cases h1 : 1024 < t.size
  · rw [decide_eq_true h1, Bool.true_or]
    have h1I : (1024 : Int) < (t.size : Int) := by omega
    go_enter Tryz.func56, Tryz.ntmps56
    go_wp2
    go_ret
    exact ⟨rfl, HB.out⟩
  · rw [decide_eq_false h1, Bool.false_or]
    have h1I : ¬ (1024 : Int) < (t.size : Int) := by omega
    by_cases h6 : κ = 6
    · subst h6
      by_cases h2 : 64 < m1
      · rw [decide_eq_true h2]
        have h2I : (64 : Int) < (m1 : Int) := by omega
        go_enter Tryz.func56, Tryz.ntmps56
        go_wp2
        go_ret
        exact ⟨rfl, HB.out⟩
      · rw [decide_eq_false h2]
        have h2I : ¬ (64 : Int) < (m1 : Int) := by omega
        go_enter Tryz.func56, Tryz.ntmps56
        go_wp2
        go_ret
        exact ⟨rfl, HB.out⟩
    · rw [decide_eq_false h6, Bool.false_and]
      have hq : (κ == 6) = false := by simp [h6]
      go_enter Tryz.func56, Tryz.ntmps56
      go_wp2
      go_ret
      exact ⟨rfl, HB.out⟩

def wholeB (κ : Int) (mf m : Nat) : Bool := if κ = 7 then decide (m ≤ 1) else if κ = 9 then decide (m = mf) else true
set_option maxHeartbeats 4000000 in
theorem whole_any (κ : Int) (sn : ByteArray) (ao af ac : Option Addr) (mo co mf cf mc cc : Nat) (i u : Int) (t : ByteArray) (a1 : Option Addr) (m1 c1 : Nat) (w : World) :
    Calls Tryz.prog 58 #[.agg #[.int .i64 κ, .string sn, .slice ao mo co, .slice af mf cf, .slice ac mc cc], .agg #[.int .i64 i, .int .u64 u, .string t, .slice a1 m1 c1]] w fun e w' => e = .returned (.bool (wholeB κ mf m1)) ∧ Below w.heap.size w w' := by
  have HB := hid (below_next (below_alloc w (.cells #[.int .i64 κ, .string sn, .slice ao mo co, .slice af mf cf, .slice ac mc cc] 97)) (below_alloc _ (.cells #[.int .i64 i, .int .u64 u, .string t, .slice a1 m1 c1] 33)))
  unfold wholeB
  by_cases h7 : κ = 7
  · subst h7
    rw [if_pos rfl]
    by_cases h2 : m1 ≤ 1
    · rw [decide_eq_true h2]
      have h2I : (m1 : Int) ≤ 1 := by omega
      go_enter Tryz.func58, Tryz.ntmps58
      go_wp2
      go_ret
      exact ⟨by simp, HB.out⟩
    · rw [decide_eq_false h2]
      have h2I : ¬ (m1 : Int) ≤ 1 := by omega
      go_enter Tryz.func58, Tryz.ntmps58
      go_wp2
      go_ret
      exact ⟨by simp, HB.out⟩
  · rw [if_neg h7]
    have hq7 : (κ == 7) = false := by simp [h7]
    by_cases h9 : κ = 9
    · subst h9
      rw [if_pos rfl]
      by_cases h2 : m1 = mf
      · subst h2
        go_enter Tryz.func58, Tryz.ntmps58
        go_wp2
        go_ret
        exact ⟨by simp, HB.out⟩
      · rw [decide_eq_false h2]
        have h2I : ¬ (m1 : Int) = (mf : Int) := by omega
        go_enter Tryz.func58, Tryz.ntmps58
        go_wp2
        go_ret
        exact ⟨by simp; omega, HB.out⟩
    · rw [if_neg h9]
      have hq9 : (κ == 9) = false := by simp [h9]
      go_enter Tryz.func58, Tryz.ntmps58
      go_wp2
      go_ret
      exact ⟨rfl, HB.out⟩
end Go.Proofs.YtmiohekmpjiloaaGreatDoor

