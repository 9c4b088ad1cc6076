/- A schema that is handed in. -/
import Derived.Test.YtdbgncdnffbhkaaGreatDoorCutPut26
import Derived.Test.YtdbgncdnffbhkaaGreatDoorCutPut18
import Derived.Deep.SlicePairs
import Derived.ChangeArms
import Derived.SizedLaws
namespace Go.Proofs.YtdbgncdnffbhkaaGreatDoor
open Go.ChangeShapes Go.WideShapes Go.ChangeAt Go.RowKit Go.Deep
set_option maxRecDepth 20000

/-- Rows of a slice that is handed in, each by what its cells are. -/
theorem open_rows {H : Type} {enc : TypeId × Value → H} {W : World} {α : Type} [Inhabited α] (ST E : TypeId) (m : Nat) (hu : Tryz.prog.underlying ST = some (.slice E)) (ce : Tryz.prog.cellsOf E = m) (hm0 : 0 < m) (Q : α → List Value → World → Prop)
    (hE : ∀ (fuel : Nat) (cs : List Value) (x : DataW H × List MemPlace), DataW.trod enc Tryz.prog W 0 (fun _ => true) true fuel E cs = some x → ∃ a : α, Q a cs W)
    {fuel : Nat} {cs : List Value} {x : DataW H × List MemPlace} (hf : DataW.trod enc Tryz.prog W 0 (fun _ => true) true fuel ST cs = some x) : ∃ v, cs = [v] ∧ ∃ xs : List α, SlR m Q W.heap.size W v xs := by
  rcases open_slice hu hf with ⟨hcs, _⟩ | ⟨a, len, cap, mm, n, D, Pl, hcs, _, hl, hm, hmm, _, hr⟩
  · exact ⟨_, hcs, [], none, 0, rfl, by simp, fun i x h => by simp at h⟩
  · refine ⟨_, hcs, ?_⟩
    simp only [if_true] at hmm
    rw [ce] at hr
    have each : ∀ i, i < len → ∃ p : α × List Value, (∀ (j : Nat) (u : Value), p.2[j]? = some u → W.cell? (a.add (i * m + j)) = some u) ∧ p.2.length = m ∧ Q p.1 p.2 W := by
      intro i hi
      obtain ⟨cs', h1, h2⟩ := hr i (by omega)
      obtain ⟨_, hlen, hcell⟩ := World.cells?_some h1
      obtain ⟨y, hy⟩ := hE _ _ _ h2
      refine ⟨(y, cs'), fun j u hj => ?_, hlen, hy⟩
      have hjl : j < m := by
        have := (List.getElem?_eq_some_iff.1 hj).1
        simp only at this
        omega
      have := hcell j hjl
      rw [add_add] at this
      rw [this]
      exact hj
    obtain ⟨q, hq⟩ := choose_lt each
    have hget : ∀ (i : Nat) (t : α), ((List.range len).map fun i => (q i).1)[i]? = some t → i < len ∧ t = (q i).1 := by
      intro i t ht
      rw [List.getElem?_map] at ht
      by_cases hi : i < len
      · rw [List.getElem?_range hi] at ht
        simp at ht
        exact ⟨hi, ht.symm⟩
      · rw [List.getElem?_eq_none (by simp; omega)] at ht
        simp at ht
    refine ⟨(List.range len).map fun i => (q i).1, some a, cap, by simp, by simp; unfold maxLen at hm; omega, fun i t hi => ?_⟩
    obtain ⟨hil, rfl⟩ := hget i t hi
    obtain ⟨k1, k2, k3⟩ := hq i hil
    obtain ⟨l1, l2, l3⟩ := hq 0 (by omega)
    obtain ⟨u, hu0⟩ : ∃ u, (q 0).2[0]? = some u := ⟨(q 0).2[0]'(by omega), by simp⟩
    have hc0 := l1 0 u hu0
    obtain ⟨blk, off, ar⟩ := a
    have har : ar = none := by simpa [Addr.add] using World.cell?_spot hc0
    subst har
    refine ⟨blk, off, (q i).2, rfl, by simpa [Addr.add] using World.block_lt_of_cell? W _ hc0, fun j v hj => ?_, k3⟩
    have := k1 j v hj
    rw [add_plain] at this
    rw [Nat.add_assoc]
    exact this

instance : Inhabited Pl.GT := ⟨.node 0 [] []⟩
instance : Inhabited Pl.GF := ⟨⟨[], 0, .node 0 [] []⟩⟩
instance : Inhabited Pl.GC := ⟨⟨[], 0⟩⟩
instance : Inhabited Pl.GM := ⟨⟨[], false, .node 0 [] [], .node 0 [] []⟩⟩

theorem SlR.lys {B n : Nat} {w : World} {v : Value} {xs : List Pl.GT} (h : SlR 3 (fun g c w => ∃ k s o, c = [k, s, o] ∧ Ly B n g w k s o) B w v xs) : LyS B (n + 1) xs w v := by
  obtain ⟨ad, cp, h1, h2, h3⟩ := h
  refine ⟨ad, cp, h1, h2, fun i g hg => ?_⟩
  obtain ⟨blk, off, c, q1, q2, q3, k, s, o, rfl, rfl, ⟨x, rfl, hx, hxs⟩, hos⟩ := h3 i g hg
  refine ⟨blk, off, x, o, q1, q2, ?_, q3 1 _ rfl, hx, hxs, q3 2 _ rfl, hos⟩
  have := q3 0 _ rfl
  rwa [Nat.add_zero] at this

theorem open_type {H : Type} {enc : TypeId × Value → H} {W : World} (n : Nat) : ∀ (fuel : Nat) (cs : List Value) (x : DataW H × List MemPlace), DataW.trod enc Tryz.prog W 0 (fun _ => true) true fuel 34 cs = some x → ∃ g : Pl.GT, ∃ k s o, cs = [k, s, o] ∧ Ly W.heap.size n g W k s o := by
  obtain ⟨f0, f1, f2, he, o0, o1, o2, y0, y1, y2⟩ : ∃ f0 f1 f2 : Field, Tryz.prog.underlying 34 = some (.struct #[f0, f1, f2]) ∧ f0.offset = 0 ∧ f1.offset = 1 ∧ f2.offset = 2 ∧ f0.type = 3 ∧ f1.type = 9 ∧ f2.type = 32 := ⟨_, _, _, Tryz.underlying34, rfl, rfl, rfl, rfl, rfl, rfl⟩
  have ce : Tryz.prog.cellsOf 34 = 3 := by kernel_rfl
  have c3 : Tryz.prog.cellsOf 3 = 1 := by kernel_rfl
  have c9 : Tryz.prog.cellsOf 9 = 1 := by kernel_rfl
  have cs1 : Tryz.prog.cellsOf 32 = 1 := by kernel_rfl
  induction n with
  | zero =>
    intro fuel cs x h
    obtain ⟨xs, k, hk, hxy, hlen, hxl, hf⟩ := DataW.trod_struct he h
    rw [ce] at hlen
    match xs, hxl, cs, hlen with
    | [z0, z1, z2], _, [v0, v1, v2], _ =>
      have g0 := hf 0 f0 rfl
      have g1 := hf 1 f1 rfl
      have g2 := hf 2 f2 rfl
      simp [o0, o1, o2, y0, y1, y2, c3, c9, cs1] at g0 g1 g2
      obtain ⟨n0, hn0, _, _⟩ := DataW.trod_int Tryz.underlying3 g0
      obtain ⟨s1, hn1, _, hs1⟩ := DataW.trod_string Tryz.underlying9 g1
      simp only [List.cons.injEq, and_true] at hn0 hn1
      subst hn0 hn1
      refine ⟨.node n0 (bl s1) [], _, _, _, rfl, rfl, ⟨s1, rfl, rfl, hs1⟩, ?_⟩
      rcases open_slice Tryz.underlying32 g2 with ⟨hcs, _⟩ | ⟨a, len, cap, mm, n, D, Pl, hcs, _⟩
      · simp only [List.cons.injEq, and_true] at hcs
        exact ⟨_, _, _, hcs⟩
      · simp only [List.cons.injEq, and_true] at hcs
        exact ⟨_, _, _, hcs⟩
  | succ n ih =>
    intro fuel cs x h
    obtain ⟨xs, k, hk, hxy, hlen, hxl, hf⟩ := DataW.trod_struct he h
    rw [ce] at hlen
    match xs, hxl, cs, hlen with
    | [z0, z1, z2], _, [v0, v1, v2], _ =>
      have g0 := hf 0 f0 rfl
      have g1 := hf 1 f1 rfl
      have g2 := hf 2 f2 rfl
      simp [o0, o1, o2, y0, y1, y2, c3, c9, cs1] at g0 g1 g2
      obtain ⟨n0, hn0, _, _⟩ := DataW.trod_int Tryz.underlying3 g0
      obtain ⟨s1, hn1, _, hs1⟩ := DataW.trod_string Tryz.underlying9 g1
      simp only [List.cons.injEq, and_true] at hn0 hn1
      subst hn0 hn1
      obtain ⟨v, hv, os, hos⟩ := open_rows 32 34 3 Tryz.underlying32 ce (by omega) (fun g c w => ∃ k s o, c = [k, s, o] ∧ Ly W.heap.size n g w k s o) (fun fuel cs x h => ih fuel cs x h) g2
      simp only [List.cons.injEq, and_true] at hv
      subst hv
      exact ⟨.node n0 (bl s1) os, _, _, _, rfl, rfl, ⟨s1, rfl, rfl, hs1⟩, hos.lys⟩

theorem open_field {H : Type} {enc : TypeId × Value → H} {W : World} (n : Nat) (fuel : Nat) (cs : List Value) (x : DataW H × List MemPlace) (h : DataW.trod enc Tryz.prog W 0 (fun _ => true) true fuel 83 cs = some x) : ∃ f : Pl.GF, GFR W.heap.size n f cs W := by
  obtain ⟨f0, f1, f2, he, o0, o1, o2, y0, y1, y2⟩ : ∃ f0 f1 f2 : Field, Tryz.prog.underlying 83 = some (.struct #[f0, f1, f2]) ∧ f0.offset = 0 ∧ f1.offset = 1 ∧ f2.offset = 2 ∧ f0.type = 9 ∧ f1.type = 3 ∧ f2.type = 34 := ⟨_, _, _, Tryz.underlying83, rfl, rfl, rfl, rfl, rfl, rfl⟩
  have ce : Tryz.prog.cellsOf 83 = 5 := by kernel_rfl
  have ct : Tryz.prog.cellsOf 34 = 3 := by kernel_rfl
  have c3 : Tryz.prog.cellsOf 3 = 1 := by kernel_rfl
  have c9 : Tryz.prog.cellsOf 9 = 1 := by kernel_rfl
  obtain ⟨xs, k, hk, hxy, hlen, hxl, hf⟩ := DataW.trod_struct he h
  rw [ce] at hlen
  match xs, hxl, cs, hlen with
  | [z0, z1, z2], _, [v0, v1, v2, v3, v4], _ =>
    have g0 := hf 0 f0 rfl
    have g1 := hf 1 f1 rfl
    have g2 := hf 2 f2 rfl
    simp [o0, o1, o2, y0, y1, y2, c3, c9, ct] at g0 g1 g2
    obtain ⟨n1, hn1, _, _⟩ := DataW.trod_int Tryz.underlying3 g1
    obtain ⟨s0, hn0, _, hs0⟩ := DataW.trod_string Tryz.underlying9 g0
    obtain ⟨g, k, s, o, hc, hl⟩ := open_type n _ _ _ g2
    simp only [List.cons.injEq, and_true] at hn0 hn1 hc
    obtain ⟨rfl, rfl, rfl⟩ := hc
    subst hn0 hn1
    exact ⟨⟨bl s0, n1, g⟩, s0, _, _, _, rfl, rfl, hs0, hl⟩

theorem open_case {H : Type} {enc : TypeId × Value → H} {W : World} (fuel : Nat) (cs : List Value) (x : DataW H × List MemPlace) (h : DataW.trod enc Tryz.prog W 0 (fun _ => true) true fuel 86 cs = some x) : ∃ f : Pl.GC, GCR f cs W := by
  obtain ⟨f0, f1, he, o0, o1, y0, y1⟩ : ∃ f0 f1 : Field, Tryz.prog.underlying 86 = some (.struct #[f0, f1]) ∧ f0.offset = 0 ∧ f1.offset = 1 ∧ f0.type = 9 ∧ f1.type = 3 := ⟨_, _, Tryz.underlying86, rfl, rfl, rfl, rfl⟩
  have ce : Tryz.prog.cellsOf 86 = 2 := by kernel_rfl
  have c3 : Tryz.prog.cellsOf 3 = 1 := by kernel_rfl
  have c9 : Tryz.prog.cellsOf 9 = 1 := by kernel_rfl
  obtain ⟨xs, k, hk, hxy, hlen, hxl, hf⟩ := DataW.trod_struct he h
  rw [ce] at hlen
  match xs, hxl, cs, hlen with
  | [z0, z1], _, [v0, v1], _ =>
    have g0 := hf 0 f0 rfl
    have g1 := hf 1 f1 rfl
    simp [o0, o1, y0, y1, c3, c9] at g0 g1
    obtain ⟨n1, hn1, _, _⟩ := DataW.trod_int Tryz.underlying3 g1
    obtain ⟨s0, hn0, _, hs0⟩ := DataW.trod_string Tryz.underlying9 g0
    simp only [List.cons.injEq, and_true] at hn0 hn1
    subst hn0 hn1
    exact ⟨⟨bl s0, n1⟩, s0, rfl, rfl, hs0⟩

theorem open_method {H : Type} {enc : TypeId × Value → H} {W : World} (n : Nat) (fuel : Nat) (cs : List Value) (x : DataW H × List MemPlace) (h : DataW.trod enc Tryz.prog W 0 (fun _ => true) true fuel 36 cs = some x) : ∃ f : Pl.GM, GMR W.heap.size n f cs W := by
  obtain ⟨f0, f1, f2, f3, he, o0, o1, o2, o3, y0, y1, y2, y3⟩ : ∃ f0 f1 f2 f3 : Field, Tryz.prog.underlying 36 = some (.struct #[f0, f1, f2, f3]) ∧ f0.offset = 0 ∧ f1.offset = 1 ∧ f2.offset = 2 ∧ f3.offset = 5 ∧ f0.type = 9 ∧ f1.type = 4 ∧ f2.type = 34 ∧ f3.type = 34 := ⟨_, _, _, _, Tryz.underlying36, rfl, rfl, rfl, rfl, rfl, rfl, rfl, rfl⟩
  have ce : Tryz.prog.cellsOf 36 = 8 := by kernel_rfl
  have ct : Tryz.prog.cellsOf 34 = 3 := by kernel_rfl
  have c4 : Tryz.prog.cellsOf 4 = 1 := by kernel_rfl
  have c9 : Tryz.prog.cellsOf 9 = 1 := by kernel_rfl
  obtain ⟨xs, k, hk, hxy, hlen, hxl, hf⟩ := DataW.trod_struct he h
  rw [ce] at hlen
  match xs, hxl, cs, hlen with
  | [z0, z1, z2, z3], _, [v0, v1, v2, v3, v4, v5, v6, v7], _ =>
    have g0 := hf 0 f0 rfl
    have g1 := hf 1 f1 rfl
    have g2 := hf 2 f2 rfl
    have g3 := hf 3 f3 rfl
    simp [o0, o1, o2, o3, y0, y1, y2, y3, c4, c9, ct] at g0 g1 g2 g3
    obtain ⟨b1, hn1, _⟩ := DataW.trod_bool Tryz.underlying4 g1
    obtain ⟨s0, hn0, _, hs0⟩ := DataW.trod_string Tryz.underlying9 g0
    obtain ⟨g, k, s, o, hc, hl⟩ := open_type n _ _ _ g2
    obtain ⟨g', k', s', o', hc', hl'⟩ := open_type n _ _ _ g3
    simp only [List.cons.injEq, and_true] at hn0 hn1 hc hc'
    obtain ⟨rfl, rfl, rfl⟩ := hc
    obtain ⟨rfl, rfl, rfl⟩ := hc'
    subst hn0 hn1
    exact ⟨⟨bl s0, b1, g, g'⟩, s0, _, _, _, _, _, _, rfl, rfl, hs0, hl, hl'⟩

/-- A declaration: its name and its parts. -/
theorem open_decl {H : Type} {enc : TypeId × Value → H} {W : World} {α : Type} [Inhabited α] (D S E : TypeId) (m : Nat) (f0 f1 : Field) (he : Tryz.prog.underlying D = some (.struct #[f0, f1])) (o0 : f0.offset = 0) (o1 : f1.offset = 1) (y0 : f0.type = 9) (y1 : f1.type = S) (ce : Tryz.prog.cellsOf D = 2) (cs1 : Tryz.prog.cellsOf S = 1) (hu : Tryz.prog.underlying S = some (.slice E)) (cm : Tryz.prog.cellsOf E = m) (hm0 : 0 < m) (R : α → List Value → World → Prop)
    (hE : ∀ (fuel : Nat) (cs : List Value) (x : DataW H × List MemPlace), DataW.trod enc Tryz.prog W 0 (fun _ => true) true fuel E cs = some x → ∃ a : α, R a cs W)
    (fuel : Nat) (cs : List Value) (x : DataW H × List MemPlace) (h : DataW.trod enc Tryz.prog W 0 (fun _ => true) true fuel D cs = some x) : ∃ d : List Nat × List α, GDR m R W.heap.size d cs W := by
  have c9 : Tryz.prog.cellsOf 9 = 1 := by kernel_rfl
  obtain ⟨xs, k, hk, hxy, hlen, hxl, hf⟩ := DataW.trod_struct he h
  rw [ce] at hlen
  match xs, hxl, cs, hlen with
  | [z0, z1], _, [v0, v1], _ =>
    have g0 := hf 0 f0 rfl
    have g1 := hf 1 f1 rfl
    simp [o0, o1, y0, y1, c9, cs1] at g0 g1
    obtain ⟨s0, hn0, _, hs0⟩ := DataW.trod_string Tryz.underlying9 g0
    obtain ⟨v, hv, ps, hps⟩ := open_rows S E m hu cm hm0 R hE g1
    simp only [List.cons.injEq, and_true] at hn0 hv
    subst hn0 hv
    exact ⟨(bl s0, ps), s0, _, rfl, rfl, hs0, hps⟩

/-- A schema that is handed in: three slices, which lie as a schema of any make. -/
theorem open_schema {H : Type} {enc : TypeId × Value → H} {W : World} {base : Nat} {v : Value} {d : DataW H} {p : List MemPlace} (n : Nat) (hval : Value.okWide Tryz.prog W .any base 26 v)
    (h : DataW.Trod enc Tryz.prog W 0 (fun _ => true) true 26 v d p) :
    ∃ s1 s2 s3 a b c, v = .agg #[s1, s2, s3] ∧ SchL W.heap.size n a b c s1 s2 s3 W := by
  obtain ⟨f0, f1, f2, he, o0, o1, o2, y0, y1, y2⟩ : ∃ f0 f1 f2 : Field, Tryz.prog.underlying 26 = some (.struct #[f0, f1, f2]) ∧ f0.offset = 0 ∧ f1.offset = 1 ∧ f2.offset = 2 ∧ f0.type = 22 ∧ f1.type = 23 ∧ f2.type = 24 := ⟨_, _, _, Tryz.underlying26, rfl, rfl, rfl, rfl, rfl, rfl⟩
  have ce : Tryz.prog.cellsOf 26 = 3 := by kernel_rfl
  have c1 : Tryz.prog.cellsOf 22 = 1 := by kernel_rfl
  have c2 : Tryz.prog.cellsOf 23 = 1 := by kernel_rfl
  have c3 : Tryz.prog.cellsOf 24 = 1 := by kernel_rfl
  unfold Value.okWide at hval
  rw [Tryz.underlying26] at hval
  obtain ⟨cs, rfl, hsz, _⟩ := hval
  obtain ⟨fuel, hf0⟩ := h
  obtain ⟨xs, k, hk, hxy, hlen, hxl, hf⟩ := DataW.trod_struct he hf0
  rw [ce] at hsz
  obtain ⟨l⟩ := cs
  match xs, hxl, l, hsz with
  | [z0, z1, z2], _, [v0, v1, v2], _ =>
    have g0 := hf 0 f0 rfl
    have g1 := hf 1 f1 rfl
    have g2 := hf 2 f2 rfl
    simp [o0, o1, o2, y0, y1, y2, c1, c2, c3, Value.cells] at g0 g1 g2
    obtain ⟨w0, hv0, a, ha⟩ := open_rows 22 60 2 Tryz.underlying22 (by kernel_rfl) (by omega) (GDR 5 (GFR W.heap.size n) W.heap.size) (open_decl 60 58 83 5 _ _ Tryz.underlying60 rfl rfl rfl rfl (by kernel_rfl) (by kernel_rfl) Tryz.underlying58 (by kernel_rfl) (by omega) _ (open_field n)) g0
    obtain ⟨w1, hv1, b, hb⟩ := open_rows 23 64 2 Tryz.underlying23 (by kernel_rfl) (by omega) (GDR 2 GCR W.heap.size) (open_decl 64 62 86 2 _ _ Tryz.underlying64 rfl rfl rfl rfl (by kernel_rfl) (by kernel_rfl) Tryz.underlying62 (by kernel_rfl) (by omega) _ open_case) g1
    obtain ⟨w2, hv2, c, hc⟩ := open_rows 24 67 2 Tryz.underlying24 (by kernel_rfl) (by omega) (GDR 8 (GMR W.heap.size n) W.heap.size) (open_decl 67 65 36 8 _ _ Tryz.underlying67 rfl rfl rfl rfl (by kernel_rfl) (by kernel_rfl) Tryz.underlying65 (by kernel_rfl) (by omega) _ (open_method n)) g2
    simp only [List.cons.injEq, and_true] at hv0 hv1 hv2
    subst hv0 hv1 hv2
    exact ⟨_, _, _, a, b, c, rfl, ha, hb, hc⟩

theorem rows_len {H : Type} {enc : TypeId × Value → H} {W : World} {ST E : TypeId} (hu : Tryz.prog.underlying ST = some (.slice E)) {fuel : Nat} {ad : Option Addr} {L cp : Nat} {x : DataW H × List MemPlace} (hf : DataW.trod enc Tryz.prog W 0 (fun _ => true) true fuel ST [.slice ad L cp] = some x) : L = 0 ∨ ∃ elems spare, x.1 = .slice elems spare ∧ elems.length = L := by
  rcases open_slice hu hf with ⟨hcs, _⟩ | ⟨a, len, cap, mm, n, D, Pl, hcs, _, _, _, _, hx, _⟩
  · simp only [List.cons.injEq, Value.slice.injEq, and_true] at hcs
    exact .inl hcs.2.1
  · simp only [List.cons.injEq, Value.slice.injEq, and_true] at hcs
    refine .inr ⟨_, _, congrArg Prod.fst hx, ?_⟩
    rw [List.length_map, List.length_range, hcs.2.1]

/-- A schema that is handed in has no more declarations than memory holds. -/
theorem schema_sized {H : Type} {enc : TypeId × Value → H} {W : World} {a1 a2 a3 : Option Addr} {m1 m2 m3 c1 c2 c3 : Nat} {d : DataW H} {p : List MemPlace} (h : DataW.Trod enc Tryz.prog W 0 (fun _ => true) true 26 (.agg #[.slice a1 m1 c1, .slice a2 m2 c2, .slice a3 m3 c3]) d p)
    {ts : List TypeId} {ds : List (DataW H)} (hsz : (DataW.weightsEach Tryz.prog ts ds).all (· ≤ reachBytes) = true) {j : Nat} (htj : ts[j]? = some 26) (hdj : ds[j]? = some d) : m1 ≤ 140737488355328 ∧ m2 ≤ 140737488355328 ∧ m3 ≤ 140737488355328 := by
  obtain ⟨f0, f1, f2, he, o0, o1, o2, y0, y1, y2⟩ : ∃ f0 f1 f2 : Field, Tryz.prog.underlying 26 = some (.struct #[f0, f1, f2]) ∧ f0.offset = 0 ∧ f1.offset = 1 ∧ f2.offset = 2 ∧ f0.type = 22 ∧ f1.type = 23 ∧ f2.type = 24 := ⟨_, _, _, Tryz.underlying26, rfl, rfl, rfl, rfl, rfl, rfl⟩
  have q1 : Tryz.prog.cellsOf 22 = 1 := by kernel_rfl
  have q2 : Tryz.prog.cellsOf 23 = 1 := by kernel_rfl
  have q3 : Tryz.prog.cellsOf 24 = 1 := by kernel_rfl
  have b1 : 1 ≤ Tryz.prog.bytesOf 60 := of_decide_eq_true (by kernel_rfl)
  have b2 : 1 ≤ Tryz.prog.bytesOf 64 := of_decide_eq_true (by kernel_rfl)
  have b3 : 1 ≤ Tryz.prog.bytesOf 67 := of_decide_eq_true (by kernel_rfl)
  obtain ⟨fuel, hf0⟩ := h
  obtain ⟨xs, k, hk, hxy, hlen, hxl, hf⟩ := DataW.trod_struct he hf0
  match xs, hxl with
  | [z0, z1, z2], _ =>
    have g0 := hf 0 f0 rfl
    have g1 := hf 1 f1 rfl
    have g2 := hf 2 f2 rfl
    simp [o0, o1, o2, y0, y1, y2, q1, q2, q3, Value.cells] at g0 g1 g2
    simp only [Prod.mk.injEq] at hxy
    obtain ⟨rfl, _⟩ := hxy
    have key : ∀ (i : Nat) (ST E : TypeId) (z : DataW H) (elems spare : List (DataW H)), ([22, 23, 24] : List TypeId)[i]? = some ST → ([z0, z1, z2].map (fun x => x.1))[i]? = some z → z = .slice elems spare → Tryz.prog.underlying ST = some (.slice E) → 1 ≤ Tryz.prog.bytesOf E → elems.length ≤ 140737488355328 := by
      intro i ST E z elems spare h1 h2 h3 h4 h5
      subst h3
      have hm : (elems.length + spare.length) * Tryz.prog.bytesOf E ∈ DataW.weights Tryz.prog 26 (.agg ([z0, z1, z2].map (fun x => x.1))) := by
        have := DataW.weights_mem_each (P := Tryz.prog) h1 h2 ((elems.length + spare.length) * Tryz.prog.bytesOf E) (by simp [DataW.weights, h4])
        simpa [DataW.weights, he, y0, y1, y2] using this
      have hall := List.all_eq_true.1 hsz _ (DataW.weights_mem_each htj hdj _ hm)
      have hle : (elems.length + spare.length) * Tryz.prog.bytesOf E ≤ reachBytes := by simpa using hall
      have hmul : elems.length + spare.length ≤ (elems.length + spare.length) * Tryz.prog.bytesOf E := Nat.le_mul_of_pos_right _ h5
      simp only [reachBytes] at hle
      omega
    refine ⟨?_, ?_, ?_⟩
    · rcases rows_len Tryz.underlying22 g0 with h | ⟨elems, spare, h1, h2⟩
      · omega
      · have := key 0 _ _ _ elems spare rfl rfl h1 Tryz.underlying22 b1
        omega
    · rcases rows_len Tryz.underlying23 g1 with h | ⟨elems, spare, h1, h2⟩
      · omega
      · have := key 1 _ _ _ elems spare rfl rfl h1 Tryz.underlying23 b2
        omega
    · rcases rows_len Tryz.underlying24 g2 with h | ⟨elems, spare, h1, h2⟩
      · omega
      · have := key 2 _ _ _ elems spare rfl rfl h1 Tryz.underlying24 b3
        omega
end Go.Proofs.YtdbgncdnffbhkaaGreatDoor

