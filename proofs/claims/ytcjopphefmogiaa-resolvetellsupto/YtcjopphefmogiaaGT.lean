/- Values of any shape, as they lie: what they read as, what keeps them, how they come in. -/
import Derived.Test.YtcjopphefmogiaaBase
import Derived.Deep.Slices
import Derived.ChangeArms
namespace Go.Proofs.Ytcjopphefmogiaa
open Go.ChangeShapes Go.WideShapes Go.RowKit Go.Deep
set_option linter.unusedVariables false

/-- The cells of some blocks stay. -/
structure Stay (p : Nat → Prop) (W W' : World) : Prop where
  size : W.heap.size ≤ W'.heap.size
  cell : ∀ b o, p b → b < W.heap.size → W'.cell? ⟨b, o, none⟩ = W.cell? ⟨b, o, none⟩
theorem Stay.refl (p : Nat → Prop) (W : World) : Stay p W W := ⟨Nat.le_refl _, fun _ _ _ _ => rfl⟩
theorem Stay.trans {p : Nat → Prop} {A B C : World} (h : Stay p A B) (k : Stay p B C) : Stay p A C :=
  ⟨Nat.le_trans h.size k.size, fun b o hp hb => (k.cell b o hp (Nat.lt_of_lt_of_le hb h.size)).trans (h.cell b o hp hb)⟩
theorem Stay.below {p : Nat → Prop} {B : Nat} {W W' : World} (h : Below B W W') (hp : ∀ b, p b → b < W.heap.size → b < B) : Stay p W W' :=
  ⟨h.size, fun b o hb hs => h.cell (p := ⟨b, o, none⟩) (hp b hb hs)⟩
theorem Stay.mono {p q : Nat → Prop} {W W' : World} (h : Stay p W W') (hq : ∀ b, q b → b < W.heap.size → p b) : Stay q W W' := ⟨h.size, fun b o hb hs => h.cell b o (hq b hb hs) hs⟩

/-- A shape: how many cells, and what they read as; the blocks that it leads to satisfy p. -/
structure Ty (α : Type) where
  n : Nat
  has : (Nat → Prop) → World → List Value → α → Prop
  len : ∀ {p W cs x}, has p W cs x → cs.length = n
  stay : ∀ {p W W' cs x}, Stay p W W' → has p W cs x → has p W' cs x
  weak : ∀ {p q W cs x}, (∀ b, b < W.heap.size → p b → q b) → has p W cs x → has q W cs x

/-- Old blocks of a world. -/
def old (W : World) (b : Nat) : Prop := b < W.heap.size
theorem Ty.below {α : Type} (t : Ty α) {W W' : World} {cs : List Value} {x : α} (h : t.has (old W) W cs x) (hb : Below W.heap.size W W') : t.has (old W') W' cs x :=
  t.weak (fun b _ h => Nat.lt_of_lt_of_le h hb.size) (t.stay (Stay.below hb fun _ h _ => h) h)
theorem Ty.any {α : Type} (t : Ty α) {p : Nat → Prop} {W : World} {cs : List Value} {x : α} (h : t.has p W cs x) : t.has (old W) W cs x := t.weak (fun _ h _ => h) h

def Ty.int (k : IntKind) : Ty Int where
  n := 1
  has := fun _ _ cs x => cs = [.int k x]
  len := fun h => by rw [h]; rfl
  stay := fun _ h => h
  weak := fun _ h => h
def Ty.bool : Ty Bool where
  n := 1
  has := fun _ _ cs x => cs = [.bool x]
  len := fun h => by rw [h]; rfl
  stay := fun _ h => h
  weak := fun _ h => h
def Ty.str : Ty ByteArray where
  n := 1
  has := fun _ _ cs x => cs = [.string x]
  len := fun h => by rw [h]; rfl
  stay := fun _ h => h
  weak := fun _ h => h
def Ty.end' : Ty Unit where
  n := 0
  has := fun _ _ cs _ => cs = []
  len := fun h => by rw [h]; rfl
  stay := fun _ h => h
  weak := fun _ h => h
/-- One behind the other. -/
def Ty.cat {α β : Type} (a : Ty α) (b : Ty β) : Ty (α × β) where
  n := a.n + b.n
  has := fun p W cs x => ∃ c d, cs = c ++ d ∧ a.has p W c x.1 ∧ b.has p W d x.2
  len := fun ⟨c, d, e, h1, h2⟩ => by rw [e, List.length_append, a.len h1, b.len h2]
  stay := fun s ⟨c, d, e, h1, h2⟩ => ⟨c, d, e, a.stay s h1, b.stay s h2⟩
  weak := fun s ⟨c, d, e, h1, h2⟩ => ⟨c, d, e, a.weak s h1, b.weak s h2⟩
/-- The same cells, told otherwise. -/
def Ty.iso {α β : Type} (a : Ty α) (f : β → α) : Ty β where
  n := a.n
  has := fun p W cs x => a.has p W cs (f x)
  len := fun h => a.len h
  stay := fun s h => a.stay s h
  weak := fun s h => a.weak s h
/-- Slices. -/
def Ty.slice {α : Type} (t : Ty α) : Ty (List α) where
  n := 1
  has := fun p W cs l => ∃ a cap, cs = [.slice a l.length cap] ∧ l.length ≤ cap ∧ cap ≤ maxLen ∧ (a = none → l = [] ∧ cap = 0) ∧
    (0 < l.length → ∃ g off, a = some ⟨g, off, none⟩ ∧ p g ∧ g < W.heap.size ∧ ∀ i x, l[i]? = some x → ∃ cs, t.has p W cs x ∧ ∀ j u, cs[j]? = some u → W.cell? ⟨g, off + i * t.n + j, none⟩ = some u)
  len := fun ⟨a, cap, e, _⟩ => by rw [e]; rfl
  stay := fun s ⟨a, cap, e, h1, h2, h3, h4⟩ => ⟨a, cap, e, h1, h2, h3, fun h0 => by
    obtain ⟨g, off, ha, hp, hg, hx⟩ := h4 h0
    refine ⟨g, off, ha, hp, Nat.lt_of_lt_of_le hg s.size, fun i x hi => ?_⟩
    obtain ⟨cs, h, hc⟩ := hx i x hi
    exact ⟨cs, t.stay s h, fun j u hj => (s.cell g _ hp hg).trans (hc j u hj)⟩⟩
  weak := fun s ⟨a, cap, e, h1, h2, h3, h4⟩ => ⟨a, cap, e, h1, h2, h3, fun h0 => by
    obtain ⟨g, off, ha, hp, hg, hx⟩ := h4 h0
    refine ⟨g, off, ha, s g hg hp, hg, fun i x hi => ?_⟩
    obtain ⟨cs, h, hc⟩ := hx i x hi
    exact ⟨cs, t.weak s h, hc⟩⟩

theorem Ty.int_has {k : IntKind} {p : Nat → Prop} {W : World} {cs : List Value} {x : Int} : (Ty.int k).has p W cs x ↔ cs = [.int k x] := Iff.rfl
theorem Ty.bool_has {p : Nat → Prop} {W : World} {cs : List Value} {x : Bool} : Ty.bool.has p W cs x ↔ cs = [.bool x] := Iff.rfl
theorem Ty.end_has {p : Nat → Prop} {W : World} {cs : List Value} {x : Unit} : Ty.end'.has p W cs x ↔ cs = [] := Iff.rfl
theorem Ty.iso_has {α β : Type} {a : Ty α} {f : β → α} {p : Nat → Prop} {W : World} {cs : List Value} {x : β} : (a.iso f).has p W cs x ↔ a.has p W cs (f x) := Iff.rfl
theorem Ty.cat_int {β : Type} {k : IntKind} {b : Ty β} {p : Nat → Prop} {W : World} {cs : List Value} {x : Int × β} : ((Ty.int k).cat b).has p W cs x ↔ ∃ d, cs = .int k x.1 :: d ∧ b.has p W d x.2 := by
  constructor
  · rintro ⟨c, d, e, h1, h2⟩
    rw [Ty.int_has] at h1
    subst h1
    exact ⟨d, e, h2⟩
  · rintro ⟨d, e, h⟩
    exact ⟨_, d, e, rfl, h⟩
theorem Ty.cat_bool {β : Type} {b : Ty β} {p : Nat → Prop} {W : World} {cs : List Value} {x : Bool × β} : (Ty.bool.cat b).has p W cs x ↔ ∃ d, cs = .bool x.1 :: d ∧ b.has p W d x.2 := by
  constructor
  · rintro ⟨c, d, e, h1, h2⟩
    rw [Ty.bool_has] at h1
    subst h1
    exact ⟨d, e, h2⟩
  · rintro ⟨d, e, h⟩
    exact ⟨_, d, e, rfl, h⟩
theorem Ty.cat_one {α β : Type} {a : Ty α} {b : Ty β} (h1 : a.n = 1) {p : Nat → Prop} {W : World} {cs : List Value} {x : α × β} : (a.cat b).has p W cs x ↔ ∃ v d, cs = v :: d ∧ a.has p W [v] x.1 ∧ b.has p W d x.2 := by
  constructor
  · rintro ⟨c, d, e, ha, hb⟩
    have := a.len ha
    rw [h1] at this
    match c, this with
    | [v], _ => exact ⟨v, d, e, ha, hb⟩
  · rintro ⟨v, d, e, ha, hb⟩
    exact ⟨[v], d, e, ha, hb⟩
theorem Ty.cat_end {α : Type} {a : Ty α} {p : Nat → Prop} {W : World} {cs : List Value} {x : α × Unit} : (a.cat Ty.end').has p W cs x ↔ a.has p W cs x.1 := by
  constructor
  · rintro ⟨c, d, e, ha, hb⟩
    rw [Ty.end_has] at hb
    rw [e, hb, List.append_nil]
    exact ha
  · intro h
    exact ⟨cs, [], (List.append_nil cs).symm, h, rfl⟩
theorem Ty.cat_has {α β : Type} {a : Ty α} {b : Ty β} {p : Nat → Prop} {W : World} {cs : List Value} {x : α × β} : (a.cat b).has p W cs x ↔ ∃ c d, cs = c ++ d ∧ a.has p W c x.1 ∧ b.has p W d x.2 := Iff.rfl
theorem Ty.slice_has {α : Type} {t : Ty α} {p : Nat → Prop} {W : World} {cs : List Value} {l : List α} : t.slice.has p W cs l ↔ ∃ a cap, cs = [.slice a l.length cap] ∧ l.length ≤ cap ∧ cap ≤ maxLen ∧ (a = none → l = [] ∧ cap = 0) ∧
    (0 < l.length → ∃ g off, a = some ⟨g, off, none⟩ ∧ p g ∧ g < W.heap.size ∧ ∀ i x, l[i]? = some x → ∃ cs, t.has p W cs x ∧ ∀ j u, cs[j]? = some u → W.cell? ⟨g, off + i * t.n + j, none⟩ = some u) := Iff.rfl
theorem Ty.slice_n {α : Type} (t : Ty α) : t.slice.n = 1 := rfl
theorem Ty.slice_nil {α : Type} (t : Ty α) (p : Nat → Prop) (W : World) : t.slice.has p W [.slice none 0 0] [] :=
  ⟨none, 0, rfl, Nat.le_refl _, Nat.zero_le _, fun _ => ⟨rfl, rfl⟩, fun h => absurd h (by simp)⟩
/-- Integers: as before. -/
theorem Seg.ty {k : IntKind} {W : World} {v : Value} {l : List Int} (h : Seg k W v l) : (Ty.int k).slice.has (old W) W [v] l := by
  obtain ⟨a, cap, rfl, h1, h2, h3, h4⟩ := h
  refine ⟨a, cap, rfl, h1, h2, h3, fun h0 => ?_⟩
  obtain ⟨g, off, ha, hg, hc⟩ := seg_at h0 h3 h4
  refine ⟨g, off, ha, hg, hg, fun i x hi => ⟨[.int k x], rfl, fun j u hj => ?_⟩⟩
  have hil := (List.getElem?_eq_some_iff.1 hi).1
  have hj0 : j = 0 := by
    have := (List.getElem?_eq_some_iff.1 hj).1
    simpa using this
  subst hj0
  have : u = .int k x := by simpa using hj.symm
  subst this
  have := hc i hil
  rw [List.getD_eq_getElem?_getD, hi] at this
  show W.cell? ⟨g, off + i * 1 + 0, none⟩ = _
  rw [Nat.mul_one, Nat.add_zero]
  exact this
theorem Ty.seg {k : IntKind} {p : Nat → Prop} {W : World} {v : Value} {l : List Int} (h : (Ty.int k).slice.has p W [v] l) : Seg k W v l := by
  obtain ⟨a, cap, e, h1, h2, h3, h4⟩ := h
  have e : v = .slice a l.length cap := by simpa using e
  refine ⟨a, cap, e, h1, h2, h3, fun x hx i hi => ?_⟩
  obtain ⟨g, off, ha, hp, hg, hc⟩ := h4 (by omega)
  rw [ha] at hx
  obtain ⟨cs, h, hcs⟩ := hc i l[i] (List.getElem?_eq_getElem hi)
  rw [Ty.int_has] at h
  subst h
  have := hcs 0 _ rfl
  rw [← Option.some.inj hx, add_plain]
  have e1 : off + i * (Ty.int k).n + 0 = off + i := by show off + i * 1 + 0 = _; omega
  rw [e1] at this
  rw [this]
  simp [List.getD, hi]

/-- How a shape comes in. -/
def Ty.Opens {α : Type} (P : Program) (t : Ty α) (T : TypeId) (good : α → Prop) : Prop :=
  P.cellsOf T = t.n ∧ ∀ (H : Type) (enc : TypeId × Value → H) (W : World) (n : Nat) (cs : List Value) (y : DataW H × List MemPlace), DataW.trod enc P W 0 (fun _ => true) true n T cs = some y → ∃ x, t.has (old W) W cs x ∧ good x
theorem Ty.opens_int {P : Program} {k : IntKind} {T : TypeId} (ht : P.underlying T = some (.int k)) (hc : P.cellsOf T = 1) : Ty.Opens P (Ty.int k) T (fun z => (Lit.int k z).wf = true) :=
  ⟨hc, fun H enc W n cs y h => by
    obtain ⟨z, e, _, hz⟩ := DataW.trod_int ht h
    exact ⟨z, e, hz⟩⟩
theorem Ty.opens_bool {P : Program} {T : TypeId} (ht : P.underlying T = some .bool) (hc : P.cellsOf T = 1) : Ty.Opens P Ty.bool T (fun _ => True) :=
  ⟨hc, fun H enc W n cs y h => by
    obtain ⟨z, e, _⟩ := DataW.trod_bool ht h
    exact ⟨z, e, trivial⟩⟩
theorem Ty.opens_str {P : Program} {T : TypeId} (ht : P.underlying T = some .string) (hc : P.cellsOf T = 1) : Ty.Opens P Ty.str T (fun s => s.size ≤ maxLen) :=
  ⟨hc, fun H enc W n cs y h => by
    obtain ⟨z, e, _, hz⟩ := DataW.trod_string ht h
    exact ⟨z, e, hz⟩⟩
theorem Ty.opens_slice_any {α : Type} {P : Program} {t : Ty α} {T E : TypeId} {good : α → Prop} (hE : t.Opens P E good) (ht : P.underlying T = some (.slice E)) (hn : 0 < t.n) {H : Type} {enc : TypeId × Value → H} {W : World} {n : Nat} {cs : List Value} {y : DataW H × List MemPlace} (h : DataW.trod enc P W 0 (fun _ => true) true n T cs = some y) :
    ∃ l, t.slice.has (old W) W cs l ∧ (∀ x, x ∈ l → good x) ∧ (y.1 = .nil ∧ l = [] ∨ ∃ elems spare, y.1 = .slice elems spare ∧ l.length = elems.length) := by
  rcases open_slice ht h with ⟨rfl, hy⟩ | ⟨a, len, cap, m, k, D, Pl, rfl, hb, hl, hm, hmm, hy, hr⟩
  · exact ⟨[], Ty.slice_nil t _ W, fun x hx => absurd hx List.not_mem_nil, .inl ⟨by rw [hy], rfl⟩⟩
  · simp only [if_true] at hmm
    have each : ∀ i, i < len → ∃ x : α × List Value, (∀ j u, x.2[j]? = some u → W.cell? (a.add (i * t.n + j)) = some u) ∧ t.has (old W) W x.2 x.1 ∧ good x.1 := by
      intro i hi
      obtain ⟨cs', h1, h2⟩ := hr i (by omega)
      obtain ⟨_, hlen, hcell⟩ := World.cells?_some h1
      obtain ⟨x, hx, hg⟩ := hE.2 H enc W k cs' _ h2
      refine ⟨(x, cs'), fun j u hj => ?_, hx, hg⟩
      have hj : cs'[j]? = some u := hj
      have hj' := (List.getElem?_eq_some_iff.1 hj).1
      have := hcell j (by omega)
      rw [add_add, hE.1] at this
      rw [this]; exact hj
    rcases Nat.eq_zero_or_pos len with rfl | h0
    · exact ⟨[], ⟨some a, cap, rfl, by simp, hm, (fun h => by cases h), (fun h => absurd h (by simp))⟩, fun x hx => absurd hx List.not_mem_nil, .inr ⟨_, _, by rw [hy], by simp⟩⟩
    obtain ⟨x0, _⟩ := each 0 h0
    haveI : Inhabited (α × List Value) := ⟨x0⟩
    obtain ⟨q, hq⟩ := choose_lt each
    have hlen : ((List.range len).map fun i => (q i).1).length = len := by simp
    have har : a.spot = none := by
      have h1 := (hq 0 h0).2.1
      have h2 := t.len h1
      have h3 : (q 0).2[0]? = some ((q 0).2[0]'(by omega)) := List.getElem?_eq_getElem _
      have := (hq 0 h0).1 0 _ h3
      simpa [Addr.add] using World.cell?_spot this
    have hgb : a.block < W.heap.size := by
      have h1 := (hq 0 h0).2.1
      have h2 := t.len h1
      have h3 : (q 0).2[0]? = some ((q 0).2[0]'(by omega)) := List.getElem?_eq_getElem _
      have := (hq 0 h0).1 0 _ h3
      simpa [Addr.add] using World.block_lt_of_cell? W _ this
    obtain ⟨g, off, ar⟩ := a
    have har : ar = none := har
    subst har
    refine ⟨(List.range len).map fun i => (q i).1, ⟨some ⟨g, off, none⟩, cap, by rw [hlen], by rw [hlen]; exact hl, hm, (fun h => by cases h), fun _ => ⟨g, off, rfl, hgb, hgb, fun i x hi => ?_⟩⟩, ?_, .inr ⟨_, _, by rw [hy], by simp⟩⟩
    · rw [List.getElem?_map] at hi
      have hil : i < len := by
        by_cases h : i < len
        · exact h
        · rw [List.getElem?_eq_none (by simp; omega)] at hi; simp at hi
      rw [List.getElem?_range hil] at hi
      have hx : x = (q i).1 := by simpa using hi.symm
      subst hx
      refine ⟨(q i).2, (hq i hil).2.1, fun j u hj => ?_⟩
      have := (hq i hil).1 j u hj
      rw [add_plain, ← Nat.add_assoc] at this
      exact this
    · intro x hx
      obtain ⟨i, hi, rfl⟩ := List.mem_map.1 hx
      exact (hq i (List.mem_range.1 hi)).2.2
theorem Ty.opens_slice {α : Type} {P : Program} {t : Ty α} {T E : TypeId} {good : α → Prop} (hE : t.Opens P E good) (ht : P.underlying T = some (.slice E)) (hn : 0 < t.n) (hc : P.cellsOf T = 1) : t.slice.Opens P T (fun l => ∀ x, x ∈ l → good x) :=
  ⟨hc, fun H enc W n cs y h => by
    obtain ⟨l, h1, h2, _⟩ := Ty.opens_slice_any hE ht hn h
    exact ⟨l, h1, h2⟩⟩
/-- Fields, one behind the other from a place on. -/
def Ty.OpensF {α : Type} (P : Program) (t : Ty α) (fs : List Field) (off : Nat) (good : α → Prop) : Prop :=
  ∀ (H : Type) (enc : TypeId × Value → H) (W : World) (cs : List Value), cs.length = off + t.n → (∀ f, f ∈ fs → ∃ n y, DataW.trod enc P W 0 (fun _ => true) true n f.type ((cs.drop f.offset).take (P.cellsOf f.type)) = some y) → ∃ x, t.has (old W) W (cs.drop off) x ∧ good x
theorem Ty.opens_end {P : Program} (off : Nat) : Ty.end'.OpensF P [] off (fun _ => True) := fun H enc W cs hl _ => ⟨(), by
  have hl : cs.length = off + 0 := hl
  rw [Ty.end_has]
  exact List.drop_eq_nil_of_le (by omega), trivial⟩
theorem Ty.opens_cat {α β : Type} {P : Program} {a : Ty α} {b : Ty β} {f : Field} {fs : List Field} {off : Nat} {ga : α → Prop} {gb : β → Prop} (ho : f.offset = off) (ha : a.Opens P f.type ga) (hb : b.OpensF P fs (off + a.n) gb) : (a.cat b).OpensF P (f :: fs) off (fun x => ga x.1 ∧ gb x.2) := fun H enc W cs hl h => by
  have hl : cs.length = off + (a.n + b.n) := hl
  obtain ⟨n, y, hy⟩ := h f List.mem_cons_self
  obtain ⟨x, hx, hgx⟩ := ha.2 H enc W n _ y hy
  obtain ⟨z, hz, hgz⟩ := hb H enc W cs (by omega) (fun g hg => h g (List.mem_cons_of_mem _ hg))
  refine ⟨(x, z), ⟨(cs.drop off).take a.n, cs.drop (off + a.n), ?_, ?_, hz⟩, hgx, hgz⟩
  · rw [← List.drop_drop, List.take_append_drop]
  · rw [ha.1, ho] at hx; exact hx
theorem Ty.opens_struct {α β : Type} {P : Program} {t : Ty α} {T : TypeId} {fs : Array Field} {good : α → Prop} (f : β → α) (g : α → β) (hfg : ∀ x, f (g x) = x) (ht : P.underlying T = some (.struct fs)) (hc : P.cellsOf T = t.n) (h : t.OpensF P fs.toList 0 good) : (t.iso f).Opens P T (fun x => good (f x)) :=
  ⟨hc, fun H enc W n cs y hy => by
    obtain ⟨xs, k, _, _, hl, hxl, hg⟩ := DataW.trod_struct ht hy
    obtain ⟨x, hx, hgx⟩ := h H enc W cs (by omega) (fun f hf => by
      obtain ⟨i, hi, rfl⟩ := List.mem_iff_getElem.1 hf
      have hi' : i < fs.size := by simpa using hi
      have := hg i (fs.toList[i]) (by simp)
      have hx : xs[i]? = some (xs[i]'(by omega)) := List.getElem?_eq_getElem _
      rw [hx] at this
      exact ⟨k, _, this⟩)
    refine ⟨g x, ?_, ?_⟩
    · rw [Ty.iso_has, hfg]; exact hx
    · show good (f (g x)); rw [hfg]; exact hgx⟩

theorem Ty.Opens.imp {α : Type} {P : Program} {t : Ty α} {T : TypeId} {good good' : α → Prop} (h : t.Opens P T good) (k : ∀ x, good x → good' x) : t.Opens P T good' :=
  ⟨h.1, fun H enc W n cs y hy => by
    obtain ⟨x, hx, hg⟩ := h.2 H enc W n cs y hy
    exact ⟨x, hx, k x hg⟩⟩
/-- What is handed in: a struct, a slice. -/
theorem Ty.opened {α : Type} {P : Program} {t : Ty α} {T : TypeId} {good : α → Prop} (h : t.Opens P T good) {H : Type} {enc : TypeId × Value → H} {W : World} {v : Value} {d : DataW H} {p : List MemPlace} (hd : DataW.Trod enc P W 0 (fun _ => true) true T v d p) : ∃ x, t.has (old W) W v.cells.toList x ∧ good x := by
  obtain ⟨fuel, hf⟩ := hd
  exact h.2 H enc W fuel _ _ hf
theorem Ty.opened_struct {α : Type} {P : Program} {t : Ty α} {T : TypeId} {fs : Array Field} {good : α → Prop} (h : t.Opens P T good) (ht : P.underlying T = some (.struct fs)) {H : Type} {enc : TypeId × Value → H} {W : World} {base : Nat} {v : Value} {d : DataW H} {p : List MemPlace} (hval : Value.okWide P W .any base T v) (hd : DataW.Trod enc P W 0 (fun _ => true) true T v d p) : ∃ cs x, v = .agg ⟨cs⟩ ∧ t.has (old W) W cs x ∧ good x := by
  obtain ⟨cs, rfl, _⟩ := okWide_struct ht hval
  obtain ⟨x, hx, hg⟩ := Ty.opened h hd
  exact ⟨cs.toList, x, rfl, hx, hg⟩
theorem Ty.opened_slice {α : Type} {P : Program} {t : Ty α} {T E : TypeId} {good : α → Prop} (h : t.Opens P E good) (hn : 0 < t.n) (ht : P.underlying T = some (.slice E)) {H : Type} {enc : TypeId × Value → H} {W : World} {base : Nat} {v : Value} {d : DataW H} {p : List MemPlace} (hval : Value.okWide P W .any base T v) (hd : DataW.Trod enc P W 0 (fun _ => true) true T v d p) : ∃ l, t.slice.has (old W) W [v] l ∧ (∀ x, x ∈ l → good x) ∧ (d = .nil ∧ l = [] ∨ ∃ elems spare, d = .slice elems spare ∧ l.length = elems.length) := by
  obtain ⟨a, len, cap, rfl⟩ := okWide_slice ht hval
  obtain ⟨fuel, hf⟩ := hd
  obtain ⟨l, h1, h2, h3⟩ := Ty.opens_slice_any h ht hn hf
  exact ⟨l, h1, h2, h3⟩

/-- Cells, one row. -/
theorem flat_at {n : Nat} {css : List (List Value)} (hn : ∀ cs, cs ∈ css → cs.length = n) (i j : Nat) (cs : List Value) (hi : css[i]? = some cs) (u : Value) (hj : cs[j]? = some u) : css.flatten[i * n + j]? = some u := by
  induction css generalizing i with
  | nil => simp at hi
  | cons c t ih =>
    have hc := hn c List.mem_cons_self
    rw [List.flatten_cons]
    cases i with
    | zero =>
      have : c = cs := by simpa using hi
      subst this
      have hj' := (List.getElem?_eq_some_iff.1 hj).1
      rw [List.getElem?_append_left (by omega)]
      rw [Nat.zero_mul, Nat.zero_add]
      exact hj
    | succ i =>
      have e : (i + 1) * n + j = n + (i * n + j) := by rw [Nat.succ_mul]; omega
      rw [List.getElem?_append_right (by omega), e, hc, Nat.add_sub_cancel_left]
      exact ih (fun cs hcs => hn cs (List.mem_cons_of_mem _ hcs)) i (by simpa using hi)
/-- A slice whose row is one's own. -/
theorem Ty.of_row {α : Type} (t : Ty α) {p : Nat → Prop} {W : World} {B : Nat} {T : TypeId} {v : Value} {l : List α} {css : List (List Value)} (h : W.ownsRow B T t.n v l.length css.flatten) (hl : css.length = l.length) (he : ∀ (i : Nat) x cs, l[i]? = some x → css[i]? = some cs → t.has p W cs x) (hp : ∀ b, B ≤ b → p b) : t.slice.has p W [v] l := by
  have hn : ∀ cs, cs ∈ css → cs.length = t.n := by
    intro cs hcs
    obtain ⟨i, hi, rfl⟩ := List.mem_iff_getElem.1 hcs
    exact t.len (he i _ _ (List.getElem?_eq_getElem (by omega)) (List.getElem?_eq_getElem hi))
  rcases h.2 with ⟨rfl, h0⟩ | ⟨g, cap, cur, rfl, hb, hg, hle, hm, hs, ht⟩
  · have : l = [] := List.length_eq_zero_iff.1 h0
    subst this
    exact Ty.slice_nil t p W
  · have hgs : g < W.heap.size := (Array.getElem?_eq_some_iff.1 hg).1
    refine ⟨some ⟨g, 0, none⟩, cap, rfl, hle, hm, (fun h => by cases h), fun _ => ⟨g, 0, rfl, hp g hb, hgs, fun i x hi => ?_⟩⟩
    have hil := (List.getElem?_eq_some_iff.1 hi).1
    have hci : css[i]? = some (css[i]'(by omega)) := List.getElem?_eq_getElem _
    refine ⟨_, he i x _ hi hci, fun j u hj => ?_⟩
    have := flat_at hn i j _ hci u hj
    have hc := h.cells (g := g) rfl _ _ this
    rw [add_plain, ← Nat.add_assoc] at hc
    exact hc
/-- A part of a slice. -/
theorem Ty.part {α : Type} (t : Ty α) {p : Nat → Prop} {W : World} {g off len cap : Nat} {l : List α} (h : t.slice.has p W [.slice (some ⟨g, off, none⟩) len cap] l) (i j c : Nat) (hij : i ≤ j) (hj : j ≤ len) (hc1 : j - i ≤ c) (hc2 : c ≤ maxLen) : t.slice.has p W [.slice (some ⟨g, off + i * t.n, none⟩) (j - i) c] ((l.drop i).take (j - i)) := by
  obtain ⟨a, cap', e, h1, h2, h3, h4⟩ := h
  simp only [List.cons.injEq, and_true, Value.slice.injEq] at e
  obtain ⟨e1, e2, e3⟩ := e
  have hlen : ((l.drop i).take (j - i)).length = j - i := by rw [List.length_take, List.length_drop]; omega
  refine ⟨_, c, by rw [hlen], by rw [hlen]; exact hc1, hc2, (fun h => by cases h), fun h0 => ?_⟩
  rw [hlen] at h0
  obtain ⟨g', off', ha, hp, hg, hx⟩ := h4 (by omega)
  rw [ha] at e1
  simp only [Option.some.injEq, Addr.mk.injEq, and_true] at e1
  obtain ⟨rfl, rfl⟩ := e1
  refine ⟨g, off + i * t.n, rfl, hp, hg, fun k x hk => ?_⟩
  have hk' : k < j - i := by have := (List.getElem?_eq_some_iff.1 hk).1; omega
  rw [List.getElem?_take_of_lt hk', List.getElem?_drop] at hk
  obtain ⟨cs, h, hcs⟩ := hx (i + k) x hk
  refine ⟨cs, h, fun q u hq => ?_⟩
  have := hcs q u hq
  rw [Nat.add_mul, ← Nat.add_assoc] at this
  exact this
end Go.Proofs.Ytcjopphefmogiaa
