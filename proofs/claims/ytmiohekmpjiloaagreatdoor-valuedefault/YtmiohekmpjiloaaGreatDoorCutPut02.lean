/- Slices of integers that are read; copies of octets; octets compared; octets written over. -/
import Derived.Test.YtmiohekmpjiloaaGreatDoorCutPut01
import Derived.Test.YtmiohekmpjiloaaGreatDoorProg
import Derived.WalkKit
import Derived.WalkSpells
import Derived.WalkLawsBesides
import Derived.Laws.AppendOwnNone
namespace Go.Proofs.YtmiohekmpjiloaaGreatDoor
open Go.RowKit
set_option maxRecDepth 20000

theorem Tryz.info5 : (Tryz.prog.info? 5).map (fun i => (i.zero, i.size, i.bytes)) = some (some (.int .u8 0), 1, 1) := by kernel_rfl
/-- A slice value that reads as a list of integers of a kind. -/
def Seg (k : IntKind) (w : World) (v : Value) (l : List Int) : Prop :=
  ∃ (a : Option Addr) (cap : Nat), v = .slice a l.length cap ∧ l.length ≤ cap ∧ cap ≤ maxLen ∧ (a = none → l = [] ∧ cap = 0) ∧
    ∀ x, a = some x → ∀ i, i < l.length → w.cell? (x.add i) = some (.int k (l.getD i 0))

theorem Seg.below {k : IntKind} {w w' : World} {v : Value} {l : List Int} (h : Seg k w v l) (hb : Below w.heap.size w w') : Seg k w' v l := by
  obtain ⟨a, cap, rfl, h1, h2, h3, h4⟩ := h
  refine ⟨a, cap, rfl, h1, h2, h3, fun x hx i hi => ?_⟩
  have hc := h4 x hx i hi
  rw [hb.cell (World.block_lt_of_cell? w _ hc)]
  exact hc

theorem Seg.own {k : IntKind} {e : TypeId} {w : World} {B : Nat} {v : Value} {l : List Int} (h : w.ownsRow B e 1 v l.length (l.map (Value.int k))) : Seg k w v l := by
  rcases h.2 with ⟨rfl, hn⟩ | ⟨g, cap, cur, rfl, hb, hg, hle, hm, hs, ht⟩
  · have : l = [] := List.length_eq_zero_iff.1 hn
    subst this
    exact ⟨none, 0, rfl, Nat.le_refl _, Nat.zero_le _, fun _ => ⟨rfl, rfl⟩, fun x hx => by cases hx⟩
  · refine ⟨some ⟨g, 0, none⟩, cap, rfl, hle, hm, fun hx => (by cases hx), fun x hx i hi => ?_⟩
    cases hx
    refine h.cells (g := g) rfl i _ ?_
    simp [hi]

theorem add_plain (b off i : Nat) : (⟨b, off, none⟩ : Addr).add i = ⟨b, off + i, none⟩ := by unfold Addr.add; split <;> simp_all

theorem Seg.nil (k : IntKind) (w : World) : Seg k w (.slice none 0 0) [] := ⟨none, 0, rfl, Nat.le_refl _, Nat.zero_le _, fun _ => ⟨rfl, rfl⟩, fun x hx => by cases hx⟩

theorem map_cells {k : IntKind} {w : World} {x : Addr} {l : List Int} (h : ∀ i, i < l.length → w.cell? (x.add i) = some (.int k (l.getD i 0))) :
    ∀ j u, (l.map (Value.int k))[j]? = some u → w.cell? (x.add j) = some u := by
  intro j u hj
  rw [List.getElem?_map] at hj
  by_cases hjl : j < l.length
  · rw [List.getElem?_eq_getElem hjl] at hj
    simp at hj
    subst hj
    rw [h j hjl]
    simp [hjl]
  · rw [List.getElem?_eq_none (by omega)] at hj
    cases hj

def strOf (l : List Int) : ByteArray := l.foldl (fun r n => r.push (UInt8.ofNat n.toNat)) ByteArray.empty

theorem seg_string {w : World} {v : Value} {l : List Int} (h : Seg .u8 w v l) : (convert 134 9 v).run Tryz.prog w = .ok (.string (strOf l)) w := by
  obtain ⟨a, cap, rfl, h1, h2, h3, h4⟩ := h
  rw [run_convert_bytes_string w 134 9 5 a l.length cap Tryz.underlying134 Tryz.underlying5 Tryz.underlying9]
  rcases a with _ | x
  · obtain ⟨rfl, rfl⟩ := h3 rfl
    simp [Conv.bytesToString, strOf]
  · refine run_bytesToString w x l.length cap l ?_
    have := run_loadCells_list (P := Tryz.prog) w x (l.map (Value.int .u8)) (map_cells fun i hi => h4 x rfl i hi)
    rw [List.length_map] at this
    exact this

theorem grownBy_refl (w : World) (r : Option Nat) : w.grownBy w r := ⟨rfl, rfl, rfl, Nat.le_refl _, fun _ _ _ => rfl⟩
end Go.Proofs.YtmiohekmpjiloaaGreatDoor

