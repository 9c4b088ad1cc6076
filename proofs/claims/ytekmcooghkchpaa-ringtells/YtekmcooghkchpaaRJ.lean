/- ring: slices.SortFunc of points that one owns. -/
import Derived.Test.YtekmcooghkchpaaRI
import Derived.Shelf.SlSortCmp.NoneTotal
import Derived.Shelf.SlGeneric
import Derived.Ground.SlsfProg
namespace Go.Proofs
open Go.Shelf
shelf_lay_g SlLaysF0.n6 Slsf 6 at Try 28 as Try.sortP
end Go.Proofs
namespace Go.Proofs.Ytekmcooghkchpaa
open Go.RowKit Go.Sort Go.Shelf

theorem aggP (w : World) : (isAgg 52).run Try.prog w = .ok true w := by kernel_rfl
theorem sizeP (w : World) : (Go.sizeOf 52).run Try.prog w = .ok 2 w := by kernel_rfl
def encP (x : Rp.Pt) : List Value := [.int .u64 x.1, .int .i64 x.2]
theorem ltP : ltOf Rp.cf = Rp.lt := by
  funext x y
  exact Rp.cf_lt x y
theorem swoP : SWO (ltOf Rp.cf) := by
  rw [ltP]
  refine ⟨fun x => ?_, fun x y z h k => ?_, fun x y z h k => ?_⟩
  · rw [Rp.lt_false]; omega
  · rw [Rp.lt_iff] at *; omega
  · rw [Rp.lt_false] at *; omega
theorem totP (x y : Rp.Pt) (h : ltOf Rp.cf x y = false) (k : ltOf Rp.cf y x = false) : x = y := by
  rw [ltP, Rp.lt_false] at *
  exact Prod.ext (by omega) (by omega)
theorem mergeP (l : List Rp.Pt) : (l.mergeSort fun x y => !(ltOf Rp.cf) y x) = l.mergeSort Rp.le := by
  have : (fun x y => !(ltOf Rp.cf) y x) = Rp.le := by
    funext x y
    rw [ltP]
    rfl
  rw [this]
theorem cmpP (blk off size : Nat) (w : World) : CmpLays Try.prog 29 #[] encP 2 Rp.cf blk off size w := fun _ _ _ _ x y => order_any x y _

theorem rowP_at (xs : List Rp.Pt) (j : Nat) (h : j < xs.length * 2) : (rowP xs)[j]? = some ((encP xs[j / 2]!)[j % 2]!) := by
  induction xs generalizing j with
  | nil => simp at h
  | cons x r ih =>
    match j with
    | 0 => rfl
    | 1 => rfl
    | j + 2 =>
      have h' : j < r.length * 2 := by simp at h; omega
      have e1 : (j + 2) / 2 = j / 2 + 1 := by omega
      have e2 : (j + 2) % 2 = j % 2 := by omega
      rw [e1, e2]
      show (rowP r)[j]? = _
      rw [ih j h']
      simp
theorem flat_at (d : Array Rp.Pt) (j : Nat) (h : j < d.size * 2) : some ((flatK encP 2 d)[j]!) = (rowP d.toList)[j]? := by
  have e : d[j / 2]! = d.toList[j / 2]! := by rw [getElem!_def, getElem!_def, Array.getElem?_toList]
  rw [get_flatK encP 2 d j h, rowP_at d.toList j (by simpa using h), e]

theorem holds_of_row {W : World} {n₀ g cap : Nat} {d : List Rp.Pt} (h : W.ownsRow n₀ 52 2 (.slice (some ⟨g, 0, none⟩) d.length cap) d.length (rowP d)) : HoldsK encP 2 W g 0 d.toArray ∧ g < W.heap.size := by
  rcases h.2 with ⟨h1, _⟩ | ⟨g3, cap3, cur, h1, _, hgb, _, _, hsz, htk⟩
  · cases h1
  · cases h1
    refine ⟨fun j hj => ?_, (Array.getElem?_eq_some_iff.1 hgb).1⟩
    have hj' : j < d.length * 2 := by simpa using hj
    have e := flat_at d.toArray j (by simpa using hj')
    have hcur : cur[j]? = some ((flatK encP 2 d.toArray)[j]!) := by
      rw [e]
      show _ = (rowP d)[j]?
      rw [← htk, List.getElem?_take_of_lt hj', Array.getElem?_toList]
    refine ⟨?_, ?_⟩
    · rw [Nat.zero_add]
      simp [World.cell?, hgb, hcur]
    · simp [World.frozen?, hgb]

theorem sort_owned (n₀ : Nat) (W : World) (g cap : Nat) (d : List Rp.Pt) (hd : d.length ≤ 1024) (h : W.ownsRow n₀ 52 2 (.slice (some ⟨g, 0, none⟩) d.length cap) d.length (rowP d)) :
    Calls Try.prog 28 #[.slice (some ⟨g, 0, none⟩) d.length cap, .func (.func 29) #[] #[]] W fun e w' => e = .returned (.tuple #[]) ∧ w'.ownsRow n₀ 52 2 (.slice (some ⟨g, 0, none⟩) d.length cap) d.length (rowP (d.mergeSort Rp.le)) ∧ W.grownBy w' (some g) := by
  obtain ⟨hH, hg⟩ := holds_of_row h
  have c := AnyQ.slices_SortFunc_total Try.sortP 2 aggP sizeP encP (fun _ => rfl) (fun x v hv => by simp [encP] at hv; rcases hv with rfl | rfl <;> rfl) Rp.cf swoP 29 #[] g 0 cap d.toArray W (fun _ _ => rfl) (cmpP g 0 d.toArray.size W) hH hg (by simp; omega) totP
  simp only [mergeP, List.size_toArray] at c
  change Calls Try.prog 28 _ _ _ at c
  refine c.mono ?_
  rintro e w' ⟨rfl, n, os, rfl⟩
  have hlen : (d.mergeSort Rp.le).length = d.length := List.length_mergeSort d
  have hH2 := holdsK_sortWorldK encP 2 W g 0 n d.toArray (d.mergeSort Rp.le).toArray os hg hH (by simp [hlen])
  have hgrow : W.grownBy (sortWorldK encP 2 W g 0 n (d.mergeSort Rp.le).toArray os) (some g) := by
    refine ⟨rfl, rfl, rfl, ?_, fun k hk hne => ?_⟩
    · simp [sortWorldK, grow, putRowK, putRow, mapBlock, Sort.ahead]
    · have hne' : g ≠ k := fun e => hne (by rw [e])
      simp only [sortWorldK, grow, putRowK, putRow, mapBlock, Sort.ahead]
      rw [Array.getElem?_append_left (by simpa using hk), Array.getElem?_modify, if_neg hne']
  refine ⟨rfl, ?_, hgrow⟩
  rcases h.2 with ⟨h1, _⟩ | ⟨g3, cap3, cur, h1, hge, hgb, hle, hmx, hsz, htk⟩
  · cases h1
  · cases h1
    refine ⟨by rw [rowP_length, hlen], .inr ⟨g, cap, putCells id 0 (flatK encP 2 (d.mergeSort Rp.le).toArray) cur, rfl, hge, ?_, hle, hmx, by simp [putCells, hsz], ?_⟩⟩
    · simp only [sortWorldK, grow, putRowK, putRow, mapBlock, Sort.ahead]
      rw [Array.getElem?_append_left (by simpa using hg), Array.getElem?_modify, if_pos rfl, hgb]
      rfl
    · apply List.ext_getElem?
      intro j
      by_cases hj : j < d.length * 2
      · have hj2 : j < cur.size := by rw [hsz]; omega
        rw [List.getElem?_take_of_lt hj, Array.getElem?_toList]
        have e := flat_at (d.mergeSort Rp.le).toArray j (by simpa [hlen] using hj)
        rw [show (d.mergeSort Rp.le).toArray.toList = d.mergeSort Rp.le from rfl] at e
        rw [← e]
        simp only [putCells, Array.getElem?_mapIdx, Array.getElem?_eq_getElem hj2, Option.map_some, id]
        rw [if_pos ⟨Nat.zero_le _, by simp [hlen]; omega⟩]
        rfl
      · rw [List.getElem?_eq_none (by simp; omega), List.getElem?_eq_none (by rw [rowP_length, hlen]; omega)]
end Go.Proofs.Ytekmcooghkchpaa
