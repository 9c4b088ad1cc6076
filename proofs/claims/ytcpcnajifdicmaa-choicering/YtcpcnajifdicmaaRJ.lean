/- ring: slices.SortFunc of points that one owns. -/
import Derived.Test.YtcpcnajifdicmaaRI
import Derived.Shelf.SlSortCmp.InsertionK
import Derived.Shelf.SlGeneric
namespace Go.Proofs
end Go.Proofs
namespace Go.Proofs.Ytcpcnajifdicmaa
open Go.RowKit Go.Sort Go.Shelf

theorem aggP (w : World) : (isAgg 79).run Try.prog w = .ok true w := by kernel_rfl
theorem sizeP (w : World) : (Go.sizeOf 79).run Try.prog w = .ok 2 w := by kernel_rfl
def encP (x : Rp.Pt) : List Value := [.int .u64 x.1, .int .i64 x.2]
theorem ltP : ltOf Rp.cf = Rp.lt := by
  funext x y
  exact Rp.cf_lt x y
theorem swoP : SWO (ltOf Rp.cf) := by
  rw [ltP]
  refine ⟨fun x => ?_, fun x y z h k => ?_, fun x y z h k => ?_⟩
  · rw [Rp.lt_false]; omega
  · rw [Rp.lt_iff] at *; omega
  · rw [Rp.lt_false] at *; omega
theorem totP (x y : Rp.Pt) (h : ltOf Rp.cf x y = false) (k : ltOf Rp.cf y x = false) : x = y := by
  rw [ltP, Rp.lt_false] at *
  exact Prod.ext (by omega) (by omega)
theorem mergeP (l : List Rp.Pt) : (l.mergeSort fun x y => !(ltOf Rp.cf) y x) = l.mergeSort Rp.le := by
  have : (fun x y => !(ltOf Rp.cf) y x) = Rp.le := by
    funext x y
    rw [ltP]
    rfl
  rw [this]
theorem cmpP (blk off size : Nat) (w : World) : CmpLays Try.prog 63 #[] encP 2 Rp.cf blk off size w := fun _ _ _ _ x y => order_any x y _

theorem rowP_at (xs : List Rp.Pt) (j : Nat) (h : j < xs.length * 2) : (rowP xs)[j]? = some ((encP xs[j / 2]!)[j % 2]!) := by
  induction xs generalizing j with
  | nil => simp at h
  | cons x r ih =>
    match j with
    | 0 => rfl
    | 1 => rfl
    | j + 2 =>
      have h' : j < r.length * 2 := by simp at h; omega
      have e1 : (j + 2) / 2 = j / 2 + 1 := by omega
      have e2 : (j + 2) % 2 = j % 2 := by omega
      rw [e1, e2]
      show (rowP r)[j]? = _
      rw [ih j h']
      simp
theorem flat_at (d : Array Rp.Pt) (j : Nat) (h : j < d.size * 2) : some ((flatK encP 2 d)[j]!) = (rowP d.toList)[j]? := by
  have e : d[j / 2]! = d.toList[j / 2]! := by rw [getElem!_def, getElem!_def, Array.getElem?_toList]
  rw [get_flatK encP 2 d j h, rowP_at d.toList j (by simpa using h), e]

theorem holds_of_row {W : World} {n₀ g cap : Nat} {d : List Rp.Pt} (h : W.ownsRow n₀ 79 2 (.slice (some ⟨g, 0, none⟩) d.length cap) d.length (rowP d)) : HoldsK encP 2 W g 0 d.toArray ∧ g < W.heap.size := by
  rcases h.2 with ⟨h1, _⟩ | ⟨g3, cap3, cur, h1, _, hgb, _, _, hsz, htk⟩
  · cases h1
  · cases h1
    refine ⟨fun j hj => ?_, (Array.getElem?_eq_some_iff.1 hgb).1⟩
    have hj' : j < d.length * 2 := by simpa using hj
    have e := flat_at d.toArray j (by simpa using hj')
    have hcur : cur[j]? = some ((flatK encP 2 d.toArray)[j]!) := by
      rw [e]
      show _ = (rowP d)[j]?
      rw [← htk, List.getElem?_take_of_lt hj', Array.getElem?_toList]
    refine ⟨?_, ?_⟩
    · rw [Nat.zero_add]
      simp [World.cell?, hgb, hcur]
    · simp [World.frozen?, hgb]

end Go.Proofs.Ytcpcnajifdicmaa
