/- Timers that are handed in. -/
import Derived.Test.YtkamcjebihfdlaaTmA
import Derived.Test.YtkamcjebihfdlaaOpen
import Derived.Test.YtkamcjebihfdlaaOpenN
import Derived.Test.YtkamcjebihfdlaaOpenI
import Derived.SizedLaws
import Derived.Test.YtkamcjebihfdlaaRows
import Derived.OpenShut
namespace Go.Proofs.Ytkamcjebihfdlaa
open Go.ChangeShapes Go.WideShapes Go.RowKit Go.Deep
set_option linter.unusedVariables false
set_option maxRecDepth 20000

theorem ty_int : (Ty.int .i64).Opens Try.prog 3 (fun z => (Lit.int .i64 z).wf = true) := Ty.opens_int Try.underlying3 (by kernel_rfl)

def tTimer : Ty Ti.T := ((Ty.int .i64).cat <| (Ty.int .i64).cat <| Ty.end').iso fun x => (x.at', x.id', ())
def okTimer (x : Ti.T) : Prop := (Lit.int .i64 (x.at')).wf = true ∧ (Lit.int .i64 (x.id')).wf = true
theorem Timer_has {p : Nat → Prop} {W : World} {cs : List Value} {x : Ti.T} : tTimer.has p W cs x ↔ cs = [.int .i64 x.at', .int .i64 x.id'] := by
  unfold tTimer
  constructor
  · intro h
    have h := Ty.iso_has.1 h
    obtain ⟨c0, d0, e0, a0, h⟩ := h
    obtain ⟨c1, d1, e1, a1, h⟩ := h
    rw [Ty.end_has] at h
    have a0 : c0 = _ := a0
    have a1 : c1 = _ := a1
    subst h
    rw [e0, e1, a0, a1]; rfl
  · rintro rfl
    exact Ty.iso_has.2 ⟨_, _, rfl, rfl, ⟨_, _, rfl, rfl, rfl⟩⟩
theorem opens_Timer : tTimer.Opens Try.prog 31 okTimer :=
  (Ty.opens_struct _ (fun y => ⟨y.1, y.2.1⟩) (fun _ => rfl) Try.underlying31 (by kernel_rfl) (Ty.opens_cat rfl ty_int (Ty.opens_cat rfl ty_int (Ty.opens_end _)))).imp fun x h => ⟨h.1, h.2.1⟩
theorem opens_Timers : tTimer.slice.Opens Try.prog 22 (fun l => ∀ x, x ∈ l → okTimer x) := Ty.opens_slice opens_Timer Try.underlying22 (by decide) (by kernel_rfl)
theorem Timer_flat : tTimer.Flat fun x => [.int .i64 x.at', .int .i64 x.id'] := fun _ _ _ _ => Timer_has

theorem ts_of {p : Nat → Prop} {W : World} {v : Value} {l : List Ti.T} (h : tTimer.slice.has p W [v] l) : TS W v l := by
  rw [Ty.slice_has] at h
  obtain ⟨a, cap, hv, h1, h2, h3, h4⟩ := h
  simp only [List.cons.injEq, and_true] at hv
  refine ⟨a, cap, hv, h1, h2, h3, fun g off ar ha h0 => ?_⟩
  obtain ⟨g', off', e, _, hg, hc⟩ := h4 h0
  rw [ha] at e
  cases e
  refine ⟨rfl, hg, fun i hi => ?_⟩
  obtain ⟨cs, hcs, hu⟩ := hc i l[i] (List.getElem?_eq_getElem hi)
  rw [Timer_has] at hcs
  subst hcs
  have q0 := hu 0 _ rfl
  have q1 := hu 1 _ rfl
  rw [Ti.g_at hi]
  exact ⟨q0, q1⟩
theorem open_timers {H : Type} {enc : TypeId × Value → H} {W : World} {base : Nat} {v : Value} {d : DataW H} {p : List MemPlace} (hval : Value.okWide Try.prog W .any base 22 v) (h : DataW.Trod enc Try.prog W 0 (fun _ => true) true 22 v d p) :
    ∃ l : List Ti.T, TS W v l ∧ (∀ x, x ∈ l → okTimer x) ∧ (d = .nil ∧ l = [] ∨ ∃ elems spare, d = .slice elems spare ∧ l.length = elems.length) := by
  obtain ⟨l, h1, h2, h3⟩ := Ty.opened_slice opens_Timer (by decide) Try.underlying22 hval h
  exact ⟨l, ts_of h1, h2, h3⟩
theorem Try.bytesT : Try.prog.bytesOf 31 = 16 := by kernel_rfl
end Go.Proofs.Ytkamcjebihfdlaa
