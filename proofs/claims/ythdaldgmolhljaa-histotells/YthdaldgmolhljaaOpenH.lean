/- A histogram that is handed in. -/
import Derived.Test.YthdaldgmolhljaaOpen
import Derived.Test.YthdaldgmolhljaaOpenN
import Derived.Test.YthdaldgmolhljaaOpenI
import Derived.Test.YthdaldgmolhljaaGT
import Derived.Test.YthdaldgmolhljaaHsC
import Derived.Lib.SmallJoins
import Derived.SizedLaws
namespace Go.Proofs.Ythdaldgmolhljaa
open Go.ChangeShapes Go.WideShapes Go.ChangeAt Go.RowKit
set_option maxRecDepth 20000
set_option linter.unusedSimpArgs false
set_option linter.unusedVariables false

theorem ty_int : (Ty.int .i64).Opens Try.prog 3 (fun z => (Lit.int .i64 z).wf = true) := Ty.opens_int Try.underlying3 (by kernel_rfl)
theorem fields_histo : ∃ f0 f1 : Field, Try.prog.underlying 24 = some (.struct #[f0, f1]) ∧ (f0.offset = 0 ∧ f1.offset = 1) ∧ (f0.type = 22 ∧ f1.type = 3) :=
  ⟨_, _, Try.underlying24, ⟨rfl, rfl⟩, ⟨rfl, rfl⟩⟩
theorem array2h {α : Type} {cs : Array α} (h : cs.size = 2) : ∃ c0 c1, cs = #[c0, c1] := by
  obtain ⟨l⟩ := cs
  match l, h with
  | [c0, c1], _ => exact ⟨c0, c1, rfl⟩
theorem list2h {α : Type} {cs : List α} (h : cs.length = 2) : ∃ c0 c1, cs = [c0, c1] := by
  match cs, h with
  | [c0, c1], _ => exact ⟨c0, c1, rfl⟩

set_option maxHeartbeats 1000000 in
theorem open_histo {H : Type} {enc : TypeId × Value → H} {W : World} {base : Nat} {v : Value} {d : DataW H} {p : List MemPlace} (hval : Value.okWide Try.prog W .any base 24 v)
    (h : DataW.Trod enc Try.prog W 0 (fun _ => true) true 24 v d p) : ∃ (r : Value) (x : Hi.H), v = vH r x.t ∧ Seg .i64 W r x.c ∧ (∀ z, z ∈ x.c → (Lit.int .i64 z).wf = true) ∧ (Lit.int .i64 x.t).wf = true ∧ (∃ parts, d = .agg parts ∧ (x.c = [] ∨ ∃ elems spare, parts[0]? = some (.slice elems spare) ∧ x.c.length = elems.length)) := by
  obtain ⟨f0, f1, he, ⟨o0, o1⟩, ⟨y0, y1⟩⟩ := fields_histo
  have ce : Try.prog.cellsOf 24 = 2 := by kernel_rfl
  have c3 : Try.prog.cellsOf 3 = 1 := by kernel_rfl
  have c4 : Try.prog.cellsOf 22 = 1 := by kernel_rfl
  obtain ⟨cs, rfl, hsz⟩ := okWide_struct he hval
  obtain ⟨z0, z1, rfl⟩ := array2h (hsz.trans ce)
  obtain ⟨fuel, hf⟩ := h
  obtain ⟨xs, k, hk, hxy, _, hxl, hg⟩ := DataW.trod_struct he hf
  obtain ⟨q0, q1, rfl⟩ := list2h hxl
  have g0 := hg 0 f0 rfl
  have g1 := hg 1 f1 rfl
  clear hg
  simp only [o0, o1, y0, y1, c3, c4, Value.cells, List.drop_zero, List.drop_succ_cons, List.take_succ_cons, List.take_zero, List.getElem?_cons_zero, List.getElem?_cons_succ] at g0 g1
  obtain ⟨n1, e1, w1⟩ := ty_int.2 H enc W _ _ _ g1
  rw [Ty.int_has] at e1
  obtain ⟨l, hl, hw, hx⟩ := Ty.opens_slice_any ty_int Try.underlying22 (by decide) g0
  simp only [List.cons.injEq, and_true] at e1
  subst e1
  have hs := Ty.seg hl
  refine ⟨z0, ⟨l, n1⟩, rfl, hs, hw, w1, ?_⟩
  · simp only [Prod.mk.injEq] at hxy
    refine ⟨_, hxy.1, ?_⟩
    rcases hx with ⟨_, hx⟩ | ⟨el, sp, hx, hle⟩
    · exact .inl hx
    · refine .inr ⟨el, sp, ?_, hle⟩
      simp only [List.map_cons, List.map_nil, List.getElem?_cons_zero]
      rw [← hx]
theorem sized_histo {H : Type} {ts : List TypeId} {ds : List (DataW H)} (h : (DataW.weightsEach Try.prog ts ds).all (· ≤ reachBytes) = true) {j : Nat} {parts elems spare : List (DataW H)} (ht : ts[j]? = some 24) (hd : ds[j]? = some (.agg parts)) (hp : parts[0]? = some (.slice elems spare)) : elems.length ≤ 17592186043904 := by
  have := List.all_eq_true.1 h _ (DataW.weights_mem_each ht hd ((elems.length + spare.length) * Try.prog.bytesOf 3) (by
    simp only [DataW.weights, Try.underlying24]
    exact DataW.weights_mem_each (j := 0) rfl hp _ (by simp [DataW.weights, Try.underlying22])))
  rw [Try.bytesI] at this
  simp at this
  unfold reachBytes at this
  omega
end Go.Proofs.Ythdaldgmolhljaa
