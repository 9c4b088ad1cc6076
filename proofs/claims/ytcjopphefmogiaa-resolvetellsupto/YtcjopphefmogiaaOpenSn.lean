/- Snapshots that are handed in (shapes made by mkTy.py). -/
import Derived.Test.YtcjopphefmogiaaRsH
import Derived.Test.YtcjopphefmogiaaOpen
import Derived.Test.YtcjopphefmogiaaOpenN
import Derived.Test.YtcjopphefmogiaaOpenI
import Derived.Lib.SmallJoins
import Derived.SizedLaws
import Derived.Test.YtcjopphefmogiaaRows
import Derived.OpenShut
namespace Go.Proofs.Ytcjopphefmogiaa
open Go.ChangeShapes Go.WideShapes Go.ChangeAt Go.RowKit Go.Deep
set_option linter.unusedSimpArgs false
set_option linter.unusedVariables false
set_option maxRecDepth 20000

theorem ty_int : (Ty.int .i64).Opens Try.prog 3 (fun z => (Lit.int .i64 z).wf = true) := Ty.opens_int Try.underlying3 (by kernel_rfl)

def tBackend : Ty Rp.Pt := ((Ty.int .i64).cat <| (Ty.int .i64).cat <| Ty.end').iso fun x => (x.1, x.2, ())
def okBackend (x : Rp.Pt) : Prop := (Lit.int .i64 (x.1)).wf = true ∧ (Lit.int .i64 (x.2)).wf = true
theorem Backend_has {p : Nat → Prop} {W : World} {cs : List Value} {x : Rp.Pt} : tBackend.has p W cs x ↔ cs = [.int .i64 x.1, .int .i64 x.2] := by
  unfold tBackend
  constructor
  · intro h
    have h := Ty.iso_has.1 h
    obtain ⟨c0, d0, e0, a0, h⟩ := h
    obtain ⟨c1, d1, e1, a1, h⟩ := h
    rw [Ty.end_has] at h
    have a0 : c0 = _ := a0
    have a1 : c1 = _ := a1
    subst h
    rw [e0, e1, a0, a1]; rfl
  · rintro rfl
    exact Ty.iso_has.2 ⟨_, _, rfl, rfl, ⟨_, _, rfl, rfl, rfl⟩⟩
theorem opens_Backend : tBackend.Opens Try.prog 60 okBackend :=
  (Ty.opens_struct _ (fun y => (y.1, y.2.1)) (fun _ => rfl) Try.underlying60 (by kernel_rfl) (Ty.opens_cat rfl ty_int (Ty.opens_cat rfl ty_int (Ty.opens_end _)))).imp fun x h => ⟨h.1, h.2.1⟩
theorem opens_Backends : tBackend.slice.Opens Try.prog 22 (fun l => ∀ x, x ∈ l → okBackend x) := Ty.opens_slice opens_Backend Try.underlying22 (by decide) (by kernel_rfl)
theorem Backend_flat : tBackend.Flat fun x => [.int .i64 x.1, .int .i64 x.2] := fun _ _ _ _ => Backend_has

def tSnapshot : Ty Rv.S := ((Ty.int .i64).cat <| tBackend.slice.cat <| Ty.end').iso fun x => (x.v, x.l, ())
def okSnapshot (x : Rv.S) : Prop := (Lit.int .i64 (x.v)).wf = true ∧ (∀ z, z ∈ x.l → okBackend z)
theorem Snapshot_has {p : Nat → Prop} {W : World} {cs : List Value} {x : Rv.S} : tSnapshot.has p W cs x ↔ ∃ v0, cs = [.int .i64 x.v, v0] ∧ tBackend.slice.has p W [v0] x.l := by
  unfold tSnapshot
  constructor
  · intro h
    have h := Ty.iso_has.1 h
    obtain ⟨c0, d0, e0, a0, h⟩ := h
    obtain ⟨c1, d1, e1, a1, h⟩ := h
    rw [Ty.end_has] at h
    have a0 : c0 = _ := a0
    obtain ⟨u1, a1, b1⟩ : ∃ u, c1 = [u] ∧ tBackend.slice.has p W [u] x.l := by
      have l := (tBackend.slice).len a1
      match c1, l with
      | [u], _ => exact ⟨u, rfl, a1⟩
    subst h
    exact ⟨u1, by rw [e0, e1, a0, a1]; rfl, b1⟩
  · rintro ⟨v0, rfl, h0⟩
    exact Ty.iso_has.2 ⟨_, _, rfl, rfl, ⟨_, _, rfl, h0, rfl⟩⟩
theorem opens_Snapshot : tSnapshot.Opens Try.prog 24 okSnapshot :=
  (Ty.opens_struct _ (fun y => ⟨y.1, y.2.1⟩) (fun _ => rfl) Try.underlying24 (by kernel_rfl) (Ty.opens_cat rfl ty_int (Ty.opens_cat rfl opens_Backends (Ty.opens_end _)))).imp fun x h => ⟨h.1, h.2.1⟩
theorem opens_Snapshots : tSnapshot.slice.Opens Try.prog 32 (fun l => ∀ x, x ∈ l → okSnapshot x) := Ty.opens_slice opens_Snapshot Try.underlying32 (by decide) (by kernel_rfl)


theorem bs_of {p : Nat → Prop} {W : World} {v : Value} {l : List Rp.Pt} (h : tBackend.slice.has p W [v] l) : BS W v l := by
  rw [Ty.slice_has] at h
  obtain ⟨a, cap, hv, h1, h2, h3, h4⟩ := h
  simp only [List.cons.injEq, and_true] at hv
  refine ⟨a, cap, hv, h1, h2, h3, fun g off ar ha h0 => ?_⟩
  obtain ⟨g', off', e, _, hg, hc⟩ := h4 h0
  rw [ha] at e
  cases e
  refine ⟨rfl, hg, fun i hi => ?_⟩
  obtain ⟨cs, hcs, hu⟩ := hc i l[i] (List.getElem?_eq_getElem hi)
  rw [Backend_has] at hcs
  subst hcs
  have q0 := hu 0 _ rfl
  have q1 := hu 1 _ rfl
  rw [Rv.g_at hi]
  exact ⟨q0, q1⟩
theorem ss_of {p : Nat → Prop} {W : World} {v : Value} {L : List Rv.S} (h : tSnapshot.slice.has p W [v] L) : SS W v L := by
  rw [Ty.slice_has] at h
  obtain ⟨a, cap, hv, h1, h2, h3, h4⟩ := h
  simp only [List.cons.injEq, and_true] at hv
  refine ⟨a, cap, hv, h1, h2, h3, fun g off ar ha h0 => ?_⟩
  obtain ⟨g', off', e, _, hg, hc⟩ := h4 h0
  rw [ha] at e
  cases e
  refine ⟨rfl, hg, fun i hi => ?_⟩
  obtain ⟨cs, hcs, hu⟩ := hc i L[i] (List.getElem?_eq_getElem hi)
  rw [Snapshot_has] at hcs
  obtain ⟨r, rfl, hr⟩ := hcs
  have q0 := hu 0 _ rfl
  have q1 := hu 1 _ rfl
  rw [Rv.sg_at hi]
  exact ⟨r, q0, q1, bs_of hr⟩
theorem open_snaps {H : Type} {enc : TypeId × Value → H} {W : World} {base : Nat} {v : Value} {d : DataW H} {p : List MemPlace} (hval : Value.okWide Try.prog W .any base 32 v) (h : DataW.Trod enc Try.prog W 0 (fun _ => true) true 32 v d p) :
    ∃ L : List Rv.S, SS W v L ∧ (∀ x, x ∈ L → okSnapshot x) ∧ (d = .nil ∧ L = [] ∨ ∃ elems spare, d = .slice elems spare ∧ L.length = elems.length) := by
  obtain ⟨l, h1, h2, h3⟩ := Ty.opened_slice opens_Snapshot (by decide) Try.underlying32 hval h
  exact ⟨l, ss_of h1, h2, h3⟩
theorem fields_snap : ∃ f0 f1 : Field, Try.prog.underlying 24 = some (.struct #[f0, f1]) ∧ (f0.offset = 0 ∧ f1.offset = 1) ∧ (f0.type = 3 ∧ f1.type = 22) :=
  ⟨_, _, Try.underlying24, ⟨rfl, rfl⟩, ⟨rfl, rfl⟩⟩
theorem array2s {α : Type} {cs : Array α} (h : cs.size = 2) : ∃ c0 c1, cs = #[c0, c1] := by
  obtain ⟨l⟩ := cs
  match l, h with
  | [c0, c1], _ => exact ⟨c0, c1, rfl⟩
theorem list2s {α : Type} {cs : List α} (h : cs.length = 2) : ∃ c0 c1, cs = [c0, c1] := by
  match cs, h with
  | [c0, c1], _ => exact ⟨c0, c1, rfl⟩
set_option maxHeartbeats 1000000 in
theorem open_snap {H : Type} {enc : TypeId × Value → H} {W : World} {base : Nat} {v : Value} {d : DataW H} {p : List MemPlace} (hval : Value.okWide Try.prog W .any base 24 v)
    (h : DataW.Trod enc Try.prog W 0 (fun _ => true) true 24 v d p) : ∃ (r : Value) (x : Rv.S), v = vS r x.v ∧ BS W r x.l ∧ okSnapshot x ∧ (∃ parts, d = .agg parts ∧ (x.l = [] ∨ ∃ elems spare, parts[1]? = some (.slice elems spare) ∧ x.l.length = elems.length)) := by
  obtain ⟨f0, f1, he, ⟨o0, o1⟩, ⟨y0, y1⟩⟩ := fields_snap
  have ce : Try.prog.cellsOf 24 = 2 := by kernel_rfl
  have c3 : Try.prog.cellsOf 3 = 1 := by kernel_rfl
  have c4 : Try.prog.cellsOf 22 = 1 := by kernel_rfl
  obtain ⟨cs, rfl, hsz⟩ := okWide_struct he hval
  obtain ⟨z0, z1, rfl⟩ := array2s (hsz.trans ce)
  obtain ⟨fuel, hf⟩ := h
  obtain ⟨xs, k, hk, hxy, _, hxl, hg⟩ := DataW.trod_struct he hf
  obtain ⟨q0, q1, rfl⟩ := list2s hxl
  have g0 := hg 0 f0 rfl
  have g1 := hg 1 f1 rfl
  clear hg
  simp only [o0, o1, y0, y1, c3, c4, Value.cells, List.drop_zero, List.drop_succ_cons, List.take_succ_cons, List.take_zero, List.getElem?_cons_zero, List.getElem?_cons_succ] at g0 g1
  obtain ⟨n1, e1, w1⟩ := ty_int.2 H enc W _ _ _ g0
  rw [Ty.int_has] at e1
  obtain ⟨l, hl, hw, hx⟩ := Ty.opens_slice_any opens_Backend Try.underlying22 (by decide) g1
  simp only [List.cons.injEq, and_true] at e1
  subst e1
  refine ⟨z1, ⟨n1, l⟩, rfl, bs_of hl, ⟨w1, hw⟩, ?_⟩
  · simp only [Prod.mk.injEq] at hxy
    refine ⟨_, hxy.1, ?_⟩
    rcases hx with ⟨_, hx⟩ | ⟨el, sp, hx, hle⟩
    · exact .inl hx
    · refine .inr ⟨el, sp, ?_, hle⟩
      simp only [List.map_cons, List.map_nil, List.getElem?_cons_zero, List.getElem?_cons_succ]
      rw [← hx]
theorem Try.bytesB : Try.prog.bytesOf 60 = 16 := by kernel_rfl
theorem sized_snap {H : Type} {ts : List TypeId} {ds : List (DataW H)} (h : (DataW.weightsEach Try.prog ts ds).all (· ≤ reachBytes) = true) {j : Nat} {parts elems spare : List (DataW H)} (ht : ts[j]? = some 24) (hd : ds[j]? = some (.agg parts)) (hp : parts[1]? = some (.slice elems spare)) : elems.length ≤ 8796093022208 := by
  have := List.all_eq_true.1 h _ (DataW.weights_mem_each ht hd ((elems.length + spare.length) * Try.prog.bytesOf 60) (by
    simp only [DataW.weights, Try.underlying24]
    exact DataW.weights_mem_each (j := 1) rfl hp _ (by simp [DataW.weights, Try.underlying22])))
  rw [Try.bytesB] at this
  simp at this
  unfold reachBytes at this
  omega
theorem snap_bulk {H : Type} {parts : List (DataW H)} {l : List Rp.Pt} (h : l = [] ∨ ∃ elems spare, parts[1]? = some (.slice elems spare) ∧ l.length = elems.length) : l.length ≤ Rows.uptoBulk (.agg parts) := by
  rcases h with h | ⟨elems, spare, h1, h2⟩
  · rw [h]; simp
  · have h3 := bulk_len elems
    match parts, h1 with
    | x :: y :: r, h1 =>
      simp only [List.getElem?_cons_succ, List.getElem?_cons_zero, Option.some.injEq] at h1
      subst h1
      simp only [Rows.uptoBulk, Rows.uptoBulkAll]
      omega
end Go.Proofs.Ytcjopphefmogiaa
