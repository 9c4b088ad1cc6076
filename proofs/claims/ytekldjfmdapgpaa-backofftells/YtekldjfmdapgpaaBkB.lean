/- backoff: a range over a function that keeps a box of its own; rounds that go on. -/
import Derived.Test.YtekldjfmdapgpaaBkA
import Derived.RangeFuncNested
import Derived.RangeFuncBound
import Derived.RangeFuncCalls
import Derived.RangeFuncLeaves
import Derived.Shelf.RegionOpen
import Derived.OwnWalkIn
import Derived.TacticsInMore
import Derived.LoopNIn
import Derived.LoopIn
namespace Go.Proofs.Ytekldjfmdapgpaa
open Go.RowKit Go.Shelf
attribute [local go_sem] Oper.semAt_some
set_option linter.unusedVariables false
set_option maxRecDepth 20000

/-- It stands whatever turns from block B on. -/
def Up (B : Nat) (J : Nat → World → Prop) : Prop := ∀ k W W' row, J k W → W.grownBy W' row → (∀ r, row = some r → B ≤ r) → J k W'
/-- Of cells only one box may have turned. -/
structure Kb (Br : Nat) (W W' : World) : Prop where
  size : W.heap.size ≤ W'.heap.size
  cells : ∀ b c t f, b ≠ Br → W.heap[b]? = some (.cells c t f) → W'.heap[b]? = some (.cells c t f)
theorem Kb.refl (Br : Nat) (W : World) : Kb Br W W := ⟨Nat.le_refl _, fun _ _ _ _ _ h => h⟩
theorem Kb.trans {Br : Nat} {A B C : World} (h : Kb Br A B) (k : Kb Br B C) : Kb Br A C := ⟨Nat.le_trans h.size k.size, fun b c t f hb hx => k.cells b c t f hb (h.cells b c t f hb hx)⟩
theorem Kb.grown {Br : Nat} {W W' : World} (hg : W.grownBy W' none) : Kb Br W W' := ⟨hg.size, fun b c t f _ h => by rw [hg.block b (Array.getElem?_eq_some_iff.1 h).1 (by simp)]; exact h⟩
theorem Kb.cg {Br : Nat} {W W' : World} (h : Cg Br W W') : Kb Br W W' := ⟨h.size, fun b c t f hb hx => (h.block b (Array.getElem?_eq_some_iff.1 hx).1 hb).trans hx⟩
theorem Kb.bo {Br b : Nat} {W W' : World} {cs : List Value} {T : TypeId} (h : Kb Br W W') (hb : b ≠ Br) (hx : Bo W b cs T) : Bo W' b cs T := h.cells _ _ _ _ hb hx
theorem Kb.put {Br : Nat} {W : World} {l : Nat} {o o' : Obj} (h : W.heap[l]? = some o) (ho : o.isCells = false) : Kb Br W (W.putObj l o') := by
  refine ⟨by simp, fun b c t f _ hx => ?_⟩
  by_cases e : b = l
  · subst e
    rw [hx] at h
    cases h
    cases ho
  · rw [World.putObj_heap_other e]
    exact hx
theorem Bo.put {W : World} {l b : Nat} {o o' : Obj} {cs : List Value} {T : TypeId} (h : W.heap[l]? = some o) (ho : o.isCells = false) (hx : Bo W b cs T) : Bo (W.putObj l o') b cs T :=
  (Kb.put (Br := b + 1) h ho).bo (by omega) hx

/-- How a round ends: it goes on. -/
def roundEnds (B Br : Nat) (I : Nat → World → Prop) (k : Nat) (W : World) : Exit → Act → World → Prop
  | .normal, _, W' => KeepsFrom B W W' ∧ Kb Br W W' ∧ I k W'
  | _, _, _ => False

/-- Rounds that all go on, over an iterator that may write what it has laid itself. -/
theorem range_own {F : Fence} {n : Nat} {P : Program} {g : Operand} {ps : Array Tmp} {assign body : Code} {Q : Exit → Act → World → Prop} {a : Act} {w : World}
    (hro : F.round = none) (h1 : 1 ≤ n) {gf : Nat} {lb : Array Value} (hg : a.eval g = .func (.func gf) #[] lb) (hFg : F.fn gf) (eg : ∀ args w, (callFunc gf args).run P w = .ok (.enter gf args) w)
    (encs : Nat → Array Value) (N Br : Nat) (hps : ∀ k, (encs k).size = ps.size)
    (hit : ∀ (l : Nat) (J : Nat → World → Prop) (W : World), Below w.heap.size w W → Up W.heap.size J →
      (∀ k W1, k < N → J k W1 → YieldAt F (n - 1 - 1) P l (encs k) W1 fun e W' => e = .returned (.bool true) ∧ J (k + 1) W' ∧ Kb Br W1 W') → J 0 W →
      CallsIn F (n - 1) P gf (#[.func (.yield l) #[] #[]] ++ lb) W fun e W' => (∃ v, e = .returned v) ∧ J N W')
    (I : Nat → World → Prop) (hI : Up w.heap.size I) (h0 : I 0 w)
    (hround : ∀ (l k : Nat) (W : World), k < N → I k W → w.heap.size ≤ l → (∃ r, W.heap[l]? = some (.loop r)) →
      assign.wpIn (F.inRound l) (n - 1 - 1) P (Exit.then (fun a1 W1 => KeepsFrom w.heap.size W W1 ∧ Kb Br W W1 ∧
        ∀ (o : Loop) (X : World), X = W1.putObj l (.loop o) → body.wpIn (F.inRound l) (n - 1 - 1) P (roundEnds w.heap.size Br I (k + 1) X) a1 X) (fun _ _ _ => False))
        { tmps := (ps.zip (encs k)).foldl (fun t (p, v) => t.setIfInBounds p v) a.tmps, defers := [] } W)
    (hdone : ∀ (D : Nat) (W : World), w.heap.size ≤ D → I N W → W.heap[D]? = some (.deferred (some [])) → Q .normal { a with defers := { target := .collected D, args := #[] } :: a.defers } W) :
    (Code.rangeFunc g ps assign body).wpIn F n P Q a w := by
  refine wpIn_rangeFunc fun fn hfn => ?_
  rw [hro]
  obtain ⟨L, hL⟩ : ∃ L : LoopState → Loop, ∀ st, L st = { state := st, pending := none, fn, tmps := a.tmps, params := ps, assign, body, defers := w.heap.size } := ⟨_, fun _ => rfl⟩
  obtain ⟨V, hV⟩ : ∃ V, V = (w.alloc (.deferred (some []))).alloc (.loop (L .ready)) := ⟨_, rfl⟩
  obtain ⟨l, hl⟩ : ∃ l, l = w.heap.size + 1 := ⟨_, rfl⟩
  have hVs : V.heap.size = w.heap.size + 2 := by rw [hV]; simp
  have hVl : V.heap[l]? = some (.loop (L .ready)) := by
    have := World.alloc_heap_new (w.alloc (.deferred (some []))) (.loop (L .ready))
    rw [World.size_alloc, ← hV, ← hl] at this
    exact this
  have hVd : V.heap[w.heap.size]? = some (.deferred (some [])) := by
    rw [hV]
    exact (Below.heap_alloc _ _ _ (by simp)).trans (World.alloc_heap_new w _)
  have hVb : Below w.heap.size w V := by
    rw [hV]
    exact ((Below.refl _ w).alloc (Nat.le_refl _) _).alloc (by simp) _
  have hVI : I 0 V := by
    rw [hV]
    exact hI _ _ _ none (hI _ _ _ none h0 (World.grownBy_alloc w _ none) (fun r e => by cases e)) (World.grownBy_alloc _ _ none) (fun r e => by cases e)
  refine ⟨l, [{ target := .collected w.heap.size, args := #[] }], V, { target := .fn (.func gf) lb, args := #[.func (.yield l) #[] #[]] }, V, gf, #[.func (.yield l) #[] #[]] ++ lb, V, ?_, ?_, ?_, ?_, fun _ => h1, ?_⟩
  · rw [hV, hL, hl]
    exact run_enterLoop_outer _ _ _ _ _
  · simp only [resolve, hg]
    simp [go_sem]
  · intro f' hf'
    simp [Target.leads] at hf'
    subst hf'
    exact hFg
  · simp [invoke, go_sem, eg]
  · refine (hit l (fun k W => I k W ∧ W.heap[l]? = some (.loop (L .ready)) ∧ W.heap[w.heap.size]? = some (.deferred (some []))) V hVb ?_ ?_ ⟨hVI, hVl, hVd⟩).mono ?_
    · intro k A B row hs hgr hr
      have hne : ∀ j, j < V.heap.size → some j ≠ row := fun j hj e => by
        have := hr j e.symm
        omega
      refine ⟨hI k A B row hs.1 hgr (fun r e => by have := hr r e; omega), ?_, ?_⟩
      · exact (hgr.block l (Array.getElem?_eq_some_iff.1 hs.2.1).1 (hne l (by omega))).trans hs.2.1
      · exact (hgr.block _ (Array.getElem?_eq_some_iff.1 hs.2.2).1 (hne _ (by omega))).trans hs.2.2
    · rintro k W hk ⟨hi, hwl, hwd⟩
      have hy := run_yield (P := P) (args := encs k) hwl (by rw [hL]; exact hps k)
      rw [hL] at hy
      refine ⟨fn, _, assign, body, hy, roundIn_of_wpIn hfn (wpIn_mono (hround l k W hk hi (by omega) ⟨_, hwl⟩) ?_)⟩
      rintro e a1 W1 hp
      cases e with
      | normal =>
        obtain ⟨hk1, hb1, hbody⟩ := hp
        have hl1 := hk1.same l _ (by omega) hwl rfl
        have hd1 := hk1.same _ _ (Nat.le_refl _) hwd rfl
        refine ⟨_, run_beginRound hl1 (by rw [hL]), wpIn_mono (hbody _ _ rfl) ?_⟩
        have hl2 : (W1.putObj l (.loop { L .ready with state := .busy })).heap[l]? = some (.loop { L .ready with state := .busy }) := World.putObj_heap_same (Array.getElem?_eq_some_iff.1 hl1).1
        have hd2 : (W1.putObj l (.loop { L .ready with state := .busy })).heap[w.heap.size]? = some (.deferred (some [])) := (World.putObj_heap_other (by omega)).trans hd1
        rintro e2 a2 W2 hp2
        cases e2 with
        | normal =>
          obtain ⟨hk2, hb2, hi2⟩ := hp2
          have hl3 := hk2.same l _ (by omega) hl2 rfl
          have hd3 := hk2.same _ _ (Nat.le_refl _) hd2 rfl
          refine ⟨_, _, run_endRound none hl3, rfl, ⟨hI _ _ _ (some l) hi2 (grownBy_putObj' W2 l _) (fun r e => by cases e; omega), ?_, (World.putObj_heap_other (by omega)).trans hd3⟩, ((hb1.trans (Kb.put hl1 rfl)).trans hb2).trans (Kb.put hl3 rfl)⟩
          rw [World.putObj_heap_same (Array.getElem?_eq_some_iff.1 hl3).1, hL]
          rfl
        | _ => exact False.elim hp2
      | _ => exact False.elim hp
    · rintro e W2 ⟨⟨v, rfl⟩, hi, hwl, hwd⟩
      exact ⟨none, _, by have := run_endLoop (P := P) hwl (by rw [hL]; simp); rw [hL] at this; exact this, hdone _ _ (Nat.le_refl _) (hI _ _ _ (some l) hi (grownBy_putObj' W2 l _) (fun r e => by cases e; omega)) ((World.putObj_heap_other (by omega)).trans hwd)⟩
end Go.Proofs.Ytekldjfmdapgpaa
