/- timers: slices.Values, Collect (the code's). -/
import Derived.Test.YtkamcjebihfdlaaTmQ
import Derived.RangeFuncNested
import Derived.RangeFuncBound
import Derived.RangeFuncCalls
import Derived.RangeFuncLeaves
import Derived.Shelf.RegionOpen
import Derived.OwnWalkIn
import Derived.TacticsInMore
import Derived.LoopNIn
import Derived.LoopIn
import Derived.Maps.OwnIn
namespace Go.Proofs.Ytkamcjebihfdlaa
open Go.RowKit Go.Shelf
attribute [local go_sem] Oper.semAt_some
set_option linter.unusedVariables false
set_option maxRecDepth 20000

/-- It stands whatever is laid. -/
def UpN (J : Nat → World → Prop) : Prop := ∀ k W W', J k W → W.grownBy W' none → J k W'
/-- Of the cells below S only one box may have turned. -/
structure Kd (S Br : Nat) (W W' : World) : Prop where
  size : W.heap.size ≤ W'.heap.size
  cells : ∀ b c t f, b < S → b ≠ Br → W.heap[b]? = some (.cells c t f) → W'.heap[b]? = some (.cells c t f)
theorem Kd.refl (S Br : Nat) (W : World) : Kd S Br W W := ⟨Nat.le_refl _, fun _ _ _ _ _ _ h => h⟩
theorem Kd.trans {S Br : Nat} {A B C : World} (h : Kd S Br A B) (k : Kd S Br B C) : Kd S Br A C := ⟨Nat.le_trans h.size k.size, fun b c t f hs hb hx => k.cells b c t f hs hb (h.cells b c t f hs hb hx)⟩
theorem Kd.grown {S Br : Nat} {W W' : World} {row : Option Nat} (hg : W.grownBy W' row) (hr : ∀ r, row = some r → S ≤ r ∨ r = Br) : Kd S Br W W' := ⟨hg.size, fun b c t f hs hb h => by
  rw [hg.block b (Array.getElem?_eq_some_iff.1 h).1 (fun e => by
    rcases hr b e.symm with k | k
    · omega
    · exact hb k)]
  exact h⟩
theorem Kd.set (S Br : Nat) (W : World) (k : Nat) (u : Value) : Kd S Br W (W.setCell ⟨Br, k, none⟩ u) := ⟨(Cg.set (b := Br) W k u).size, fun b c t f _ hb h => ((Cg.set (b := Br) W k u).block b (Array.getElem?_eq_some_iff.1 h).1 hb).trans h⟩
theorem Kd.put {S Br : Nat} {W : World} {l : Nat} {o o' : Obj} (h : W.heap[l]? = some o) (ho : o.isCells = false) : Kd S Br W (W.putObj l o') := by
  refine ⟨by simp, fun b c t f _ _ hx => ?_⟩
  by_cases e : b = l
  · subst e
    rw [hx] at h
    cases h
    cases ho
  · rw [World.putObj_heap_other e]
    exact hx
theorem Kd.cell {S Br : Nat} {W W' : World} (h : Kd S Br W W') {g o : Nat} {u : Value} (h1 : g < S) (h2 : g ≠ Br) (hc : W.cell? ⟨g, o, none⟩ = some u) : W'.cell? ⟨g, o, none⟩ = some u := by
  unfold World.cell? at hc ⊢
  cases e : W.heap[g]? with
  | none => simp [e] at hc
  | some ob =>
    cases ob with
    | cells c t f =>
      have := h.cells g c t f h1 h2 e
      simp only [this]
      simpa [e] using hc
    | _ => simp [e] at hc
theorem Bo.put {W : World} {l b : Nat} {o o' : Obj} {cs : List Value} {T : TypeId} (h : W.heap[l]? = some o) (ho : o.isCells = false) (hx : Bo W b cs T) : Bo (W.putObj l o') b cs T := by
  unfold Bo at *
  by_cases e : b = l
  · subst e
    rw [hx] at h
    cases h
    cases ho
  · rw [World.putObj_heap_other e]
    exact hx
theorem TS.kd {S Br : Nat} {w0 W : World} {v : Value} {l : List Ti.T} (h : TS w0 v l) (hk : Kd S Br w0 W) (h1 : w0.heap.size ≤ S) (h2 : w0.heap.size ≤ Br) : TS W v l := by
  obtain ⟨a, cap, e1, e2, e3, e4, e5⟩ := h
  refine ⟨a, cap, e1, e2, e3, e4, fun g off ar ha h0 => ?_⟩
  obtain ⟨k1, k2, k3⟩ := e5 g off ar ha h0
  refine ⟨k1, Nat.lt_of_lt_of_le k2 hk.size, fun i hi => ?_⟩
  obtain ⟨q1, q2⟩ := k3 i hi
  exact ⟨hk.cell (by omega) (by omega) q1, hk.cell (by omega) (by omega) q2⟩
theorem OT.putObj {W : World} {B l : Nat} {v : Value} {x : List Ti.T} {o o' : Obj} (h : OT W B v x) (hl : W.heap[l]? = some o) (ho : o.isCells = false) : OT (W.putObj l o') B v x := by
  refine h.kept (grownBy_putObj' W l o') ?_
  rcases h.2 with ⟨rfl, _⟩ | ⟨g, cap, cur, rfl, _, hgb, _⟩
  · exact .inl rfl
  · refine .inr fun e => ?_
    have : g = l := by simpa [Value.ownBlock] using e
    subst this
    rw [hl] at hgb
    cases hgb
    cases ho

/-- How a round ends: it goes on. -/
def roundEnds (B S Br : Nat) (I : Nat → World → Prop) (k : Nat) (W : World) : Exit → Act → World → Prop
  | .normal, _, W' => KeepsFrom B W W' ∧ Kd S Br W W' ∧ I k W'
  | _, _, _ => False

/-- Rounds that all go on, over an iterator that may write what it has laid itself. -/
theorem range_own2 {F : Fence} {n : Nat} {P : Program} {g : Operand} {ps : Array Tmp} {assign body : Code} {Q : Exit → Act → World → Prop} {a : Act} {w : World}
    (hro : F.round = none) (h1 : 1 ≤ n) {gf : Nat} {lb : Array Value} (hg : a.eval g = .func (.func gf) #[] lb) (hFg : F.fn gf) (eg : ∀ args w, (callFunc gf args).run P w = .ok (.enter gf args) w)
    (encs : Nat → Array Value) (N S Br : Nat) (hps : ∀ k, (encs k).size = ps.size)
    (hit : ∀ (l : Nat) (J : Nat → World → Prop) (W : World), Below w.heap.size w W → UpN J →
      (∀ k W1, k < N → J k W1 → YieldAt F (n - 1 - 1) P l (encs k) W1 fun e W' => e = .returned (.bool true) ∧ J (k + 1) W' ∧ Kd S Br W1 W') → J 0 W →
      CallsIn F (n - 1) P gf (#[.func (.yield l) #[] #[]] ++ lb) W fun e W' => (∃ v, e = .returned v) ∧ J N W')
    (I : Nat → World → Prop) (hI : UpN I) (hI2 : ∀ k W l o o', I k W → w.heap.size ≤ l → W.heap[l]? = some o → o.isCells = false → I k (W.putObj l o')) (h0 : I 0 w)
    (hround : ∀ (l k : Nat) (W : World), k < N → I k W → w.heap.size ≤ l → (∃ r, W.heap[l]? = some (.loop r)) →
      assign.wpIn (F.inRound l) (n - 1 - 1) P (Exit.then (fun a1 W1 => KeepsFrom w.heap.size W W1 ∧ Kd S Br W W1 ∧
        ∀ (o : Loop) (X : World), X = W1.putObj l (.loop o) → body.wpIn (F.inRound l) (n - 1 - 1) P (roundEnds w.heap.size S Br I (k + 1) X) a1 X) (fun _ _ _ => False))
        { tmps := (ps.zip (encs k)).foldl (fun t (p, v) => t.setIfInBounds p v) a.tmps, defers := [] } W)
    (hdone : ∀ (D : Nat) (W : World), w.heap.size ≤ D → I N W → W.heap[D]? = some (.deferred (some [])) → Q .normal { a with defers := { target := .collected D, args := #[] } :: a.defers } W) :
    (Code.rangeFunc g ps assign body).wpIn F n P Q a w := by
  refine wpIn_rangeFunc fun fn hfn => ?_
  rw [hro]
  obtain ⟨L, hL⟩ : ∃ L : LoopState → Loop, ∀ st, L st = { state := st, pending := none, fn, tmps := a.tmps, params := ps, assign, body, defers := w.heap.size } := ⟨_, fun _ => rfl⟩
  obtain ⟨V, hV⟩ : ∃ V, V = (w.alloc (.deferred (some []))).alloc (.loop (L .ready)) := ⟨_, rfl⟩
  obtain ⟨l, hl⟩ : ∃ l, l = w.heap.size + 1 := ⟨_, rfl⟩
  have hVs : V.heap.size = w.heap.size + 2 := by rw [hV]; simp
  have hVl : V.heap[l]? = some (.loop (L .ready)) := by
    have := World.alloc_heap_new (w.alloc (.deferred (some []))) (.loop (L .ready))
    rw [World.size_alloc, ← hV, ← hl] at this
    exact this
  have hVd : V.heap[w.heap.size]? = some (.deferred (some [])) := by
    rw [hV]
    exact (Below.heap_alloc _ _ _ (by simp)).trans (World.alloc_heap_new w _)
  have hVb : Below w.heap.size w V := by
    rw [hV]
    exact ((Below.refl _ w).alloc (Nat.le_refl _) _).alloc (by simp) _
  have hVI : I 0 V := by
    rw [hV]
    exact hI _ _ _ (hI _ _ _ h0 (World.grownBy_alloc w _ none)) (World.grownBy_alloc _ _ none)
  refine ⟨l, [{ target := .collected w.heap.size, args := #[] }], V, { target := .fn (.func gf) lb, args := #[.func (.yield l) #[] #[]] }, V, gf, #[.func (.yield l) #[] #[]] ++ lb, V, ?_, ?_, ?_, ?_, fun _ => h1, ?_⟩
  · rw [hV, hL, hl]
    exact run_enterLoop_outer _ _ _ _ _
  · simp only [resolve, hg]
    simp [go_sem]
  · intro f' hf'
    simp [Target.leads] at hf'
    subst hf'
    exact hFg
  · simp [invoke, go_sem, eg]
  · refine (hit l (fun k W => I k W ∧ W.heap[l]? = some (.loop (L .ready)) ∧ W.heap[w.heap.size]? = some (.deferred (some []))) V hVb ?_ ?_ ⟨hVI, hVl, hVd⟩).mono ?_
    · intro k A B hs hgr
      exact ⟨hI k A B hs.1 hgr, (hgr.block l (Array.getElem?_eq_some_iff.1 hs.2.1).1 (by simp)).trans hs.2.1, (hgr.block _ (Array.getElem?_eq_some_iff.1 hs.2.2).1 (by simp)).trans hs.2.2⟩
    · rintro k W hk ⟨hi, hwl, hwd⟩
      have hy := run_yield (P := P) (args := encs k) hwl (by rw [hL]; exact hps k)
      rw [hL] at hy
      refine ⟨fn, _, assign, body, hy, roundIn_of_wpIn hfn (wpIn_mono (hround l k W hk hi (by omega) ⟨_, hwl⟩) ?_)⟩
      rintro e a1 W1 hp
      cases e with
      | normal =>
        obtain ⟨hk1, hb1, hbody⟩ := hp
        have hl1 := hk1.same l _ (by omega) hwl rfl
        have hd1 := hk1.same _ _ (Nat.le_refl _) hwd rfl
        refine ⟨_, run_beginRound hl1 (by rw [hL]), wpIn_mono (hbody _ _ rfl) ?_⟩
        have hl2 : (W1.putObj l (.loop { L .ready with state := .busy })).heap[l]? = some (.loop { L .ready with state := .busy }) := World.putObj_heap_same (Array.getElem?_eq_some_iff.1 hl1).1
        have hd2 : (W1.putObj l (.loop { L .ready with state := .busy })).heap[w.heap.size]? = some (.deferred (some [])) := (World.putObj_heap_other (by omega)).trans hd1
        rintro e2 a2 W2 hp2
        cases e2 with
        | normal =>
          obtain ⟨hk2, hb2, hi2⟩ := hp2
          have hl3 := hk2.same l _ (by omega) hl2 rfl
          have hd3 := hk2.same _ _ (Nat.le_refl _) hd2 rfl
          refine ⟨_, _, run_endRound none hl3, rfl, ⟨hI2 _ _ _ _ _ hi2 (by omega) hl3 rfl, ?_, (World.putObj_heap_other (by omega)).trans hd3⟩, ((hb1.trans (Kd.put hl1 rfl)).trans hb2).trans (Kd.put hl3 rfl)⟩
          rw [World.putObj_heap_same (Array.getElem?_eq_some_iff.1 hl3).1, hL]
          rfl
        | _ => exact False.elim hp2
      | _ => exact False.elim hp
    · rintro e W2 ⟨⟨v, rfl⟩, hi, hwl, hwd⟩
      exact ⟨none, _, by have := run_endLoop (P := P) hwl (by rw [hL]; simp); rw [hL] at this; exact this, hdone _ _ (Nat.le_refl _) (hI2 _ _ _ _ _ hi (by omega) hwl rfl) ((World.putObj_heap_other (by omega)).trans hwd)⟩

set_option maxHeartbeats 4000000 in
theorem val1_v (n L S Br bV : Nat) (v : Value) (l : List Ti.T) (w0 : World) (hs : TS w0 v l) (h0S : w0.heap.size ≤ S) (h0B : w0.heap.size ≤ Br) (hbV : Bo w0 bV [v] 22) (J : Nat → World → Prop) (W : World) (hW0 : Kd S Br w0 W) (hJ : UpN J)
    (hY : ∀ k W1, k < l.length → J k W1 → YieldAt Fence.wide (n - 1) Try.prog L #[vT (Ti.g l k)] W1 fun e W' => e = .returned (.bool true) ∧ J (k + 1) W' ∧ Kd S Br W1 W') (h0 : J 0 W) :
    CallsIn Fence.wide n Try.prog 47 #[.func (.yield L) #[] #[], .pointer (some ⟨bV, 0, none⟩)] W fun e W' => (∃ v, e = .returned v) ∧ J l.length W' := by
  have HS := hidD (fun (X : World) (h : Kd S Br w0 X) => hs.kd h h0S h0B)
  have q0 : W.cell? ⟨bV, 0, none⟩ = some v := hW0.cell (by have := hbV.lt; omega) (by have := hbV.lt; omega) (hbV.cell 0 rfl)
  have HJ := hidD hJ
  have HY := hidD hY
  have HW0 := hidD hW0
  have H0 := hidD h0
  obtain ⟨a, cap, rfl, h1, h2, _, _⟩ := id hs
  obtain ⟨N, hN⟩ : ∃ N, N = l.length := ⟨_, rfl⟩
  rw [← hN] at h1 HS HY q0 ⊢
  unfold maxLen at h2
  replace hN := hidD hN
  clear hs hbV hW0 hJ hY h0
  refine callsIn_of_wp Try.func47 rfl trivial ?_ rfl
  simp only [Try.ntmps47, List.size_toArray, List.length_cons, List.length_nil, Nat.reduceAdd, Nat.reduceSub, Array.replicate_succ, Array.replicate_zero, List.push_toArray, List.append_toArray, List.nil_append, List.cons_append]
  gi_wp2
  gi_loopw [7] (fun i wr => ∃ k : Nat, k ≤ N ∧ i = .int .i64 k ∧ Hid (J k wr ∧ Kd S Br w0 wr)) (fun i _ => N - (intOf i).toNat)
  case atStart => exact ⟨0, Nat.zero_le _, rfl, hidD ⟨H0.out, HW0.out⟩⟩
  case round =>
    clear H0 HW0 q0
    obtain ⟨k, hk, rfl, hI⟩ := hrel
    by_cases hlt : k < N
    · obtain ⟨j1, j2⟩ := hI.out
      obtain ⟨g, off, rfl, hg, hcell⟩ := TS.at (HS.out wr j2) k (by have := hN.out; omega)
      obtain ⟨t1, t2⟩ := hcell k (by have := hN.out; omega)
      have hi : (k : Int) < (N : Int) := by omega
      have hkw : IntKind.i64.wrap ((k : Int) + 1) = (k : Int) + 1 := by rw [IntKind.wrap_i64]; omega
      have HL := hidD hlt
      have hYk := HY.out k
      obtain ⟨x, hx⟩ : ∃ x, x = Ti.g l k := ⟨_, rfl⟩
      rw [← hx] at t1 t2 hYk
      replace hx := hidD hx
      obtain ⟨xa, xi⟩ := x
      dsimp only at t1 t2 hYk
      have hg0 := World.grownBy_alloc wr (.cells #[.int .i64 xa, .int .i64 xi] 31) none
      obtain ⟨fn, tmps, assign, body, hy, hR⟩ := hYk _ hlt (HJ.out k _ _ j1 hg0)
      have J2 := hidD (j2.trans (Kd.grown hg0 (fun r e => by cases e)))
      clear hI j1 j2 hcell hYk hg0
      gi_wp2
      refine ⟨fun h => (by cases h), ?_⟩
      refine RoundIn.mono hR ?_
      rintro e W3 ⟨rfl, j3, k3⟩
      have J3 := hidD (And.intro j3 (J2.out.trans k3))
      clear hR hy j3 k3 J2 t1 t2
      gi_wp2
      exact ⟨⟨k + 1, HL.out, by go_num, J3⟩, by have := HL.out; simp [intOf]; omega⟩
    · have hke : k = N := by omega
      subst hke
      obtain ⟨j1, j2⟩ := hI.out
      have J1 := hidD j1
      clear hI j1 j2 HY
      gi_wp2
      go_end0
      exact ⟨⟨_, rfl⟩, J1.out⟩
theorem values_t (a : Option Addr) (n c : Nat) (w : World) : Calls Try.prog 38 #[.slice a n c] w fun e w' =>
    e = .returned (.func (.func 47) #[] #[.pointer (some ⟨w.heap.size, 0, none⟩)]) ∧ w' = w.alloc (.cells #[.slice a n c] 22) := by
  go_enter Try.func38, Try.ntmps38
  go_wp2
  go_ret
  exact ⟨rfl, rfl⟩
end Go.Proofs.Ytkamcjebihfdlaa
