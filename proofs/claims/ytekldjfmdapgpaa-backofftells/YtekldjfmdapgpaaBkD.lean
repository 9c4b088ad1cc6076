/- backoff: the last pause of some, and how long it is. -/
import Derived.Test.YtekldjfmdapgpaaBkC
namespace Go.Proofs.Ytekldjfmdapgpaa
open Go.RowKit Go.Shelf
attribute [local go_sem] Oper.semAt_some
set_option linter.unusedVariables false
set_option maxRecDepth 20000

theorem ret_pause {fn : Func} {k : Nat} (h : fn.results = #[.cell k 53]) {W : World} {tmps : Array Value} {b : Nat} {x0 x1 x2 x3 : Value} (ht : tmps.getD k undef = .pointer (some ⟨b, 0, none⟩))
    (hB : Bo W b [x0, x1, x2, x3] 53) : (results fn tmps).run Try.prog W = .ok (.agg #[x0, x1, x2, x3]) W := by
  have h0 := hB.cell 0 rfl
  have h1 := hB.cell 1 rfl
  have h2 := hB.cell 2 rfl
  have h3 := hB.cell 3 rfl
  rw [Array.getD_eq_getD_getElem?] at ht
  simp [results, h]
  go_simp
/-- A pause, stored. -/
abbrev put4 (w : World) (b : Nat) (s : Bf.Se) (v : Int) : World := (((w.setCell ⟨b, 0, none⟩ (.int .i64 s.b)).setCell ⟨b, 1, none⟩ (.int .i64 s.p)).setCell ⟨b, 2, none⟩ (.int .i64 s.j)).setCell ⟨b, 3, none⟩ (.int .i64 v)
theorem put4_bo {w : World} {b : Nat} {x0 x1 x2 x3 : Value} {T : TypeId} (s : Bf.Se) (v : Int) (h : Bo w b [x0, x1, x2, x3] T) : Bo (put4 w b s v) b (pL s v) T := (((h.set 0 _).set 1 _).set 2 _).set 3 _
theorem put4_cg (w : World) (b : Nat) (s : Bf.Se) (v : Int) : Cg b w (put4 w b s v) := (((Cg.set w 0 _).trans (Cg.set _ 1 _)).trans (Cg.set _ 2 _)).trans (Cg.set _ 3 _)
theorem put4_from (B : Nat) (w : World) (b : Nat) (s : Bf.Se) (v : Int) : KeepsFrom B w (put4 w b s v) :=
  ((((KeepsOthers.setCell w ⟨b, 0, none⟩ _).trans (KeepsOthers.setCell _ ⟨b, 1, none⟩ _)).trans (KeepsOthers.setCell _ ⟨b, 2, none⟩ _)).trans (KeepsOthers.setCell _ ⟨b, 3, none⟩ _)).from B

theorem five_boxes (w : World) (a b c d e : List Value) (A B C D E : TypeId) : ∃ V, V = ((((w.alloc (.cells a.toArray A)).alloc (.cells b.toArray B)).alloc (.cells c.toArray C)).alloc (.cells d.toArray D)).alloc (.cells e.toArray E) ∧
    Below w.heap.size w V ∧ V.heap.size = w.heap.size + 5 ∧ Bo V w.heap.size a A ∧ Bo V (w.heap.size + 1) b B ∧ Bo V (w.heap.size + 1 + 1) c C ∧ Bo V (w.heap.size + 1 + 1 + 1) d D ∧ Bo V (w.heap.size + 1 + 1 + 1 + 1) e E := by
  obtain ⟨W, rfl, h1, h2, h3, h4, h5⟩ := three_boxes w a b c A B C
  obtain ⟨V, rfl, k1, k2, k3, k4⟩ := two_boxes ((((w.alloc (.cells a.toArray A)).alloc (.cells b.toArray B)).alloc (.cells c.toArray C))) d e D E
  rw [h5] at k1 k2 k4
  have hb := k3
  refine ⟨_, rfl, h4.trans (k3.mono h4.size), by omega, h1.below k3, h2.below k3, h3.below k3, k1, k2⟩

/-- The box of the last one. -/
def lastL (s : Bf.Se) : Nat → List Value
  | 0 => [.int .i64 0, .int .i64 0, .int .i64 0, .int .i64 0]
  | k + 1 => pL s (Bf.d s k)
theorem lastL_four (s : Bf.Se) (k : Nat) : ∃ x0 x1 x2 x3, lastL s k = [x0, x1, x2, x3] := by
  cases k <;> exact ⟨_, _, _, _, rfl⟩
/-- What lies between two rounds: the result's box, that of the last one, what lay ahead. -/
def NthI (N : Nat) (w : World) (s : Bf.Se) (k : Nat) (W : World) : Prop := Below N w W ∧ Bo W (N + 1) [.int .i64 0, .int .i64 0, .int .i64 0, .int .i64 0] 53 ∧ Bo W (N + 1 + 1) (lastL s k) 53
theorem NthI.up {N B : Nat} {w : World} {s : Bf.Se} (h1 : N + 3 ≤ B) (hw : N ≤ w.heap.size) : Up B (NthI N w s) := by
  intro k W W' row hs hg hr
  refine ⟨hs.1.grown hg (Nat.le_trans hw hs.1.size) (fun r e => by have := hr r e; omega), ?_, ?_⟩
  · exact (hg.block _ hs.2.1.lt (fun e => by have := hr _ e.symm; omega)).trans hs.2.1
  · exact (hg.block _ hs.2.2.lt (fun e => by have := hr _ e.symm; omega)).trans hs.2.2

/-- How a round finds the world: a box more, the loop's mark turned. -/
theorem round_open {w W X : World} {N l : Nat} {r o : Loop} {cs : List Value} {T : TypeId} (hr : W.heap[l]? = some (.loop r)) (hb : Below N w W) (hN : N ≤ l) (hX : X = (W.alloc (.cells cs.toArray T)).putObj l (.loop o)) :
    Below N w X ∧ Bo X W.heap.size cs T ∧ (∀ b ds S, Bo W b ds S → Bo X b ds S) ∧ X.heap.size = W.heap.size + 1 := by
  subst hX
  have hl : l < W.heap.size := (Array.getElem?_eq_some_iff.1 hr).1
  have hr2 : (W.alloc (.cells cs.toArray T)).heap[l]? = some (.loop r) := (Below.heap_alloc W _ l hl).trans hr
  have hg : (W.alloc (.cells cs.toArray T)).grownBy ((W.alloc (.cells cs.toArray T)).putObj l (.loop o)) (some l) := grownBy_putObj' _ l _
  refine ⟨?_, Bo.put hr2 rfl (Bo.new W cs T), fun b ds S h => Bo.put hr2 rfl (h.alloc _), by simp⟩
  have h2 : Below N w (W.alloc (.cells cs.toArray T)) := hb.grown (World.grownBy_alloc W _ none) (by omega) (fun k e => by cases e)
  exact h2.grown hg (by simp; omega) (fun k e => by cases e; exact hN)

set_option maxHeartbeats 4000000 in
theorem nth_any (s : Bf.Se) (hs : Bf.sets s = true) (n : Nat) (h1 : 1 ≤ n) (h2 : n ≤ 64) (w : World) : Calls Try.prog 23 #[vS s, .int .i64 (n : Int)] w fun e w' => e = .returned (vP s (Bf.d s (n - 1))) ∧ Below w.heap.size w w' := by
  have cP := pauses_any s n
  have D1 : 1 ≤ 10 := by decide
  have F1 : Fence.wide.fn 26 := trivial
  obtain ⟨V, hV, HB, HS, X0, X1, X2, X3, X4⟩ := five_boxes w (sL s) [.int .i64 0, .int .i64 0, .int .i64 0, .int .i64 0] [.int .i64 0, .int .i64 0, .int .i64 0, .int .i64 0] (sL s) [.int .i64 (n : Int)] 23 53 53 23 3
  obtain ⟨N, hN⟩ : ∃ N, N = w.heap.size := ⟨_, rfl⟩
  rw [← hN] at HB HS X0 X1 X2 X3 X4 ⊢
  have HV := hidD hV
  have HN := hidD hN
  have hI0 : Hid (NthI N w s 0 V) := hidD ⟨HB, X1, X2⟩
  have HSV := hidD HS
  have Y3 := hidD X3
  have Y4 := hidD X4
  have HNW : Hid (N ≤ w.heap.size) := hidD (by omega)
  clear X0 X1 X2 X3 X4 HS HB hV hN
  refine (callsIn_wide (n := 10)).1 ?_
  refine callsIn_of_wp_marks Try.func23 rfl trivial ?_ rfl
  simp only [Try.ntmps23, List.size_toArray, List.length_cons, List.length_nil, Nat.reduceAdd, Nat.reduceSub, Array.replicate_succ, Array.replicate_zero, List.push_toArray, List.append_toArray, List.nil_append, List.cons_append]
  gi_wp2_with (gi_at_call 26; refine (callsIn_wide.2 (cP _)).mono ?_; rintro e w1 ⟨rfl, rfl⟩)
  have hV2 := HV.out
  simp only [sL] at hV2
  rw [← HN.out]
  simp only [sL]
  rw [← hV2]
  clear hV2 HV cP
  refine range_pauses s hs n (N + 1 + 1 + 1) (N + 1 + 1 + 1 + 1) (N + 1 + 1) D1 h2 rfl Y3.out Y4.out (by have := HSV.out; omega) (NthI N w s) (NthI.up (by have := HSV.out; omega) HNW.out) hI0.out ?round ?done
  case round =>
    rintro l k W hk ⟨i1, i2, i3⟩ hl ⟨r, hr⟩
    obtain ⟨x0, x1, x2, x3, hx⟩ := lastL_four s k
    rw [hx] at i3
    have HSl : V.heap.size ≤ l := hl
    have l3 := i3.lt
    have hlw : l < W.heap.size := (Array.getElem?_eq_some_iff.1 hr).1
    gi_wp2
    refine ⟨(KeepsOthers.alloc _ _).from _, Kb.grown (World.grownBy_alloc _ _ none), ?_⟩
    rintro o X hX
    obtain ⟨e1, e2, e3, e4⟩ := round_open (cs := pL s (Bf.d s k)) hr i1 (by have := HSV.out; omega) hX
    have g2 := e3 _ _ _ i2
    have g3 := e3 _ _ _ i3
    have GS := hidD (put4_bo s (Bf.d s k) g3)
    have GO := hidD ((put4_cg X (N + 1 + 1) s (Bf.d s k)).bo (by omega) g2)
    have GB := hidD ((put4_cg X (N + 1 + 1) s (Bf.d s k)).below (B := N) (by omega) (by omega) e1)
    have p0 := e2.cell 0 rfl
    have p1 := e2.cell 1 rfl
    have p2 := e2.cell 2 rfl
    have p3 := e2.cell 3 rfl
    have q0 := g3.cell 0 rfl
    have q1 := g3.cell 1 rfl
    have q2 := g3.cell 2 rfl
    have q3 := g3.cell 3 rfl
    have f0 := g3.frozen 0
    have f1 := g3.frozen 1
    have f2 := g3.frozen 2
    have f3 := g3.frozen 3
    have HW := hidD hX
    clear hX e1 e2 e3 g2 g3 i1 i2 i3
    gi_wp2
    exact ⟨put4_from _ _ _ _ _, Kb.cg (put4_cg _ _ _ _), GB.out, GO.out, GS.out⟩
  case done =>
    rintro D W hD ⟨i1, i2, i3⟩ hK
    obtain ⟨m, rfl⟩ : ∃ m, n = m + 1 := ⟨n - 1, by omega⟩
    have GS := hidD (put4_bo s (Bf.d s m) i2)
    have GB := hidD ((put4_cg W (N + 1) s (Bf.d s m)).below (B := N) (by omega) (by have := i2.lt; omega) i1)
    have GK := hidD ((put4_from 0 W (N + 1) s (Bf.d s m)).same D _ (Nat.zero_le _) hK rfl)
    have p0 := i3.cell 0 rfl
    have p1 := i3.cell 1 rfl
    have p2 := i3.cell 2 rfl
    have p3 := i3.cell 3 rfl
    have q0 := i2.cell 0 rfl
    have q1 := i2.cell 1 rfl
    have q2 := i2.cell 2 rfl
    have q3 := i2.cell 3 rfl
    have f0 := i2.frozen 0
    have f1 := i2.frozen 1
    have f2 := i2.frozen 2
    have f3 := i2.frozen 3
    have HND : Hid (N ≤ D) := hidD (by have := HSV.out; omega)
    clear i1 i2 i3 hK hD
    gi_wp2
    refine ⟨by simp, .inl ⟨_, _, rfl, run_takeDeferred GK.out, ?_⟩⟩
    refine ⟨_, ret_pause rfl rfl (Bo.put GK.out rfl GS.out), rfl, ?_⟩
    exact GB.out.grown (grownBy_putObj' _ D _) (by have := GB.out.size; have := HNW.out; omega) (fun k e => by cases e; exact HND.out)
end Go.Proofs.Ytekldjfmdapgpaa
