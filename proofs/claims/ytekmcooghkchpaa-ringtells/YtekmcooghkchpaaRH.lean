/- ring: the points of a backend, handed out. -/
import Derived.Test.YtekmcooghkchpaaDI
import Derived.Test.YtekmcooghkchpaaRF
import Derived.RangeFuncBound
import Derived.RangeFuncCalls
import Derived.Shelf.RegionOpen
import Derived.OwnWalkIn
import Derived.TacticsInMore
import Derived.LoopNIn
import Derived.LoopIn
namespace Go.Proofs.Ytekmcooghkchpaa
open Go.RowKit Go.Sort Go.Shelf
attribute [local go_sem] Oper.semAt_some

/-- What a round may turn: one box, and rows of points. -/
def KpR (Br : Nat) (W W' : World) : Prop := ∀ b c t f, b ≠ Br → t ≠ 52 → W.heap[b]? = some (.cells c t f) → W'.heap[b]? = some (.cells c t f)
theorem KpR.refl (Br : Nat) (W : World) : KpR Br W W := fun _ _ _ _ _ _ h => h
theorem KpR.trans {Br : Nat} {A B C : World} (h : KpR Br A B) (k : KpR Br B C) : KpR Br A C := fun b c t f h1 h2 h3 => k b c t f h1 h2 (h b c t f h1 h2 h3)
theorem KpR.grown {Br : Nat} {W W' : World} (hg : W.grownBy W' none) : KpR Br W W' := fun b c t f _ _ h => by
  rw [hg.block b (Array.getElem?_eq_some_iff.1 h).1 (by simp)]; exact h
/-- The boxes that pointsOf has laid. -/
def Two (Br B1 B2 : Nat) (id wt pts : Int) (W : World) : Prop := B1 ≠ Br ∧ B2 ≠ Br ∧ Br < W.heap.size ∧ W.heap[B1]? = some (.cells #[.int .i64 id, .int .i64 wt] 54 (0, 0)) ∧ W.heap[B2]? = some (.cells #[.int .i64 pts] 3 (0, 0))
theorem Two.kept {Br B1 B2 : Nat} {id wt pts : Int} {W W' : World} (h : Two Br B1 B2 id wt pts W) (hk : KpR Br W W') (hs : W.heap.size ≤ W'.heap.size) : Two Br B1 B2 id wt pts W' :=
  ⟨h.1, h.2.1, Nat.lt_of_lt_of_le h.2.2.1 hs, hk _ _ _ _ h.1 (by decide) h.2.2.2.1, hk _ _ _ _ h.2.1 (by decide) h.2.2.2.2⟩
theorem Two.cells {Br B1 B2 : Nat} {id wt pts : Int} {W : World} (h : Two Br B1 B2 id wt pts W) : W.cell? ⟨B1, 0, none⟩ = some (.int .i64 id) ∧ W.cell? ⟨B1, 1, none⟩ = some (.int .i64 wt) ∧ W.cell? ⟨B2, 0, none⟩ = some (.int .i64 pts) := by
  refine ⟨?_, ?_, ?_⟩ <;> simp [World.cell?, h.2.2.2.1, h.2.2.2.2]
/-- Behind a round. -/
def YPost (J Jx : List Rp.Pt → World → Prop) (xs : List Rp.Pt) (Br B1 B2 : Nat) (id wt pts : Int) (b : Bool) (W : World) : Prop := (b = true ∧ J xs W ∧ Two Br B1 B2 id wt pts W) ∨ (b = false ∧ Jx xs W)

theorem act_lit (a : Array Value) (n : Nat) (h : a.size = n) : a = ((List.range n).map fun i => a.getD i undef).toArray := by
  subst h
  apply Array.ext
  · simp
  · intro i h1 h2
    simp [Array.getD, h1]
theorem grownBy_drew (w : World) : w.grownBy w.drew none := ⟨rfl, rfl, rfl, Nat.le_refl _, fun _ _ _ => rfl⟩
theorem run_pt (w : World) (x y : Int) : (Instr.build 52 #[(0, .int .u64 x), (1, .int .i64 y)]).run Try.prog w = .ok (.agg #[.int .u64 x, .int .i64 y]) w := by
  go_simp
theorem run_yield {a : Act} {o : Oper} {ts : Array TypeId} {s t : Nat} {w : World} {l : Nat} {x : Value} {fn : FuncId} {tmps : Array Value} {assign body : Code} (hop : o.op = .call { callee := .value (.tmp s), args := #[.tmp t], argTypes := ts }) (es : a.eval (.tmp s) = .func (.yield l) #[] #[]) (et : a.eval (.tmp t) = x)
    (hy : (Instr.yield l #[x]).run Try.prog w = .ok (.round l fn tmps assign body) w) : (execOp a.eval o).run Try.prog w = .ok (.round l fn tmps assign body) w := by
  simp [execOp, hop, resolve, invoke, es, et, Deferred.ofValue]
  exact hy

theorem points1_v (n l Br B1 B2 : Nat) (id wt pts : Int) (N : Nat) (hN : (N : Int) = wt * pts) (hN2 : N ≤ 100000) (J Jx : List Rp.Pt → World → Prop) (W : World) (hJ : AbidesFrom W.heap.size J) (L : Nat → Rp.Pt) (hL : ∀ k, L k = ((Rp.hsh id k : Int), id))
    (hY : ∀ pre x W1, J pre W1 → pre.length < N → YieldAt Fence.wide (n - 1) Try.prog l #[.agg #[.int .u64 x.1, .int .i64 x.2]] W1 fun e W' =>
      (e = .returned (.bool true) ∧ J (pre ++ [x]) W' ∧ KpR Br W1 W' ∧ W1.heap.size ≤ W'.heap.size) ∨ (e = .returned (.bool false) ∧ Jx (pre ++ [x]) W'))
    (hT : Two Br B1 B2 id wt pts W) (h0 : J [] W) :
    CallsIn Fence.wide n Try.prog 42 #[.func (.yield l) #[] #[], .pointer (some ⟨B1, 0, none⟩), .pointer (some ⟨B2, 0, none⟩)] W fun e W' => (∃ v, e = .returned v) ∧
      ((∃ ys, ys = (List.range N).map L ∧ J ys W') ∨ (∃ pre, True ∧ Jx pre W')) := by
  have HT := hidD hT
  have HJ := hidD hJ
  have HYY := hidD hY
  have HL := hidD hL
  have mixed : Try.prog.follows .mixedOrders = true := by kernel_rfl
  obtain ⟨c0, c1, c2⟩ := hT.cells
  have hw8 : IntKind.i64.wrap (wt * pts) = (N : Int) := by rw [← hN, IntKind.wrap_i64]; omega
  clear hT hJ hY hL hN
  refine callsIn_of_wp Try.func42 rfl trivial ?_ rfl
  simp only [Try.ntmps42, List.size_toArray, List.length_cons, List.length_nil, Nat.reduceAdd, Nat.reduceSub, Array.replicate_succ, Array.replicate_zero, List.push_toArray, List.append_toArray, List.nil_append, List.cons_append]
  gi_wp2
  gi_loopw [9] (fun i wr => ∃ k : Nat, k ≤ N ∧ i = .int .i64 k ∧ Hid (J ((List.range k).map L) wr ∧ Two Br B1 B2 id wt pts wr )) (fun i _ => N - (intOf i).toNat)
  case atStart => exact ⟨0, Nat.zero_le _, by first | rfl | simp, hidD ⟨h0, HT.out⟩⟩
  case round =>
    obtain ⟨k, hk, rfl, hI⟩ := hrel
    by_cases hlt : k < N
    · obtain ⟨pre, hpre⟩ : ∃ pre, pre = (List.range k).map L := ⟨_, rfl⟩
      have hlen : pre.length = k := by rw [hpre]; simp
      have HI : Hid (∀ g (W1 : World), W1.heap[g]? = some (.cells #[.int .i64 id, .int .i64 (k : Int)] 3 (0, 0)) → Calls Try.prog 34 #[.int .u64 1, .slice (some ⟨g, 0, none⟩) 2 2] W1 fun e w' => e = .returned (.int .u64 (Rp.hsh id k : Nat)) ∧ W1 = w') := hidD (fun g W1 hg => by
        refine ints_any 1 _ [id, (k : Int)] W1 (by decide) ⟨some ⟨g, 0, none⟩, 2, rfl, by simp, by unfold maxLen; omega, (fun h => by cases h), fun x hx i hi => ?_⟩
        cases hx
        rw [add_plain]
        have hi' : i < 2 := hi
        rcases (by omega : i = 0 ∨ i = 1) with rfl | rfl <;> simp [World.cell?, hg])
      have HY : Hid (∀ W1 : World, J pre W1 → YieldAt Fence.wide (n - 1) Try.prog l #[.agg #[.int .u64 (Rp.hsh id k : Nat), .int .i64 id]] W1 fun e W' =>
        (e = .returned (.bool true) ∧ J (pre ++ [((Rp.hsh id k : Int), id)]) W' ∧ KpR Br W1 W' ∧ W1.heap.size ≤ W'.heap.size) ∨ (e = .returned (.bool false) ∧ Jx (pre ++ [((Rp.hsh id k : Int), id)]) W')) := hidD (fun W1 hj => HYY.out pre ((Rp.hsh id k : Int), id) W1 hj (by omega))
      have hnext : Hid (pre ++ [((Rp.hsh id k : Int), id)] = (List.range (k + 1)).map L) := hidD (by rw [List.range_succ, List.map_append, hpre]; simp [HL.out k])
      obtain ⟨j1, j2⟩ := hI.out
      rw [← hpre] at j1
      have J1 := hidD j1
      have J2 := hidD j2
      have hB0 : wr.heap.size ≤ wr.drew.heap.size := Nat.le_refl _
      have HPRE := hidD hpre
      clear hI hlen HYY HL hpre j1 j2 c0 c1 c2
      generalize Rp.hsh id k = h at *
      gi_wp2
      refine wpIn_region_drawn (pred := fun jx v W => match jx with | 0 => v = .func (.yield l) #[] #[] | 1 => v = .pointer (some ⟨B1, 0, none⟩) | 2 => v = .int .i64 id | 3 => v = .int .i64 (k : Int) | 4 => ∃ g, v = .slice (some ⟨g, 0, none⟩) 2 2 ∧ (g ≠ Br ∧ W.heap[g]? = some (.cells #[.int .i64 id, .int .i64 (k : Int)] 3 (0, 0))) | 5 => v = .int .u64 (h : Int) | 6 => v = .pointer (some ⟨B1, 0, none⟩) | 7 => v = .int .i64 id | 8 => v = .agg #[.int .u64 (h : Int), .int .i64 id] | 9 => ∃ b, v = .bool b ∧ (YPost J Jx (pre ++ [((h : Int), id)]) Br B1 B2 id wt pts b W) | 10 => ∃ b, v = .bool (!b) ∧ (YPost J Jx (pre ++ [((h : Int), id)]) Br B1 B2 id wt pts b W) | _ => True) (R := fun b W1 => b = false → J pre W1 ∧ Two Br B1 B2 id wt pts W1) (T := fun W1 W2 => KpR Br W1 W2) 9 (by kernel_rfl) (by kernel_rfl) (by kernel_rfl) (by kernel_rfl) (by decide) ?mono ?start ?s1 ?sm ?s2 ?done
      case mono =>
        intro ix v W1 W2 hi hp hk
        match ix, hp, hi with
        | 0, h, _ => exact h
        | 1, h, _ => exact h
        | 2, h, _ => exact h
        | 3, h, _ => exact h
        | 4, ⟨g, h1, h2, h3⟩, _ => exact ⟨g, h1, h2, hk _ _ _ _ h2 (by decide) h3⟩
        | 5, h, _ => exact h
        | 6, h, _ => exact h
        | 7, h, _ => exact h
        | 8, h, _ => exact h
        | _ + 9, _, h => omega
      case start => exact fun _ => ⟨HJ.out _ _ _ none J1.out (grownBy_drew wr) (fun r e => by cases e), J2.out⟩
      case s1 =>
        intro ix o hi ho A W hsz hdf hfr hdep hR0
        have hR := hR0 rfl
        clear hR0
        rcases ix with _ | _ | _ | _ | _ | _ | _ | _ | _ | ix
        · injection ho with ho
          subst ho
          have e0 : A.eval (.tmp 0) = .func (.yield l) #[] #[] := (hfr 0 (noDst_spec (by kernel_rfl))).trans rfl
          exact gIn_mv rfl (wanted_plain rfl) (.inl rfl) e0 ⟨_, rfl, rfl, KpR.refl _ _, fun _ => hR⟩
        · injection ho with ho
          subst ho
          have e1 : A.eval (.tmp 1) = .pointer (some ⟨B1, 0, none⟩) := (hfr 1 (noDst_spec (by kernel_rfl))).trans rfl
          exact gIn_fld (v := .pointer (some ⟨B1, 0, none⟩)) rfl (wanted_plain rfl) rfl e1 (by go_simp) ⟨_, rfl, rfl, KpR.refl _ _, fun _ => hR⟩
        · injection ho with ho
          subst ho
          have e13 : A.eval (.tmp 13) = .pointer (some ⟨B1, 0, none⟩) := hdep ⟨1, .data⟩ (by simp) rfl _ _ rfl rfl
          obtain ⟨x0, x1, x2⟩ := hR.2.cells
          exact gIn_ld (v := .int .i64 id) rfl (wanted_plain rfl) rfl e13 (by go_simp) ⟨_, rfl, rfl, KpR.refl _ _, fun _ => hR⟩
        · injection ho with ho
          subst ho
          have e4 : A.eval (.tmp 4) = .int .i64 (k : Int) := (hfr 4 (noDst_spec (by kernel_rfl))).trans rfl
          exact gIn_mv rfl (wanted_plain rfl) (.inl rfl) e4 ⟨_, rfl, rfl, KpR.refl _ _, fun _ => hR⟩
        · injection ho with ho
          subst ho
          have e14 : A.eval (.tmp 14) = .int .i64 id := hdep ⟨2, .data⟩ (by simp) rfl _ _ rfl rfl
          have e15 : A.eval (.tmp 15) = .int .i64 (k : Int) := hdep ⟨3, .data⟩ (by simp) rfl _ _ rfl rfl
          have hga := World.grownBy_alloc W (.cells #[.int .i64 id, .int .i64 (k : Int)] 3) none
          refine gIn_val (v := .slice (some ⟨W.heap.size, 0, none⟩) 2 2) (w' := W.alloc (.cells #[.int .i64 id, .int .i64 (k : Int)] 3)) rfl (wanted_plain rfl) (by intro c hc; cases hc) (by simp [execOp, e14, e15, run_build2]) ?_
          exact ⟨_, rfl, ⟨W.heap.size, rfl, by have := hR.2.2.2.1; omega, World.alloc_heap_new W _⟩, KpR.grown hga, fun _ => ⟨HJ.out _ _ _ none hR.1 hga (fun r e => by cases e), hR.2.kept (KpR.grown hga) hga.size⟩⟩
        · injection ho with ho
          subst ho
          obtain ⟨g, e16, hx16⟩ : ∃ g, A.eval (.tmp 16) = .slice (some ⟨g, 0, none⟩) 2 2 ∧ (g ≠ Br ∧ W.heap[g]? = some (.cells #[.int .i64 id, .int .i64 (k : Int)] 3 (0, 0))) := hdep ⟨4, .data⟩ (by simp) rfl _ _ rfl rfl
          refine gIn_enter rfl (wanted_plain rfl) (by intro c hc; cases hc) 34 #[.int .u64 1, .slice (some ⟨g, 0, none⟩) 2 2] (run_call _ (fun _ _ => rfl) _ _ rfl _ (by simp [e16]; rfl)) ?_
          refine (HI.out g W hx16.2).mono ?_
          rintro e w' ⟨rfl, rfl⟩
          exact ⟨_, rfl, _, rfl, rfl, KpR.refl _ _, fun _ => hR⟩
        · injection ho with ho
          subst ho
          have e1 : A.eval (.tmp 1) = .pointer (some ⟨B1, 0, none⟩) := (hfr 1 (noDst_spec (by kernel_rfl))).trans rfl
          exact gIn_fld (v := .pointer (some ⟨B1, 0, none⟩)) rfl (wanted_plain rfl) rfl e1 (by go_simp) ⟨_, rfl, rfl, KpR.refl _ _, fun _ => hR⟩
        · injection ho with ho
          subst ho
          have e18 : A.eval (.tmp 18) = .pointer (some ⟨B1, 0, none⟩) := hdep ⟨6, .data⟩ (by simp) rfl _ _ rfl rfl
          obtain ⟨x0, x1, x2⟩ := hR.2.cells
          exact gIn_ld (v := .int .i64 id) rfl (wanted_plain rfl) rfl e18 (by go_simp) ⟨_, rfl, rfl, KpR.refl _ _, fun _ => hR⟩
        · injection ho with ho
          subst ho
          have e17 : A.eval (.tmp 17) = .int .u64 (h : Int) := hdep ⟨5, .data⟩ (by simp) rfl _ _ rfl rfl
          have e19 : A.eval (.tmp 19) = .int .i64 id := hdep ⟨7, .data⟩ (by simp) rfl _ _ rfl rfl
          refine gIn_val (v := .agg #[.int .u64 (h : Int), .int .i64 id]) (w' := W) rfl (wanted_plain rfl) (by intro c hc; cases hc) (by simp [execOp, e17, e19, run_pt]) ?_
          exact ⟨_, rfl, rfl, KpR.refl _ _, fun _ => hR⟩
        · omega
      case sm =>
        intro o ho A W hsz hdf hfr hdep hR0
        have hR := hR0 rfl
        clear hR0
        injection ho with ho
        subst ho
        have e12 : A.eval (.tmp 12) = .func (.yield l) #[] #[] := hdep ⟨0, .data⟩ (by simp) rfl _ _ rfl rfl
        have e20 : A.eval (.tmp 20) = .agg #[.int .u64 (h : Int), .int .i64 id] := hdep ⟨8, .data⟩ (by simp) rfl _ _ rfl rfl
        obtain ⟨fn, tmps, assign, body, hy, hY2⟩ := HY.out W hR.1
        refine gIn_round (l := l) (f := fn) (tmps := tmps) (assign := assign) (body := body) rfl (wanted_plain rfl) (by intro c hc; cases hc) (run_yield rfl e12 e20 hy) ?_
        refine RoundIn.mono hY2 ?_
        rintro e W' (⟨rfl, j1, j2, j3⟩ | ⟨rfl, j1⟩)
        · exact ⟨_, rfl, _, rfl, ⟨true, rfl, .inl ⟨rfl, j1, hR.2.kept j2 j3⟩⟩, fun h => by cases h⟩
        · exact ⟨_, rfl, _, rfl, ⟨false, rfl, .inr ⟨rfl, j1⟩⟩, fun h => by cases h⟩
      case s2 =>
        intro ix o hi ho A W hsz hdf hfr hdep hR
        rcases ix with _ | _ | _ | _ | _ | _ | _ | _ | _ | _ | _ | ix
        iterate 10 omega
        · injection ho with ho
          subst ho
          obtain ⟨c, e21, hx21⟩ : ∃ c, A.eval (.tmp 21) = .bool c ∧ (YPost J Jx (pre ++ [((h : Int), id)]) Br B1 B2 id wt pts c W) := hdep ⟨9, .data⟩ (by simp) rfl (by decide) _ _ rfl rfl
          exact gIn_not rfl (wanted_plain rfl) rfl e21 ⟨_, rfl, ⟨c, rfl, hx21⟩, rfl⟩
        · simp at ho
      case done =>
        intro A W2 hsz hdf hfr hcome _
        obtain ⟨c, e22, hx22⟩ : ∃ c, A.tmps.getD 22 undef = .bool (!c) ∧ (YPost J Jx (pre ++ [((h : Int), id)]) Br B1 B2 id wt pts c W2) := hcome 10 _ _ (by decide) rfl rfl
        have hdf2 : A.defers = [] := hdf
        have hA : A = ⟨#[A.tmps.getD 0 undef, A.tmps.getD 1 undef, A.tmps.getD 2 undef, A.tmps.getD 3 undef, A.tmps.getD 4 undef, A.tmps.getD 5 undef, A.tmps.getD 6 undef, A.tmps.getD 7 undef, A.tmps.getD 8 undef, A.tmps.getD 9 undef, A.tmps.getD 10 undef, A.tmps.getD 11 undef, A.tmps.getD 12 undef, A.tmps.getD 13 undef, A.tmps.getD 14 undef, A.tmps.getD 15 undef, A.tmps.getD 16 undef, A.tmps.getD 17 undef, A.tmps.getD 18 undef, A.tmps.getD 19 undef, A.tmps.getD 20 undef, A.tmps.getD 21 undef, A.tmps.getD 22 undef, A.tmps.getD 23 undef], A.defers⟩ := by
          have h1 := act_lit A.tmps 24 hsz
          obtain ⟨t, d⟩ := A
          exact congrArg (fun x => (⟨x, d⟩ : Act)) h1
        have f0 := (show A.tmps.getD 0 undef = .func (.yield l) #[] #[] from (hfr 0 (noDst_spec (by kernel_rfl))).trans rfl)
        have f1 := (show A.tmps.getD 1 undef = .pointer (some ⟨B1, 0, none⟩) from (hfr 1 (noDst_spec (by kernel_rfl))).trans rfl)
        have f2 := (show A.tmps.getD 2 undef = .pointer (some ⟨B2, 0, none⟩) from (hfr 2 (noDst_spec (by kernel_rfl))).trans rfl)
        have f3 := (show A.tmps.getD 3 undef = undef from (hfr 3 (noDst_spec (by kernel_rfl))).trans rfl)
        have f5 := (show A.tmps.getD 5 undef = .pointer (some ⟨B1, 1, none⟩) from (hfr 5 (noDst_spec (by kernel_rfl))).trans rfl)
        have f6 := (show A.tmps.getD 6 undef = .int .i64 wt from (hfr 6 (noDst_spec (by kernel_rfl))).trans rfl)
        have f7 := (show A.tmps.getD 7 undef = .int .i64 pts from (hfr 7 (noDst_spec (by kernel_rfl))).trans rfl)
        have f8 := (show A.tmps.getD 8 undef = .int .i64 (N : Int) from (hfr 8 (noDst_spec (by kernel_rfl))).trans rfl)
        have f9 := (show A.tmps.getD 9 undef = .int .i64 (k : Int) from (hfr 9 (noDst_spec (by kernel_rfl))).trans rfl)
        rw [hA, e22, f0, f1, f2, f3, f5, f6, f7, f8, f9, hdf2]
        clear hA hfr hcome hdf hdf2 e22 hsz f0 f1 f2 f3 f5 f6 f7 f8 f9
        generalize A.tmps.getD 4 undef = v4
        generalize A.tmps.getD 10 undef = v10
        generalize A.tmps.getD 11 undef = v11
        generalize A.tmps.getD 12 undef = v12
        generalize A.tmps.getD 13 undef = v13
        generalize A.tmps.getD 14 undef = v14
        generalize A.tmps.getD 15 undef = v15
        generalize A.tmps.getD 16 undef = v16
        generalize A.tmps.getD 17 undef = v17
        generalize A.tmps.getD 18 undef = v18
        generalize A.tmps.getD 19 undef = v19
        generalize A.tmps.getD 20 undef = v20
        generalize A.tmps.getD 21 undef = v21
        generalize A.tmps.getD 23 undef = v23
        rcases hx22 with ⟨rfl, y1, y2⟩ | ⟨rfl, y1⟩
        · have Y1 := hidD y1
          have Y2 := hidD y2
          clear y1 y2 J1 J2
          gi_wp2
          go_roundw
          case rel => exact ⟨k + 1, by omega, by go_num, hidD ⟨by rw [← hnext.out]; exact Y1.out, Y2.out⟩⟩
          case measure => simp [intOf]; omega
        · have Y1 := hidD y1
          clear y1 J1 J2
          gi_wp2
          refine bodyPost_ret (results_none rfl _ _ _) rfl ?_
          exact ⟨⟨_, rfl⟩, .inr ⟨_, trivial, Y1.out⟩⟩
    · have hke : k = N := by omega
      subst hke
      obtain ⟨j1, j2⟩ := hI.out
      have J1 := hidD j1
      clear hI j1 j2 c0 c1 c2
      gi_wp2
      go_end0
      exact ⟨⟨_, rfl⟩, .inl ⟨_, rfl, J1.out⟩⟩
end Go.Proofs.Ytekmcooghkchpaa
