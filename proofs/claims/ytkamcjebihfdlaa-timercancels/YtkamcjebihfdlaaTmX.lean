/- timers: AppendSeq, Collect, SortedFunc, Order (the code's). -/
import Derived.Test.YtkamcjebihfdlaaTmW
import Derived.Test.YtkamcjebihfdlaaTmG
import Derived.Test.YtkamcjebihfdlaaTmF
import Derived.Shelf.SlSortCmp.NoneTotal
import Derived.Shelf.SlGeneric
import Derived.Ground.SlsfProg
namespace Go.Proofs
open Go.Shelf
shelf_lay_g SlLaysF0.n6 Slsf 6 at Try 46 as Try.sortT
end Go.Proofs
namespace Go.Proofs.Ytkamcjebihfdlaa
open Go.RowKit Go.Shelf Go.Sort
attribute [local go_sem] Oper.semAt_some
set_option linter.unusedVariables false
set_option maxRecDepth 20000

theorem wpListIn_append_tmA {F : Fence} {nF : Nat} {ops : Array Oper} {rest : List Oper} {o : Oper} {a : Act} {Q : Exit → Act → World → Prop} (w : World) (hgd : o.guard = none) (s x : Operand)
    (ho : o.op = .call { callee := .builtin .append, args := #[s, x], argTypes := #[22, 22] }) (B : Nat) (v : Value) (y : Addr) (n cap : Nat) (l m : List Ti.T) (hs : a.eval s = v) (hown : OT w B v l) (hx : a.eval x = .slice (some y) n cap) (hu : TS w (.slice (some y) n cap) m)
    (hlen : l.length + m.length ≤ 8796093022208) (hB : B ≤ w.heap.size)
    (h : ∀ v' w', OT w' B v' (l ++ m) → Below B w w' → w.grownBy w' v.ownBlock → (v'.ownBlock = v.ownBlock ∨ v'.ownBlock = some w.heap.size) → wpListIn F nF Try.prog ops Q rest (a.put o.dst v') w') : wpListIn F nF Try.prog ops Q (o :: rest) a w := by
  obtain ⟨i0, hi, hz0, hz1, hz2⟩ := info_parts Try.infoT
  have hu' := hu
  obtain ⟨ao, cap2, he, h1, h2, h3, h4⟩ := hu
  cases he
  refine wpListIn_append_own_at w hgd s x 22 ho B 31 i0 _ 2 16 Try.underlying22 hi hz0 hz1 hz2 rfl (by decide) v l.length (tsL l) hs hown y m.length cap (tsL m) hx (tsL_len m) (TS.cells hu') tsL_one (by unfold maxLen; omega) (by omega) hB ?_
  intro v' w' ho' hg _ hw
  refine h v' w' ?_ ((Below.refl _ _).grown hg hB (fun k hk => (hown.lt k hk).1)) hg hw
  unfold OT
  rw [tsL_append, List.length_append]
  exact ho'
theorem keeps_own {X Y : World} {B C : Nat} {v : Value} {l : List Ti.T} (hg : X.grownBy Y v.ownBlock) (h : OT X B v l) : KeepsFrom C X Y := by
  refine ⟨hg.size, fun k o _ hk ho => ?_⟩
  refine (hg.block k (Array.getElem?_eq_some_iff.1 hk).1 (fun e => ?_)).trans hk
  rcases h.2 with ⟨rfl, _⟩ | ⟨g, cap, cur, rfl, _, hgb, _⟩
  · cases e
  · have : k = g := by simpa [Value.ownBlock] using e
    subst this
    rw [hk] at hgb
    cases hgb
    cases ho
/-- What lies between two rounds of AppendSeq. -/
def SqI (w : World) (Br : Nat) (l : List Ti.T) (k : Nat) (W : World) : Prop := Below Br w W ∧ Br + 1 ≤ W.heap.size ∧ ∃ v, Bo W Br [v] 22 ∧ OT W (Br + 1) v (l.take k)
theorem SqI.up {w : World} {Br : Nat} {l : List Ti.T} : UpN (SqI w Br l) := by
  rintro k W W' ⟨h1, h2, v, h3, h4⟩ hg
  exact ⟨h1.grown hg (by omega) (fun r e => by cases e), Nat.le_trans h2 hg.size, v, (hg.block Br h3.lt (by simp)).trans h3, h4.kept hg (by cases hv : v.ownBlock <;> simp)⟩
theorem SqI.loop {w : World} {Br C : Nat} {l : List Ti.T} (hC : Br + 1 ≤ C) : ∀ k W q o o', SqI w Br l k W → C ≤ q → W.heap[q]? = some o → o.isCells = false → SqI w Br l k (W.putObj q o') := by
  rintro k W q o o' ⟨h1, h2, v, h3, h4⟩ hq hh ho
  exact ⟨h1.grown (grownBy_putObj' W q o') (by omega) (fun r e => by cases e; omega), by simpa using h2, v, Bo.put hh ho h3, h4.putObj hh ho⟩

set_option maxHeartbeats 8000000 in
theorem appendSeq_any (bV : Nat) (v : Value) (l : List Ti.T) (w : World) (hs : TS w v l) (hbV : Bo w bV [v] 22) (hl : l.length ≤ 1048576) :
    Calls Try.prog 51 #[.slice none 0 0, .func (.func 47) #[] #[.pointer (some ⟨bV, 0, none⟩)]] w fun e w' => ∃ v', e = .returned v' ∧ OT w' w.heap.size v' l ∧ Below w.heap.size w w' := by
  have HS := hidD hs
  have HV := hidD hbV
  have X0 := Bo.new w [.slice none 0 0] 22
  have HB := (Below.refl w.heap.size w).alloc (Nat.le_refl _) (.cells #[.slice none 0 0] 22)
  obtain ⟨V, hV⟩ : ∃ V, V = w.alloc (.cells #[.slice none 0 0] 22) := ⟨_, rfl⟩
  have hVS : V.heap.size = w.heap.size + 1 := by rw [hV, World.size_alloc]
  have X1 : Bo V w.heap.size [.slice none 0 0] 22 := by rw [hV]; exact X0
  rw [← hV] at HB
  have HI0 : Hid (SqI w w.heap.size l 0 V) := hidD ⟨HB, by omega, _, X1, World.ownsRow_nil _ _ _ _⟩
  have HK0 : Hid (Kd (w.heap.size + 1) w.heap.size w V) := hidD (Kd.grown (grown_of_below HB) (fun r e => by cases e))
  obtain ⟨Br, hBr⟩ : ∃ Br, Br = w.heap.size := ⟨_, rfl⟩
  have HN := hidD hBr
  rw [← hBr] at hVS HI0 HK0 ⊢
  replace hVS := hidD hVS
  have D1 : 1 ≤ 10 := by decide
  have F1 : Fence.wide.fn 47 := trivial
  clear X0 X1 HB hs hbV hBr
  refine (callsIn_wide (n := 10)).1 ?_
  refine callsIn_of_wp_marks Try.func51 rfl trivial ?_ rfl
  simp only [Try.ntmps51, List.size_toArray, List.length_cons, List.length_nil, Nat.reduceAdd, Nat.reduceSub, Array.replicate_succ, Array.replicate_zero, List.push_toArray, List.append_toArray, List.nil_append, List.cons_append]
  gi_wp2_with fail
  rw [← HN.out, ← hV]
  clear hV
  refine range_own2 rfl D1 (gf := 47) (lb := #[.pointer (some ⟨bV, 0, none⟩)]) rfl trivial (fun _ _ => rfl) (fun k => #[vT (Ti.g l k)]) l.length (Br + 1) Br (fun _ => rfl) ?hit (SqI w Br l) SqI.up (SqI.loop (by have := hVS.out; omega)) HI0.out ?round ?done
  case hit =>
    intro L J W hW hJ hY hJ0
    have e1 := HN.out
    exact val1_v (10 - 1) L (Br + 1) Br bV v l w HS.out (by omega) (by omega) HV.out J W (HK0.out.trans (Kd.grown (grown_of_below hW) (fun r e => by cases e))) hJ hY hJ0
  case round =>
    rintro ll k W hk ⟨i1, i2, u, i3, i4⟩ hl2 ⟨r, hr⟩
    have HSl := hVS.out
    have hll : ll < W.heap.size := (Array.getElem?_eq_some_iff.1 hr).1
    obtain ⟨x, hx⟩ : ∃ x, x = Ti.g l k := ⟨_, rfl⟩
    have HTK : Hid (l.take (k + 1) = l.take k ++ [x]) := hidD (by rw [List.take_succ_eq_append_getElem hk, hx, Ti.g_at hk])
    rw [← hx]
    replace hx := hidD hx
    obtain ⟨xa, xi⟩ := x
    have hkl : (l.take k).length ≤ 1048576 := by rw [List.length_take]; omega
    gi_wp2
    refine ⟨(KeepsOthers.alloc _ _).from _, Kd.grown (World.grownBy_alloc _ _ none) (fun r e => by cases e), ?_⟩
    rintro o X hX
    have hr2 : (W.alloc (.cells #[.int .i64 xa, .int .i64 xi] 31)).heap[ll]? = some (.loop r) := (Below.heap_alloc W _ ll hll).trans hr
    have hg0 := World.grownBy_alloc W (.cells #[.int .i64 xa, .int .i64 xi] 31) none
    have B1 : Below Br w X := by
      rw [hX]
      exact (i1.grown hg0 (by omega) (fun r e => by cases e)).grown (grownBy_putObj' _ ll _) (by rw [World.size_alloc]; omega) (fun r e => by cases e; omega)
    have P0 : Bo X W.heap.size [.int .i64 xa, .int .i64 xi] 31 := by
      rw [hX]
      exact Bo.put hr2 rfl (Bo.new W [.int .i64 xa, .int .i64 xi] 31)
    have P1 : Bo X Br [u] 22 := by
      rw [hX]
      exact Bo.put hr2 rfl (i3.alloc _)
    have P2 : OT X (Br + 1) u (l.take k) := by
      rw [hX]
      exact OT.putObj (i4.kept hg0 (by cases hv : u.ownBlock <;> simp)) hr2 rfl
    have PS : Br + 1 ≤ X.heap.size := by
      rw [hX]
      simp
      omega
    clear i1 i2 i3 i4 hg0 hr2 hX hr
    have hgX := World.grownBy_alloc X (.cells #[.int .i64 xa, .int .i64 xi] 31) none
    obtain ⟨Y, hY⟩ : ∃ Y, Y = X.alloc (.cells #[.int .i64 xa, .int .i64 xi] 31) := ⟨_, rfl⟩
    have Q0 : Bo Y X.heap.size [.int .i64 xa, .int .i64 xi] 31 := by rw [hY]; exact Bo.new X _ _
    rw [← hY] at hgX
    have Q1 := hidD (show Bo Y Br [u] 22 from (hgX.block Br P1.lt (by simp)).trans P1)
    have Q2 : Hid (OT Y (Br + 1) u (l.take k)) := hidD (P2.kept hgX (by cases hv : u.ownBlock <;> simp))
    have QT : Hid (TS Y (.slice (some ⟨X.heap.size, 0, none⟩) 1 1) [⟨xa, xi⟩]) := hidD ⟨some ⟨X.heap.size, 0, none⟩, 1, rfl, Nat.le_refl _, by unfold maxLen; decide, fun e => (by cases e), fun g off ar e h0 => by
      cases e
      refine ⟨rfl, Q0.lt, fun i hi => ?_⟩
      obtain rfl : i = 0 := by simpa using hi
      exact ⟨Q0.cell 0 rfl, Q0.cell 1 rfl⟩⟩
    have QS : Hid (Br + 1 ≤ Y.heap.size) := hidD (Nat.le_trans PS hgX.size)
    have q0 := P0.cell 0 rfl
    have q1 := P0.cell 1 rfl
    have q2 := P1.cell 0 rfl
    have KX : Hid (KeepsFrom V.heap.size X Y ∧ Kd (Br + 1) Br X Y ∧ Below Br w Y) := hidD ⟨by rw [hY]; exact (KeepsOthers.alloc _ _).from _, Kd.grown hgX (fun r e => by cases e), B1.grown hgX (by omega) (fun r e => by cases e)⟩
    clear P0 P1 P2 PS Q0 hgX B1
    gi_wp2_with (gi_at_builtin; rw [← hY]; refine wpListIn_append_tmA Y rfl _ _ rfl (Br + 1) u ⟨X.heap.size, 0, none⟩ 1 1 (l.take k) [⟨xa, xi⟩] rfl Q2.out rfl QT.out (by simp only [List.length_singleton]; omega) QS.out ?_; intro v2 w6 hown' hB6 hgrow hwhere; obtain ⟨gb, cb, rfl, hg1, hg2, hc1, hc2⟩ := OT.lies hown' (by simp); generalize hmm : (l.take k ++ [(⟨xa, xi⟩ : Ti.T)]).length = mm at hown' ⊢; replace hmm := hidD hmm; have R1 : Bo w6 Br [u] 22 := (hgrow.block Br Q1.out.lt (fun e => by have := (Q2.out.lt _ e.symm).1; omega)).trans Q1.out; have r1 := R1.cell 0 rfl; have f1 := R1.frozen 0)
    refine ⟨(KX.out.1.trans (keeps_own hgrow Q2.out)).trans ((KeepsOthers.setCell _ _ _).from _), (KX.out.2.1.trans (Kd.grown hgrow (fun r e => .inl (Q2.out.lt r e).1))).trans (Kd.set _ _ _ 0 _), ?_⟩
    have C1 := Cg.set (b := Br) w6 0 (.slice (some ⟨gb, 0, none⟩) mm cb)
    refine ⟨C1.below (Nat.le_refl _) (by have := QS.out; have := hB6.size; omega) (below_then KX.out.2.2 (below_low hB6 (Nat.le_succ _))), by have := QS.out; have := hB6.size; have := C1.size; omega, _, R1.set 0 _, ?_⟩
    rw [HTK.out]
    exact own_cg' hown' C1 (fun e => by have := (World.ownsRow.lt hown' _ e).1; omega)
  case done =>
    rintro D W hD ⟨i1, i2, u, i3, i4⟩ hK
    have q := i3.cell 0 rfl
    have HSl := hVS.out
    rw [List.take_length] at i4
    have GB := hidD i1
    have GO := hidD i4
    have HK := hidD hK
    have HND : Hid (Br ≤ D) := hidD (by omega)
    have HW2 := hidD i2
    clear i1 i4 hK hD i3
    gi_wp2
    refine ⟨by simp, .inl ⟨_, _, rfl, run_takeDeferred HK.out, ?_⟩⟩
    refine ⟨_, results_tmp rfl _ _ _, _, rfl, own_lower' (GO.out.putObj HK.out rfl) (by omega), ?_⟩
    exact GB.out.grown (grownBy_putObj' _ D _) (by have := HW2.out; omega) (fun k e => by cases e; exact HND.out)

theorem collect_any (bV : Nat) (v : Value) (l : List Ti.T) (w : World) (hs : TS w v l) (hbV : Bo w bV [v] 22) (hl : l.length ≤ 1048576) :
    Calls Try.prog 45 #[.func (.func 47) #[] #[.pointer (some ⟨bV, 0, none⟩)]] w fun e w' => ∃ v', e = .returned v' ∧ OT w' w.heap.size v' l ∧ Below w.heap.size w w' := by
  have c := appendSeq_any bV v l w hs hbV hl
  go_enter Try.func45, Try.ntmps45
  go_wp2_with fail
  refine c.mono ?_
  rintro e w1 ⟨v1, rfl, h1⟩
  have H1 := hidD h1
  obtain ⟨a, cap, rfl, _⟩ := id h1.1.ts
  clear c h1
  go_wp2_with fail
  go_ret
  exact ⟨_, rfl, H1.out⟩
instance : Inhabited Ti.T := ⟨Ti.t0⟩
theorem aggT (w : World) : (isAgg 31).run Try.prog w = .ok true w := by kernel_rfl
theorem sizeT (w : World) : (Go.sizeOf 31).run Try.prog w = .ok 2 w := by kernel_rfl
theorem ltT : ltOf Ti.cf = Ti.ah := by
  funext x y
  exact Ti.cf_lt x y
theorem swoT : SWO (ltOf Ti.cf) := by
  rw [ltT]
  refine ⟨fun x => ?_, fun x y z h k => ?_, fun x y z h k => ?_⟩
  · exact Ti.ah_irr x
  · exact Ti.ah_trans h k
  · exact Ti.nah_trans h k
theorem totT (x y : Ti.T) (h : ltOf Ti.cf x y = false) (k : ltOf Ti.cf y x = false) : x = y := by
  rw [ltT, Ti.ah_not] at *
  obtain ⟨a, i⟩ := x
  obtain ⟨b, j⟩ := y
  dsimp only at *
  obtain rfl : a = b := by omega
  obtain rfl : i = j := by omega
  rfl
theorem cmpT (blk off size : Nat) (w : World) : CmpLays Try.prog 39 #[] tC 2 Ti.cf blk off size w := fun _ _ _ _ x y => compare_any x y _
theorem mergeT (l : List Ti.T) : (l.mergeSort fun x y => !(ltOf Ti.cf) y x) = Ti.ord l := by
  rw [ltT]
  rfl
theorem tsL_at (xs : List Ti.T) (j : Nat) (h : j < xs.length * 2) : (tsL xs)[j]? = some ((tC xs[j / 2]!)[j % 2]!) := by
  induction xs generalizing j with
  | nil => simp at h
  | cons x r ih =>
    match j with
    | 0 => rfl
    | 1 => rfl
    | j + 2 =>
      have h' : j < r.length * 2 := by simp at h; omega
      have e1 : (j + 2) / 2 = j / 2 + 1 := by omega
      have e2 : (j + 2) % 2 = j % 2 := by omega
      rw [e1, e2]
      show (tsL r)[j]? = _
      rw [ih j h']
      simp
theorem flat_tm (d : Array Ti.T) (j : Nat) (h : j < d.size * 2) : some ((flatK tC 2 d)[j]!) = (tsL d.toList)[j]? := by
  have e : d[j / 2]! = d.toList[j / 2]! := by rw [getElem!_def, getElem!_def, Array.getElem?_toList]
  rw [get_flatK tC 2 d j h, tsL_at d.toList j (by simpa using h), e]

theorem holds_of_ts {W : World} {n₀ g cap : Nat} {d : List Ti.T} (h : W.ownsRow n₀ 31 2 (.slice (some ⟨g, 0, none⟩) d.length cap) d.length (tsL d)) : HoldsK tC 2 W g 0 d.toArray ∧ g < W.heap.size := by
  rcases h.2 with ⟨h1, _⟩ | ⟨g3, cap3, cur, h1, _, hgb, _, _, hsz, htk⟩
  · cases h1
  · cases h1
    refine ⟨fun j hj => ?_, (Array.getElem?_eq_some_iff.1 hgb).1⟩
    have hj' : j < d.length * 2 := by simpa using hj
    have e := flat_tm d.toArray j (by simpa using hj')
    have hcur : cur[j]? = some ((flatK tC 2 d.toArray)[j]!) := by
      rw [e]
      show _ = (tsL d)[j]?
      rw [← htk, List.getElem?_take_of_lt hj', Array.getElem?_toList]
    refine ⟨?_, ?_⟩
    · rw [Nat.zero_add]
      simp [World.cell?, hgb, hcur]
    · simp [World.frozen?, hgb]

theorem sort_ts (n₀ : Nat) (W : World) (g cap : Nat) (d : List Ti.T) (hd : d.length ≤ 1048576) (h : W.ownsRow n₀ 31 2 (.slice (some ⟨g, 0, none⟩) d.length cap) d.length (tsL d)) :
    Calls Try.prog 46 #[.slice (some ⟨g, 0, none⟩) d.length cap, .func (.func 39) #[] #[]] W fun e w' => e = .returned (.tuple #[]) ∧ w'.ownsRow n₀ 31 2 (.slice (some ⟨g, 0, none⟩) d.length cap) d.length (tsL (Ti.ord d)) ∧ W.grownBy w' (some g) := by
  obtain ⟨hH, hg⟩ := holds_of_ts h
  have c := AnyQ.slices_SortFunc_total Try.sortT 2 aggT sizeT tC (fun _ => rfl) (fun x v hv => by simp only [tC, List.mem_cons, List.not_mem_nil, or_false] at hv; rcases hv with rfl | rfl <;> rfl) Ti.cf swoT 39 #[] g 0 cap d.toArray W (fun _ _ => rfl) (cmpT g 0 d.toArray.size W) hH hg (by simp; omega) totT
  simp only [mergeT, List.size_toArray] at c
  change Calls Try.prog 46 _ _ _ at c
  refine c.mono ?_
  rintro e w' ⟨rfl, n, os, rfl⟩
  have hlen : (Ti.ord d).length = d.length := Ti.ord_len d
  have hH2 := holdsK_sortWorldK tC 2 W g 0 n d.toArray (Ti.ord d).toArray os hg hH (by simp [hlen])
  have hgrow : W.grownBy (sortWorldK tC 2 W g 0 n (Ti.ord d).toArray os) (some g) := by
    refine ⟨rfl, rfl, rfl, ?_, fun k hk hne => ?_⟩
    · simp [sortWorldK, grow, putRowK, putRow, mapBlock, Sort.ahead]
    · have hne' : g ≠ k := fun e => hne (by rw [e])
      simp only [sortWorldK, grow, putRowK, putRow, mapBlock, Sort.ahead]
      rw [Array.getElem?_append_left (by simpa using hk), Array.getElem?_modify, if_neg hne']
  refine ⟨rfl, ?_, hgrow⟩
  rcases h.2 with ⟨h1, _⟩ | ⟨g3, cap3, cur, h1, hge, hgb, hle, hmx, hsz, htk⟩
  · cases h1
  · cases h1
    refine ⟨by rw [tsL_len, hlen], .inr ⟨g, cap, putCells id 0 (flatK tC 2 (Ti.ord d).toArray) cur, rfl, hge, ?_, hle, hmx, by simp [putCells, hsz], ?_⟩⟩
    · simp only [sortWorldK, grow, putRowK, putRow, mapBlock, Sort.ahead]
      rw [Array.getElem?_append_left (by simpa using hg), Array.getElem?_modify, if_pos rfl, hgb]
      rfl
    · apply List.ext_getElem?
      intro j
      by_cases hj : j < d.length * 2
      · have hj2 : j < cur.size := by rw [hsz]; omega
        rw [List.getElem?_take_of_lt hj, Array.getElem?_toList]
        have e := flat_tm (Ti.ord d).toArray j (by simpa [hlen] using hj)
        rw [show (Ti.ord d).toArray.toList = Ti.ord d from rfl] at e
        rw [← e]
        simp only [putCells, Array.getElem?_mapIdx, Array.getElem?_eq_getElem hj2, Option.map_some, id]
        rw [if_pos ⟨Nat.zero_le _, by simp [hlen]; omega⟩]
        rfl
      · rw [List.getElem?_eq_none (by simp; omega), List.getElem?_eq_none (by rw [tsL_len, hlen]; omega)]

set_option maxHeartbeats 2000000 in
theorem sorted_any (bV : Nat) (v : Value) (l : List Ti.T) (w : World) (hs : TS w v l) (hbV : Bo w bV [v] 22) (hl : l.length ≤ 1048576) :
    Calls Try.prog 37 #[.func (.func 47) #[] #[.pointer (some ⟨bV, 0, none⟩)], .func (.func 39) #[] #[]] w fun e w' => ∃ v', e = .returned v' ∧ OT w' w.heap.size v' (Ti.ord l) ∧ Below w.heap.size w w' := by
  have c := collect_any bV v l w hs hbV hl
  have HSO : Hid (∀ (n₀ : Nat) (W : World) (g cap : Nat), OT W n₀ (.slice (some ⟨g, 0, none⟩) l.length cap) l → Calls Try.prog 46 #[.slice (some ⟨g, 0, none⟩) l.length cap, .func (.func 39) #[] #[]] W fun e w' => e = .returned (.tuple #[]) ∧ OT w' n₀ (.slice (some ⟨g, 0, none⟩) l.length cap) (Ti.ord l) ∧ W.grownBy w' (some g)) := hidD (fun n₀ W g cap h => (sort_ts n₀ W g cap l hl h).mono (by rintro e w' ⟨h1, h2, h3⟩; exact ⟨h1, by unfold OT; rw [Ti.ord_len]; exact h2, h3⟩))
  have HNO : Hid (∀ (a : Option Addr) (cap : Nat) (W : World), Calls Try.prog 46 #[.slice a 0 cap, .func (.func 39) #[] #[]] W fun e w' => e = .returned (.tuple #[]) ∧ w' = W) := hidD (fun a cap W => by
    have c0 := AnyF.slices_SortFunc_none { Try.sortT with } a cap (.func (.func 39) #[] #[]) W
    change Calls Try.prog 46 _ _ _ at c0
    exact c0)
  have HL0 : Hid (l.length = 0 → Ti.ord l = l) := hidD (fun h => by
    have : l = [] := List.length_eq_zero_iff.1 h
    exact (List.length_eq_zero_iff.1 (by rw [Ti.ord_len, h])).trans this.symm)
  clear hs hbV
  go_enter Try.func37, Try.ntmps37
  go_wp2_with fail
  refine c.mono ?_
  rintro e w1 ⟨v1, rfl, o1, b1⟩
  have O1 := hidD o1
  have B1 := hidD b1
  clear c b1
  by_cases h0 : l.length = 0
  · obtain ⟨a, cap, rfl, _⟩ := id o1.ts
    have HR := hidD (HL0.out h0)
    rw [h0] at O1 ⊢
    have cN := HNO.out a cap w1
    clear HNO HSO HL0 o1
    go_wp2_with fail
    refine cN.mono ?_
    rintro e w2 ⟨rfl, rfl⟩
    clear cN
    go_wp2_with fail
    go_ret
    exact ⟨_, rfl, by rw [HR.out]; exact O1.out, B1.out⟩
  · obtain ⟨g, cap, rfl, h1, _, _, _⟩ := o1.lies (by omega)
    have cS := HSO.out w.heap.size w1 g cap O1.out
    have HG := hidD h1
    clear HNO HSO HL0 o1 O1 h1
    generalize l.length = n at *
    go_wp2_with fail
    refine cS.mono ?_
    rintro e w2 ⟨rfl, o2, g2⟩
    have O2 := hidD o2
    have B2 := hidD (B1.out.grown g2 B1.out.size (fun r e => by cases e; exact HG.out))
    clear cS o2 g2
    go_wp2_with fail
    go_ret
    exact ⟨_, rfl, O2.out, B2.out⟩
set_option maxHeartbeats 2000000 in
theorem order_any (v : Value) (l : List Ti.T) (w : World) (hs : TS w v l) :
    Calls Try.prog 18 #[v] w fun e w' => ∃ r, e = .returned (.tuple #[r, .int .i64 (Ti.chkE l)]) ∧ Below w.heap.size w w' ∧ OT w' w.heap.size r (Ti.orR l) := by
  have CK := check_any v l w hs
  have HV := hidD (fun (W : World) (b : Below w.heap.size w W) => hs.below b)
  have A0 : Hid (Ti.chkE l = 0 → Ti.orR l = Ti.ord l) := hidD (fun h => if_pos h)
  have A1 : Hid (¬ Ti.chkE l = 0 → Ti.orR l = []) := hidD (fun h => if_neg h)
  have AL := hidD (fun h => (@Ti.chk_zero l h).1)
  have CS := hidD (fun (bV : Nat) (W : World) (hb : TS W v l) (hB : Bo W bV [v] 22) (hl : l.length ≤ 1048576) => sorted_any bV v l W hb hB hl)
  generalize Ti.orR l = R at *
  generalize Ti.chkE l = ck at *
  obtain ⟨a, cap, rfl, a1, a2, _, _⟩ := id hs
  unfold maxLen at a2
  have cV := fun W => values_t a l.length cap W
  clear hs
  go_enter Try.func18, Try.ntmps18
  go_wp2_with fail
  with_reducible refine CK.mono ?_
  rintro e w1 ⟨rfl, h1⟩
  have HB := hidD h1
  clear CK h1
  by_cases hk0 : ck = 0
  case neg =>
    have hR := A1.out hk0
    subst hR
    have hk1 : (ck != 0) = true := by simp [hk0]
    clear A0 A1 AL hk0 CS cV
    go_wp2_with fail
    go_ret2
    exact ⟨_, rfl, HB.out, World.ownsRow_nil _ _ _ _⟩
  subst hk0
  have hR := A0.out rfl
  have hL := AL.out rfl
  subst hR
  have cV1 := cV w1
  have hb := (Below.refl w1.heap.size w1).alloc (Nat.le_refl _) (.cells #[.slice a l.length cap] 22)
  have HB2 := hidD (below_on HB.out HB.out.size hb)
  have cS := CS.out w1.heap.size (w1.alloc (.cells #[.slice a l.length cap] 22)) (HV.out _ HB2.out) (Bo.new w1 [.slice a l.length cap] 22) (by omega)
  have HSZ : Hid (w.heap.size ≤ (w1.alloc (.cells #[.slice a l.length cap] 22)).heap.size) := hidD HB2.out.size
  clear A0 A1 AL CS cV hb HV
  generalize w1.alloc (.cells #[.slice a l.length cap] 22) = wa at *
  go_wp2_with fail
  refine cV1.mono ?_
  rintro e w2 ⟨rfl, rfl⟩
  clear cV1
  go_wp2_with fail
  refine cS.mono ?_
  rintro e w3 ⟨v3, rfl, o3, b3⟩
  have O3 := hidD (own_lower' o3 HSZ.out)
  have B3 := hidD (below_on HB2.out HSZ.out b3)
  obtain ⟨a9, c9, rfl, _⟩ := id o3.ts
  clear cS o3 b3
  go_wp2_with fail
  go_ret2
  exact ⟨_, rfl, B3.out, O3.out⟩
end Go.Proofs.Ytkamcjebihfdlaa
