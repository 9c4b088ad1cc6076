/- ring: Walk. -/
import Derived.Test.YtcpcnajifdicmaaRW1
import Derived.Test.YtcpcnajifdicmaaGB
import Derived.Maps.OwnSet
import Derived.Maps.OwnIn
import Derived.Maps.AppendAt
namespace Go.Proofs.Ytcpcnajifdicmaa
open Go.RowKit Go.Sort Go.Shelf
attribute [local go_sem] Oper.semAt_some

theorem kpW_t {n₀ : Nat} {A B C : World} (h : KpW n₀ A B) (k : KpW n₀ B C) : KpW n₀ A C := ⟨h.1.trans k.1, fun b c f hh => k.2 b c f (h.2 b c f hh)⟩
theorem kpW_b {n₀ : Nat} {w : World} (hn : n₀ ≤ w.heap.size) (W : World) (l : Nat) (o o' : Obj) (hl : w.heap.size ≤ l) (h : W.heap[l]? = some o) (hc : o.isCells = false) (hw : o.isWalk = false) : KpW n₀ W (W.putObj l o') := by
  refine ⟨belowK_b hn W l o o' hl h hc hw, fun b c f hh => ?_⟩
  rw [put_block]
  · exact hh
  · rintro rfl
    rw [h] at hh
    cases hh
    cases hc
theorem kpW_grown {n₀ : Nat} {W W' : World} {row : Option Nat} (hg : W.grownBy W' row) (hn : n₀ ≤ W.heap.size) (hr : ∀ k, row = some k → n₀ ≤ k) (ht : ∀ k c f, row = some k → W.heap[k]? ≠ some (.cells c 24 f)) : KpW n₀ W W' := by
  refine ⟨(Below.refl _ _).grown hg hn hr, fun b c f hh => ?_⟩
  rw [hg.block b (Array.getElem?_eq_some_iff.1 hh).1 (fun e => ht b c f e.symm hh)]
  exact hh

theorem round_stops (n n₀ g off N cap B1 B2 : Nat) (hn1 : 1 ≤ n) (h : Int) (r : List Rp.Pt) (hr : r.length = N) (hgn : g < n₀) (hN0 : 0 < N) (hN : N ≤ 1024) (hs : Rp.sorted r = true) (hwf : ∀ p ∈ r, (Lit.int .i64 p.2).wf = true) (w : World) (hn0 : n₀ ≤ w.heap.size) (hcap : N ≤ cap) (hcm : cap ≤ maxLen)
    (hc : ∀ i, i < N → w.cell? ⟨g, off + i * 2, none⟩ = some (.int .u64 (r.getD i (0, 0)).1) ∧ w.cell? ⟨g, off + i * 2 + 1, none⟩ = some (.int .i64 (r.getD i (0, 0)).2))
    (h1 : w.heap[B1]? = some (.cells #[.slice (some ⟨g, off, none⟩) N cap] 24 (0, 0))) (h2 : w.cell? ⟨B2, 0, none⟩ = some (.int .u64 h)) (hB2 : B2 < w.heap.size) :
    SeqStopsK Fence.wide n Try.prog 55 #[.pointer (some ⟨B1, 0, none⟩), .pointer (some ⟨B2, 0, none⟩)] (fun x : I64 => #[.int .i64 x.1]) (KpW n₀)
      (fun ys => ys.map (·.1) = Rp.roundL r h) (fun _ => True) N w := by
  intro l J Jx W hW hJ _ hY h0
  have hb1 : B1 < w.heap.size := (Array.getElem?_eq_some_iff.1 h1).1
  have hz : (Lit.int .i64 (0 : Int)).wf = true := by decide
  have hwf2 : ∀ k, (Lit.int .i64 (r.getD ((Rp.place r h + k) % N) (0, 0)).2).wf = true := by
    intro k
    have hlt : (Rp.place r h + k) % N < r.length := by rw [hr]; exact Nat.mod_lt _ hN0
    rw [pgetD_at hlt]
    exact hwf _ (List.getElem_mem _)
  have hcW : ∀ i, i < N → W.cell? ⟨g, off + i * 2, none⟩ = some (.int .u64 (r.getD i (0, 0)).1) ∧ W.cell? ⟨g, off + i * 2 + 1, none⟩ = some (.int .i64 (r.getD i (0, 0)).2) := fun i hi =>
    ⟨(hW.cell (p := ⟨g, off + i * 2, none⟩) (by show g < _; omega)).trans (hc i hi).1, (hW.cell (p := ⟨g, off + i * 2 + 1, none⟩) (by show g < _; omega)).trans (hc i hi).2⟩
  have hseg : PSeg .u64 W (.slice (some ⟨g, off, none⟩) N cap) r := by
    refine ⟨_, cap, by rw [hr], by rw [hr]; exact hcap, hcm, (fun h => by cases h), fun g' off' ar ha _ => ?_⟩
    cases ha
    have := hW.size
    exact ⟨rfl, by omega, fun i hi => hcW i (by omega)⟩
  refine (round1_v n l n₀ g off N cap B1 B2 (Rp.place r h) hn1 h r hgn hN0 hN J Jx W hJ (fun k => ⟨(r.getD ((Rp.place r h + k) % N) (0, 0)).2, hwf2 k⟩) (fun _ => rfl) (by rw [← hr]; exact Rp.place_lt r h (by omega))
    (fun W1 b => place_any _ r h W1 (hseg.below b) (by omega) hs (by omega)) (fun pre x W1 hj hl => hY pre x W1 hj hl) ⟨(hW.block B1 hb1).trans h1, fun i hi => (hcW i hi).2⟩ ((hW.cell (p := ⟨B2, 0, none⟩) hB2).trans h2) h0 (by have := hW.size; omega)).mono ?_
  rintro e W' ⟨hv, h⟩
  refine ⟨hv, ?_⟩
  rcases h with ⟨ys, rfl, hj⟩ | h
  · refine .inl ⟨_, ?_, hj⟩
    show List.map _ (List.map _ _) = Rp.roundL r h
    unfold Rp.roundL
    rw [List.map_map, hr]
    rfl
  · exact .inr h

theorem round_any (v : Value) (h : Int) (w : World) (a : Option Addr) (n c : Nat) (hv : v = .slice a n c) : Calls Try.prog 48 #[v, .int .u64 h] w fun e w' =>
    e = .returned (.func (.func 55) #[] #[.pointer (some ⟨w.heap.size, 0, none⟩), .pointer (some ⟨w.heap.size + 1, 0, none⟩)]) ∧ w' = (w.alloc (.cells #[v] 24)).alloc (.cells #[.int .u64 h] 22) := by
  subst hv
  go_enter Try.func48, Try.ntmps48
  go_wp2
  go_ret
  exact ⟨rfl, rfl⟩

theorem Rp.uniq_snoc (l : List Int) (x : Int) : Rp.uniq (l ++ [x]) = Rp.meet (Rp.uniq l) x := by simp [Rp.uniq]
theorem Rp.uniq_length (l : List Int) : (Rp.uniq l).length ≤ l.length := by
  unfold Rp.uniq
  have key : ∀ (l acc : List Int), (l.foldl Rp.meet acc).length ≤ acc.length + l.length := by
    intro l
    induction l with
    | nil => intro acc; simp
    | cons x r ih =>
      intro acc
      rw [List.foldl_cons]
      have := ih (Rp.meet acc x)
      have h2 : (Rp.meet acc x).length ≤ acc.length + 1 := by unfold Rp.meet; split <;> simp
      simp only [List.length_cons]
      omega
  have := key l []
  simpa using this

theorem Try.infoI : (Try.prog.info? 3).map (fun i => (i.zero, i.size, i.bytes)) = some (some (.int .i64 0), 1, 8) := by kernel_rfl
abbrev i64s (l : List Int) : List Value := l.map (Value.int .i64)
/-- Between two rounds of Walk. -/
def HoldW (n₀ : Nat) (w : World) (Bi Mb Bm : Nat) (k : Nat) (U : List Int) (W : World) : Prop :=
  (∃ v, Boxed W Bi 55 v ∧ W.ownsRow n₀ 3 1 v U.length (i64s U)) ∧ Boxed W Bm 85 (.map (some Mb)) ∧
  (∃ D : DataW Unit, W.ownsMap Try.prog 3 unitElem Mb k D ∧ ∀ x : Int, (Lit.int .i64 x).wf = true → Maps.has D (.int .i64 x) = decide (x ∈ U)) ∧ Below n₀ w W

theorem _root_.Go.World.ownsMap.more {w : World} {P : Program} {k : TypeId} {R : Value → Option (DataW Unit × List MemPlace)} {b n m : Nat} {D : DataW Unit} (h : w.ownsMap P k R b n D) (hn : n ≤ m) : w.ownsMap P k R b m D := by
  obtain ⟨es, ck, h1, h2, h3, h4⟩ := h
  exact ⟨es, ck, h1, h2, Nat.le_trans h3 hn, h4⟩
theorem _root_.Go.World.ownsMap.here {w : World} {P : Program} {k : TypeId} {R : Value → Option (DataW Unit × List MemPlace)} {b n : Nat} {D : DataW Unit} (h : w.ownsMap P k R b n D) : ∃ es ck, w.heap[b]? = some (.map es ck) := by
  obtain ⟨es, ck, h1, _⟩ := h
  exact ⟨es, ck, h1⟩
theorem map_not_row {X : World} {b n₀ k : Nat} {e : TypeId} {s : Nat} {v : Value} {xs : List Value} (h : ∃ es ck, X.heap[b]? = some (.map es ck)) (row : X.ownsRow n₀ e s v k xs) : v.ownBlock = none ∨ v.ownBlock ≠ some b := by
  obtain ⟨es, ck, h⟩ := h
  rcases row.2 with ⟨rfl, _⟩ | ⟨g, cap, cur, rfl, _, hgb, _⟩
  · exact .inl rfl
  · refine .inr fun e => ?_
    have : g = b := by simpa [Value.ownBlock] using e
    subst this
    rw [h] at hgb
    cases hgb
theorem cells_one (X : World) (a : Value) (t : TypeId) : ∀ j u, [a][j]? = some u → (X.alloc (.cells #[a] t)).cell? ((⟨X.heap.size, 0, none⟩ : Addr).add j) = some u := by
  intro j u hj
  rw [add_plain, World.cell?_alloc_at _ _ _ _ rfl]
  simpa using hj
theorem keyLit (x : Int) : WideAt.IsKeyLit (.int .i64 x) := by
  first | trivial | exact ⟨_, _, rfl⟩ | simp [WideAt.IsKeyLit]
theorem zero71 {w : World} : (zeroValue 89).run Try.prog w = .ok (.agg #[]) w := by kernel_rfl
theorem HoldW.own {n₀ : Nat} {w : World} {Bi Mb Bm : Nat} {B : Nat} (hn : n₀ ≤ w.heap.size) (hB : n₀ ≤ B) (hM : Mb < B) : OwnFrom B (fun (pre : List I64) W => HoldW n₀ w Bi Mb Bm pre.length (Rp.uniq (pre.map (·.1))) W) := by
  intro s X Y row hs hg hr
  obtain ⟨⟨v, h1, h2⟩, h3, ⟨D, h4, h5⟩, h6⟩ := hs
  have hbx : ∀ {b t u}, Boxed X b t u → Boxed Y b t u := fun {b t u} hb => hb.kept hg (fun e => by
    obtain ⟨_, o, ho, hc⟩ := hr b e.symm
    rw [show X.heap[b]? = _ from hb] at ho
    cases ho
    cases hc)
  refine ⟨⟨v, hbx h1, h2.kept hg ?_⟩, hbx h3, ⟨D, h4.kept hg (fun e => by have := (hr _ e.symm).1; omega), h5⟩, ownFrom_below (β := Unit) hn hB () X Y row h6 hg hr⟩
  rcases h2.2 with ⟨rfl, _⟩ | ⟨g, cap, cur, rfl, _, hgb, _⟩
  · exact .inl rfl
  · refine .inr fun e => ?_
    obtain ⟨_, o, ho, hc⟩ := hr g (by rw [← e]; rfl)
    rw [hgb] at ho
    cases ho
    cases hc

set_option maxRecDepth 100000 in
set_option maxHeartbeats 4000000 in
theorem walk_in (v : Value) (r : List Rp.Pt) (h : Int) (w : World) (hv : PSeg .u64 w v r) (hp : Rp.peopledE r = 0) (hwf : ∀ p ∈ r, (Lit.int .i64 p.2).wf = true) :
    CallsIn Fence.wide 10 Try.prog 32 #[v, .int .u64 h] w fun e w' => ∃ v', e = .returned (.tuple #[v', .int .i64 0]) ∧ Seg .i64 w' v' (Rp.walkL r h) ∧ w'.ownsRow w.heap.size 3 1 v' (Rp.walkL r h).length (i64s (Rp.walkL r h)) ∧ Below w.heap.size w w' := by
  obtain ⟨p1, p2, p3, _⟩ := Rp.people_ok hp
  have c := peopled_any v r w hv
  rw [hp] at c
  obtain ⟨a, cap, rfl, h1, h2, h3, h4⟩ := id hv
  obtain ⟨g, off, rfl, hg, hcell⟩ := pseg_at p1 h3 h4
  obtain ⟨N, hN⟩ : ∃ N, N = r.length := ⟨_, rfl⟩
  have HN := hidD hN
  have hmm := @run_makeMap Try.prog
  have HC := hidD hcell
  have HW := hidD hwf
  have HR : Hid (Rp.walkL r h = Rp.uniq (Rp.roundL r h)) := hidD (if_pos hp)
  have HRL : Hid ((Rp.roundL r h).length = r.length) := hidD (by simp [Rp.roundL])
  rw [← hN] at h1 c p1 p3 ⊢
  have hcm := hidD h2
  have hps := hidD p2
  clear hN hv h3 h4 hcell hwf hp p2
  have F1 : Fence.wide.fn 47 := trivial
  have F2 : Fence.wide.fn 48 := trivial
  have D1 : 1 ≤ 10 := by decide
  have cR := fun W => round_any (.slice (some ⟨g, off, none⟩) N cap) h W _ _ _ rfl
  refine callsIn_of_wp_marks Try.func32 rfl trivial ?_ rfl
  simp only [Try.ntmps32, List.size_toArray, List.length_cons, List.length_nil, Nat.reduceAdd, Nat.reduceSub, Array.replicate_succ, Array.replicate_zero, List.push_toArray, List.append_toArray, List.nil_append, List.cons_append]
  gi_wp2_with (first | (gi_at_call 47; refine (callsIn_wide.2 c).mono ?_; rintro e w1 ⟨rfl, b1⟩) | (gi_at_call 48; refine (callsIn_wide.2 (cR _)).mono ?_; rintro e w2 ⟨rfl, rfl⟩))
  obtain ⟨W3, hW3⟩ : ∃ W3, W3 = ((((w1.alloc (.cells #[.slice none 0 0] 55)).alloc (.map #[] 0)).alloc (.cells #[.map (some (w1.heap.size + 1))] 85)).alloc (.cells #[.slice (some ⟨g, off, none⟩) N cap] 24)).alloc (.cells #[.int .u64 h] 22) := ⟨_, rfl⟩
  have hs3 : W3.heap.size = w1.heap.size + 1 + 1 + 1 + 1 + 1 := by rw [hW3]; simp
  have hbs := b1.size
  have hb3 : Below w1.heap.size w1 W3 := by
    rw [hW3]
    exact (((((Below.refl _ w1).alloc (Nat.le_refl _) _).alloc (by simp) _).alloc (by simp; omega) _).alloc (by simp; omega) _).alloc (by simp; omega) _
  have hB : Below w.heap.size w W3 := Below.step b1 hb3
  have hbi : Boxed W3 w1.heap.size 55 (.slice none 0 0) := by
    rw [hW3]
    exact ((((Boxed.new w1 55 (.slice none 0 0)).alloc _).alloc _).alloc _).alloc _
  have hbm : Boxed W3 (w1.heap.size + 1 + 1) 85 (.map (some (w1.heap.size + 1))) := by
    rw [hW3]
    have := Boxed.new ((w1.alloc (.cells #[.slice none 0 0] 55)).alloc (.map #[] 0)) 85 (.map (some (w1.heap.size + 1)))
    rw [World.size_alloc, World.size_alloc] at this
    exact (this.alloc _).alloc _
  have hom : W3.ownsMap Try.prog 3 (unitElem (H := Unit)) (w1.heap.size + 1) 0 (.map []) := by
    rw [hW3]
    have := World.ownsMap_made (w1.alloc (.cells #[.slice none 0 0] 55)) Try.prog 3 (unitElem (H := Unit))
    rw [World.size_alloc] at this
    exact ((this.alloc _).alloc _).alloc _
  have hx1 : W3.heap[w1.heap.size + 1 + 1 + 1]? = some (.cells #[.slice (some ⟨g, off, none⟩) N cap] 24 (0, 0)) := by
    rw [hW3, heap_alloc_lt _ _ _ (by simp)]
    have := World.alloc_heap_new (((w1.alloc (.cells #[.slice none 0 0] 55)).alloc (.map #[] 0)).alloc (.cells #[.map (some (w1.heap.size + 1))] 85)) (.cells #[.slice (some ⟨g, off, none⟩) N cap] 24)
    simpa using this
  have hx2 : W3.cell? ⟨w1.heap.size + 1 + 1 + 1 + 1, 0, none⟩ = some (.int .u64 h) := by
    have := (Boxed.new ((((w1.alloc (.cells #[.slice none 0 0] 55)).alloc (.map #[] 0)).alloc (.cells #[.map (some (w1.heap.size + 1))] 85)).alloc (.cells #[.slice (some ⟨g, off, none⟩) N cap] 24)) 22 (.int .u64 h)).cell
    rw [← hW3] at this
    simpa using this
  have hcW : ∀ i, i < N → W3.cell? ⟨g, off + i * 2, none⟩ = some (.int .u64 (r.getD i (0, 0)).1) ∧ W3.cell? ⟨g, off + i * 2 + 1, none⟩ = some (.int .i64 (r.getD i (0, 0)).2) := fun i hi => by
    have := HC.out i (by have := HN.out; omega)
    exact ⟨(hB.cell (p := ⟨g, off + i * 2, none⟩) hg).trans this.1, (hB.cell (p := ⟨g, off + i * 2 + 1, none⟩) hg).trans this.2⟩
  have hst := round_stops 9 w.heap.size g off N cap (w1.heap.size + 1 + 1 + 1) (w1.heap.size + 1 + 1 + 1 + 1) (by decide) h r HN.out.symm hg p1 p3 hps.out HW.out W3 hB.size h1 hcm.out hcW hx1 hx2 (by omega)
  have hH0 : HoldW w.heap.size w w1.heap.size (w1.heap.size + 1) (w1.heap.size + 1 + 1) 0 [] W3 :=
    ⟨⟨_, hbi, ⟨rfl, .inl ⟨rfl, rfl⟩⟩⟩, hbm, ⟨_, hom, fun x _ => by simp [Maps.has]⟩, hB⟩
  have HST := hidD hst
  have HH0 := hidD hH0
  rw [← hW3]
  have hw3 := hB.size
  obtain ⟨i0, hi, hz0, hz1, hz2⟩ := info_parts Try.infoI
  clear c cR hmm hst hH0 hcW hx1 hx2 hom hbm hbi hb3 hW3 b1 HC
  refine wpIn_rangeFunc_ownG rfl (by decide : 1 ≤ 10) (gf := 55) (lb := #[.pointer (some ⟨w1.heap.size + 1 + 1 + 1, 0, none⟩), .pointer (some ⟨w1.heap.size + 1 + 1 + 1 + 1, 0, none⟩)]) rfl trivial (fun _ _ => rfl)
    HST.out kpW_t (kpW_b hw3) (Below.refl _ _) (fun _ => rfl)
    (fun pre X => HoldW w.heap.size w w1.heap.size (w1.heap.size + 1) (w1.heap.size + 1 + 1) pre.length (Rp.uniq (pre.map (·.1))) X) (fun _ _ _ => False) (HoldW.own (Nat.le_refl _) hw3 (by omega)) (fun _ _ _ _ _ hs _ _ => hs) HH0.out
    (fun x => { tmps := #[.slice (some ⟨g, off, none⟩) N cap, .int .u64 h, undef, undef, .slice none 0 0, .int .i64 0, .int .i64 0, .pointer (some ⟨w1.heap.size, 0, none⟩), .pointer (some ⟨w1.heap.size + 1 + 1, 0, none⟩), .int .i64 x.1, undef, undef, .slice (some ⟨g, off, none⟩) N cap, .int .i64 0, .int .i64 0, .bool false, undef, .map (some (w1.heap.size + 1)), .slice (some ⟨g, off, none⟩) N cap, .int .u64 h, .func (.func 55) #[] #[.pointer (some ⟨w1.heap.size + 1 + 1 + 1, 0, none⟩), .pointer (some ⟨w1.heap.size + 1 + 1 + 1 + 1, 0, none⟩)], .int .i64 x.1, undef, undef, undef, undef, undef, undef, undef, undef, undef, undef, undef, undef, undef, undef, undef, undef], defers := [] }) ?assign ?body ?done ?stop
  case assign =>
    intro ln x X K hK
    gi_wp2
    exact hK
  case body =>
    rintro ln pre x X hIX hlen
    obtain ⟨⟨v', bv, row⟩, bm, ⟨D, hown, hhas⟩, hBX⟩ := id hIX
    have cv := bv.cell
    have cm := bm.cell
    have hh := hhas x.1 x.2
    have hxs := hBX.size
    by_cases hin : x.1 ∈ Rp.uniq (pre.map (·.1))
    · rw [decide_eq_true hin] at hh
      gi_wp2_with (first | (gi_at_lookup; refine wpListIn_lookup_own_unit _ rfl _ _ 85 rfl 3 89 (Maps.int_keyed Try.underlying3) Try.underlying85 zero71 (w1.heap.size + 1) pre.length D rfl hown _ _ rfl (Maps.keyOf_int_mk Try.underlying3 x.2) ?_; rw [hh]))
      have hga := World.grownBy_alloc X (.cells #[] 89) none
      have hU : Rp.uniq ((pre ++ [x]).map (·.1)) = Rp.uniq (pre.map (·.1)) := by
        rw [List.map_append, List.map_cons, List.map_nil, Rp.uniq_snoc]
        exact if_pos hin
      refine ⟨(KeepsOthers.alloc _ _).from _, kpW_grown hga hxs (fun k e => by cases e) (fun k c f e => by cases e), ?_⟩
      show HoldW _ _ _ _ _ (pre ++ [x]).length (Rp.uniq ((pre ++ [x]).map (·.1))) _
      rw [hU, List.length_append]
      exact ⟨⟨v', bv.alloc _, row.alloc _⟩, bm.alloc _, ⟨D, (hown.alloc _).more (by simp), hhas⟩, hBX.alloc hxs _⟩
    · rw [decide_eq_false hin] at hh
      have hlenN : pre.length < N := hlen
      have hU : Rp.uniq ((pre ++ [x]).map (·.1)) = Rp.uniq (pre.map (·.1)) ++ [x.1] := by
        rw [List.map_append, List.map_cons, List.map_nil, Rp.uniq_snoc]
        exact if_neg hin
      have hUl : (Rp.uniq (pre.map (·.1))).length ≤ pre.length := by have := Rp.uniq_length (pre.map (·.1)); simpa using this
      have HU := hidD hU
      have hhas2 : ∀ y : Int, (Lit.int .i64 y).wf = true → Maps.has (D.put (.int .i64 x.1) (.agg [])) (.int .i64 y) = decide (y ∈ Rp.uniq (pre.map (·.1)) ++ [x.1]) := by
        intro y hy
        by_cases hyx : y = x.1
        · subst hyx
          rw [Maps.has_put_same hown.isMap (keyLit x.1)]
          simp
        · rw [Maps.has_put_other (fun e => hyx (by injection e)), hhas y hy]
          simp [hyx]
      have HH2 := hidD hhas2
      have HHAS := hidD hhas
      obtain ⟨M, hM⟩ : ∃ M, M = (Rp.uniq (pre.map (·.1))).length := ⟨_, rfl⟩
      rw [← hM] at row hUl
      have HM := hidD hM
      clear hU hhas2 hhas hM
      generalize hUU : Rp.uniq (pre.map (·.1)) = UU at *
      have HUU := hidD hUU
      clear hUU
      have cm2 := (bm.alloc (.cells #[] 89)).cell
      gi_wp2_with (first | (gi_at_lookup; refine wpListIn_lookup_own_unit _ rfl _ _ 85 rfl 3 89 (Maps.int_keyed Try.underlying3) Try.underlying85 zero71 (w1.heap.size + 1) pre.length D rfl hown _ _ rfl (Maps.keyOf_int_mk Try.underlying3 x.2) ?_; rw [hh]) | (gi_at_mapUpdate; refine wpListIn_mapUpdate_own _ rfl _ _ _ 85 rfl 3 89 (Maps.int_keyed Try.underlying3) Try.underlying85 unitElem (w1.heap.size + 1) pre.length D rfl (hown.alloc _) (by unfold maxLen; omega) _ _ _ rfl rfl (Maps.keyOf_int_mk Try.underlying3 x.2) (.agg []) [] unitElem_mk ?_; intro w6 hown6 hg6; have bv6 := (bv.alloc (.cells #[] 89)).kept hg6 (by simp); have bm6 := (bm.alloc (.cells #[] 89)).kept hg6 (by simp); have row6 := (row.alloc (.cells #[] 89)).kept hg6 (map_not_row hown.here row); have cv6 := bv6.cell; have hs6 : w.heap.size ≤ w6.heap.size := (by have := hg6.size; simp at this; omega)) | (gi_at_builtin; refine wpListIn_append_own _ rfl _ _ 55 rfl w.heap.size 3 i0 _ 1 8 Try.underlying55 hi hz0 hz1 hz2 rfl (by decide) _ _ _ rfl (row6.alloc _) ⟨w6.heap.size, 0, none⟩ 1 1 [.int .i64 x.1] rfl rfl (cells_one _ _ _) (by simp [Value.oneCell']) (by unfold maxLen; omega) (by omega) (by simp; omega) ?_; intro v2 w7 hown' hgrow hiff; obtain ⟨g', cap', rfl⟩ := ownsRow_succ hown'; obtain ⟨hv1, hv2, hr2, hk2, hb2⟩ := bv6.appended (by decide) row6 hs6 (by omega) hown' hgrow; have hc1 := hv1.cell; have hf1 := hv1.frozen))
      have hga := World.grownBy_alloc X (.cells #[] 89) none
      have hgT := World.grownBy_alloc w6 (.cells #[.int .i64 x.1] 3) none
      have hgS := grownBy_setCell' w7 w1.heap.size (.slice (some ⟨g', 0, none⟩) (M + 1) cap')
      have hgrow2 : (w6.alloc (.cells #[.int .i64 x.1] 3)).grownBy w7 v'.ownBlock := hgrow
      have hXa : (X.alloc (.cells #[] 89)).heap.size = X.heap.size + 1 := by simp
      have hbXZ : Below w.heap.size X (w7.setCell ⟨w1.heap.size, 0, none⟩ (.slice (some ⟨g', 0, none⟩) (M + 1) cap')) := (((Below.refl _ X).alloc hxs _).grown hg6 (by omega) (fun k e => by cases e; omega)).trans hb2
      have hmapZ : (w7.setCell ⟨w1.heap.size, 0, none⟩ (.slice (some ⟨g', 0, none⟩) (M + 1) cap')).ownsMap Try.prog 3 unitElem (w1.heap.size + 1) (pre.length + 1) (D.put (.int .i64 x.1) (.agg [])) := by
        refine ((hown6.alloc _).kept hgrow2 ?_).kept hgS (by simp)
        intro e
        rcases map_not_row hown6.here row6 with h | h
        · rw [h] at e; cases e
        · exact h e.symm
      have hbmZ : Boxed (w7.setCell ⟨w1.heap.size, 0, none⟩ (.slice (some ⟨g', 0, none⟩) (M + 1) cap')) (w1.heap.size + 1 + 1) 85 (.map (some (w1.heap.size + 1))) :=
        ((bm6.alloc _).kept hgrow2 (bm6.not_row (by decide) row6)).kept hgS (by simp; omega)
      refine ⟨((((KeepsOthers.alloc X (.cells #[] 89)).from _).trans (KeepsFrom.of_grownBy hg6 (fun j e => by cases e; omega))).trans (hk2.from _)), ⟨hbXZ, ?_⟩, ?_⟩
      · intro b c f hh2
        have hbl : b < X.heap.size := (Array.getElem?_eq_some_iff.1 hh2).1
        have e1 : w6.heap[b]? = some (.cells c 24 f) := by
          rw [hg6.block b (by omega) (fun e => ?_), heap_alloc_lt _ _ _ hbl]
          · exact hh2
          · obtain ⟨es, ck, h⟩ := hown.here
            have : b = w1.heap.size + 1 := by simpa using e
            subst this
            rw [h] at hh2
            cases hh2
        have hb6 : b < w6.heap.size := (Array.getElem?_eq_some_iff.1 e1).1
        rw [hgS.block b (by have := hgrow2.size; simp at this; omega) (fun e => ?_), hgrow2.block b (by simp; omega) (fun e => ?_), heap_alloc_lt _ _ _ hb6]
        · exact e1
        · rcases row6.2 with ⟨rfl, _⟩ | ⟨g2, cap2, cur, rfl, _, hgb, _⟩
          · cases e
          · have : b = g2 := by simpa [Value.ownBlock] using e
            subst this
            rw [hgb] at e1
            cases e1
        · have : b = w1.heap.size := by simpa using e
          subst this
          rw [show w6.heap[w1.heap.size]? = _ from bv6] at e1
          cases e1
      · show HoldW _ _ _ _ _ (pre ++ [x]).length (Rp.uniq ((pre ++ [x]).map (·.1))) _
        rw [HU.out, List.length_append]
        refine ⟨⟨_, hv2, ?_⟩, hbmZ, ⟨_, hmapZ, HH2.out⟩, hBX.trans hbXZ⟩
        have e1 : (UU ++ [x.1]).length = M + 1 := by rw [List.length_append, ← HM.out]; rfl
        rw [e1, show i64s (UU ++ [x.1]) = i64s UU ++ [.int .i64 x.1] from by simp [i64s]]
        exact hr2
  case done =>
    intro D xs X hD hxs hIX hdd
    obtain ⟨⟨v', bv, row⟩, _, _, hBX⟩ := hIX
    have hU : Rp.uniq (xs.map (·.1)) = Rp.walkL r h := by rw [HR.out, ← hxs]
    rw [hU] at row
    have cv := bv.cell
    have HROW := hidD row
    have HB := hidD hBX
    have hDg : v'.ownBlock = none ∨ v'.ownBlock ≠ some D := by
      rcases row.2 with ⟨rfl, _⟩ | ⟨g2, cap2, cur, rfl, _, hgb, _⟩
      · exact .inl rfl
      · refine .inr fun e => ?_
        have : g2 = D := by simpa [Value.ownBlock] using e
        subst this
        rw [hdd] at hgb
        cases hgb
    clear row hBX HH0 HST hxs
    gi_wp2
    refine ⟨by simp, .inl ⟨_, _, rfl, run_takeDeferred hdd, ?_⟩⟩
    have hrowZ := HROW.out.kept (grownBy_putObj' X D (.deferred none)) hDg
    refine ⟨_, results_tmp2 rfl _ _ _, _, rfl, Seg.own hrowZ, hrowZ, ?_⟩
    exact HB.out.trans (belowK_b (w := w) (Nat.le_refl _) X D _ _ (by omega) hdd rfl rfl)
  case stop =>
    intro D c pre X _ _ h _
    exact h.elim

theorem walk_bad (v : Value) (r : List Rp.Pt) (h : Int) (w : World) (hv : PSeg .u64 w v r) (hp : Rp.peopledE r ≠ 0) :
    Calls Try.prog 32 #[v, .int .u64 h] w fun e w' => e = .returned (.tuple #[.slice none 0 0, .int .i64 (Rp.peopledE r)]) ∧ Below w.heap.size w w' := by
  have c := peopled_any v r w hv
  have hb : (Rp.peopledE r != 0) = true := by simpa using hp
  obtain ⟨a, cap, rfl, -⟩ := hv
  generalize Rp.peopledE r = E at *
  generalize r.length = N at *
  go_enter Try.func32, Try.ntmps32
  go_wp2_with fail
  with_reducible refine c.mono ?_
  rintro e w1 ⟨rfl, b1⟩
  go_wp2
  refine bodyPost_ret (results_tmp2 rfl _ _ _) rfl ?_
  exact ⟨rfl, b1⟩

theorem walk_any (v : Value) (r : List Rp.Pt) (h : Int) (w : World) (hv : PSeg .u64 w v r) (hwf : ∀ p ∈ r, (Lit.int .i64 p.2).wf = true) :
    Calls Try.prog 32 #[v, .int .u64 h] w fun e w' => ∃ v', e = .returned (.tuple #[v', .int .i64 (Rp.peopledE r)]) ∧ Seg .i64 w' v' (Rp.walkL r h) ∧ w'.ownsRow w.heap.size 3 1 v' (Rp.walkL r h).length (i64s (Rp.walkL r h)) ∧ Below w.heap.size w w' := by
  by_cases hp : Rp.peopledE r = 0
  · rw [hp]
    exact callsIn_wide.1 (walk_in v r h w hv hp hwf)
  · have hl : Rp.walkL r h = [] := if_neg hp
    refine (walk_bad v r h w hv hp).mono ?_
    rintro e w' ⟨rfl, b⟩
    rw [hl]
    exact ⟨_, rfl, Seg.nil _ _, ⟨rfl, .inl ⟨rfl, rfl⟩⟩, b⟩
end Go.Proofs.Ytcpcnajifdicmaa
