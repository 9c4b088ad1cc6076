/- timers: looked for by a function; the ids in a map; Check (the code's). -/
import Derived.Test.YtkamcjebihfdlaaTmN
import Derived.Maps.OwnSet
import Derived.Maps.OwnIn
import Derived.Maps.AppendAt
namespace Go.Proofs.Ytkamcjebihfdlaa
open Go.RowKit
set_option linter.unusedVariables false
set_option maxRecDepth 20000

theorem tany_take (f : Ti.T → Bool) (l : List Ti.T) (k : Nat) (h : k < l.length) : (l.take (k + 1)).any f = ((l.take k).any f || f (Ti.g l k)) := by
  rw [List.take_succ_eq_append_getElem h, List.any_append, ← Ti.g_at h]
  simp
theorem tany_at (f : Ti.T → Bool) (l : List Ti.T) (k : Nat) (h : k < l.length) (hf : f (Ti.g l k) = true) : l.any f = true := by
  rw [List.any_eq_true]
  rw [Ti.g_at h] at hf
  exact ⟨_, List.getElem_mem h, hf⟩
set_option maxHeartbeats 2000000 in
theorem idxT0 (ft : Nat) (hen : ∀ (args : Array Value) (w' : World), (callFunc ft args).run Try.prog w' = .ok (.enter ft args) w') (P : Ti.T → Bool) (v : Value) (l : List Ti.T) (w : World) (hv : TS w v l)
    (ht : ∀ (x : Ti.T) (W : World), x ∈ l → Below w.heap.size w W → Calls Try.prog ft #[vT x] W fun e w' => e = .returned (.bool (P x)) ∧ Below W.heap.size W w') :
    Calls Try.prog 44 #[v, .func (.func ft) #[] #[]] w fun e w' => ∃ r : Int, e = .returned (.int .i64 r) ∧ ((r = -1 ∧ l.any P = false) ∨ ∃ k : Nat, k < l.length ∧ r = (k : Int) ∧ P (Ti.g l k) = true ∧ (l.take k).any P = false) ∧ Below w.heap.size w w' := by
  have HV := hidD (fun (W : World) (b : Below w.heap.size w W) => hv.below b)
  obtain ⟨a, cap, rfl, h1, h2, _, _⟩ := id hv
  obtain ⟨N, hN⟩ : ∃ N, N = l.length := ⟨_, rfl⟩
  rw [← hN] at h1 HV ⊢
  unfold maxLen at h2
  have HN : Hid (N = l.length) := hN
  have HTT := hidD ht
  clear hN hv ht
  go_enter Try.func44, Try.ntmps44
  go_wp2_with fail
  go_loopw [8] (fun i wr => ∃ k : Nat, k ≤ N ∧ i = .int .i64 k ∧ Hid ((l.take k).any P = false ∧ Below w.heap.size w wr)) (fun i _ => N - (intOf i).toNat)
  case atStart => exact ⟨0, Nat.zero_le _, rfl, hidD ⟨by simp, Below.refl _ _⟩⟩
  case round =>
    obtain ⟨k, hk, rfl, hJ⟩ := hrel
    obtain ⟨hc, hbl⟩ := hJ.out
    clear hJ
    by_cases hlt : k < N
    · obtain ⟨g, off, rfl, hg, hcell⟩ := TS.at (HV.out wr hbl) k (by have := HN.out; omega)
      obtain ⟨Q1, Q2⟩ := hcell k (by have := HN.out; omega)
      have hb := HTT.out (Ti.g l k) wr (by rw [Ti.g_at (by have := HN.out; omega)]; exact List.getElem_mem _) hbl
      have HT := hidD (tany_take P l k (by have := HN.out; omega))
      have HX : Hid (P (Ti.g l k) = true → ∃ x, P (Ti.g l k) = x ∧ x = true) := hidD (fun h => ⟨_, rfl, h⟩)
      have HC := hidD hc
      have HBL := hidD hbl
      have HSW := hidD hbl.size
      clear hcell hc hbl HX
      obtain ⟨x, hx⟩ : ∃ x, x = Ti.g l k := ⟨_, rfl⟩
      rw [← hx] at Q1 Q2 hb HT
      obtain ⟨y, hy⟩ : ∃ y, y = P x := ⟨_, rfl⟩
      rw [← hy] at hb HT
      replace hx := hidD hx
      replace hy := hidD hy
      obtain ⟨xa, xi⟩ := x
      dsimp only at Q1 Q2 hb
      cases y
      · go_wp2_with fail
        with_reducible refine hb.mono ?_
        rintro e w2 ⟨rfl, b2⟩
        have hc2 := hidD (HT.out.trans (by rw [HC.out]))
        have b3 := hidD (below_on HBL.out HSW.out b2)
        clear hb b2 HT HC HBL HSW Q1 Q2
        go_wp2
        exact ⟨⟨k + 1, by omega, by go_num, hidD ⟨hc2.out, b3.out⟩⟩, by simp [intOf]; omega⟩
      · go_wp2_with fail
        with_reducible refine hb.mono ?_
        rintro e w2 ⟨rfl, b2⟩
        have b3 := hidD (below_on HBL.out HSW.out b2)
        clear hb b2 HT HBL HSW Q1 Q2
        go_wp2
        go_ret
        exact ⟨_, rfl, .inr ⟨k, hlt, rfl, by rw [← hx.out, ← hy.out], HC.out⟩, b3.out⟩
    · have hke : l.take k = l := List.take_of_length_le (by have := HN.out; omega)
      rw [hke] at hc
      have HC := hidD hc
      have HBL := hidD hbl
      clear hke hc hbl
      go_wp2
      go_ret
      exact ⟨_, rfl, .inl ⟨rfl, HC.out⟩, HBL.out⟩
set_option maxHeartbeats 2000000 in
theorem idxT1 (ft : Nat) (p : Addr) (hen : ∀ (args : Array Value) (w' : World), (callFunc ft args).run Try.prog w' = .ok (.enter ft args) w') (P : Ti.T → Bool) (v : Value) (l : List Ti.T) (w : World) (hv : TS w v l)
    (ht : ∀ (x : Ti.T) (W : World), x ∈ l → Below w.heap.size w W → Calls Try.prog ft #[vT x, .pointer (some p)] W fun e w' => e = .returned (.bool (P x)) ∧ Below W.heap.size W w') :
    Calls Try.prog 44 #[v, .func (.func ft) #[] #[.pointer (some p)]] w fun e w' => ∃ r : Int, e = .returned (.int .i64 r) ∧ ((r = -1 ∧ l.any P = false) ∨ ∃ k : Nat, k < l.length ∧ r = (k : Int) ∧ P (Ti.g l k) = true ∧ (l.take k).any P = false) ∧ Below w.heap.size w w' := by
  have HV := hidD (fun (W : World) (b : Below w.heap.size w W) => hv.below b)
  obtain ⟨a, cap, rfl, h1, h2, _, _⟩ := id hv
  obtain ⟨N, hN⟩ : ∃ N, N = l.length := ⟨_, rfl⟩
  rw [← hN] at h1 HV ⊢
  unfold maxLen at h2
  have HN : Hid (N = l.length) := hN
  have HTT := hidD ht
  clear hN hv ht
  go_enter Try.func44, Try.ntmps44
  go_wp2_with fail
  go_loopw [8] (fun i wr => ∃ k : Nat, k ≤ N ∧ i = .int .i64 k ∧ Hid ((l.take k).any P = false ∧ Below w.heap.size w wr)) (fun i _ => N - (intOf i).toNat)
  case atStart => exact ⟨0, Nat.zero_le _, rfl, hidD ⟨by simp, Below.refl _ _⟩⟩
  case round =>
    obtain ⟨k, hk, rfl, hJ⟩ := hrel
    obtain ⟨hc, hbl⟩ := hJ.out
    clear hJ
    by_cases hlt : k < N
    · obtain ⟨g, off, rfl, hg, hcell⟩ := TS.at (HV.out wr hbl) k (by have := HN.out; omega)
      obtain ⟨Q1, Q2⟩ := hcell k (by have := HN.out; omega)
      have hb := HTT.out (Ti.g l k) wr (by rw [Ti.g_at (by have := HN.out; omega)]; exact List.getElem_mem _) hbl
      have HT := hidD (tany_take P l k (by have := HN.out; omega))
      have HX : Hid (P (Ti.g l k) = true → ∃ x, P (Ti.g l k) = x ∧ x = true) := hidD (fun h => ⟨_, rfl, h⟩)
      have HC := hidD hc
      have HBL := hidD hbl
      have HSW := hidD hbl.size
      clear hcell hc hbl HX
      obtain ⟨x, hx⟩ : ∃ x, x = Ti.g l k := ⟨_, rfl⟩
      rw [← hx] at Q1 Q2 hb HT
      obtain ⟨y, hy⟩ : ∃ y, y = P x := ⟨_, rfl⟩
      rw [← hy] at hb HT
      replace hx := hidD hx
      replace hy := hidD hy
      obtain ⟨xa, xi⟩ := x
      dsimp only at Q1 Q2 hb
      cases y
      · go_wp2_with fail
        with_reducible refine hb.mono ?_
        rintro e w2 ⟨rfl, b2⟩
        have hc2 := hidD (HT.out.trans (by rw [HC.out]))
        have b3 := hidD (below_on HBL.out HSW.out b2)
        clear hb b2 HT HC HBL HSW Q1 Q2
        go_wp2
        exact ⟨⟨k + 1, by omega, by go_num, hidD ⟨hc2.out, b3.out⟩⟩, by simp [intOf]; omega⟩
      · go_wp2_with fail
        with_reducible refine hb.mono ?_
        rintro e w2 ⟨rfl, b2⟩
        have b3 := hidD (below_on HBL.out HSW.out b2)
        clear hb b2 HT HBL HSW Q1 Q2
        go_wp2
        go_ret
        exact ⟨_, rfl, .inr ⟨k, hlt, rfl, by rw [← hx.out, ← hy.out], HC.out⟩, b3.out⟩
    · have hke : l.take k = l := List.take_of_length_le (by have := HN.out; omega)
      rw [hke] at hc
      have HC := hidD hc
      have HBL := hidD hbl
      clear hke hc hbl
      go_wp2
      go_ret
      exact ⟨_, rfl, .inl ⟨rfl, HC.out⟩, HBL.out⟩
theorem containsT0 (ft : Nat) (hen : ∀ (args : Array Value) (w' : World), (callFunc ft args).run Try.prog w' = .ok (.enter ft args) w') (P : Ti.T → Bool) (v : Value) (l : List Ti.T) (w : World) (hv : TS w v l)
    (ht : ∀ (x : Ti.T) (W : World), x ∈ l → Below w.heap.size w W → Calls Try.prog ft #[vT x] W fun e w' => e = .returned (.bool (P x)) ∧ Below W.heap.size W w') :
    Calls Try.prog 40 #[v, .func (.func ft) #[] #[]] w fun e w' => e = .returned (.bool (l.any P)) ∧ Below w.heap.size w w' := by
  have c : Calls Try.prog 44 #[v, .func (.func ft) #[] #[]] w fun e w' => ∃ r : Int, e = .returned (.int .i64 r) ∧ decide (0 ≤ r) = l.any P ∧ Below w.heap.size w w' := (idxT0 ft hen P v l w hv ht).mono (by
    rintro e w' ⟨r, h1, h2, h3⟩
    refine ⟨r, h1, ?_, h3⟩
    rcases h2 with ⟨rfl, h2⟩ | ⟨k, hk, rfl, h2, _⟩
    · rw [h2]; rfl
    · rw [tany_at P l k hk h2]; exact decide_eq_true (by omega))
  clear ht hv
  generalize l.any P = b at *
  go_enter Try.func40, Try.ntmps40
  go_wp2_with fail
  with_reducible refine c.mono ?_
  rintro e w' ⟨r, rfl, hr, b1⟩
  subst hr
  go_wp2
  go_ret
  exact ⟨rfl, b1⟩

/-- A set of ints in a map. -/
def MS (W : World) (b n z : Nat) (U : List Int) : Prop := ∃ D : DataW Unit, W.ownsMap Try.prog 3 unitElem b n D ∧ (∀ x : Int, (Lit.int .i64 x).wf = true → Maps.has D (.int .i64 x) = decide (x ∈ U)) ∧ Maps.size D = z
theorem MS.kept {W W' : World} {b n z : Nat} {U : List Int} {row : Option Nat} (h : MS W b n z U) (hg : W.grownBy W' row) (hne : some b ≠ row) : MS W' b n z U := by
  obtain ⟨D, h1, h2, h3⟩ := h
  exact ⟨D, h1.kept hg hne, h2, h3⟩
theorem grown_of_below {W W' : World} (hb : Below W.heap.size W W') : W.grownBy W' none := ⟨hb.os, hb.tape, hb.output, hb.size, fun k hk _ => hb.block k hk⟩
theorem MS.below {W W' : World} {b n z : Nat} {U : List Int} (h : MS W b n z U) (hb : Below W.heap.size W W') : MS W' b n z U := h.kept (grown_of_below hb) (by simp)
theorem MS.lt {W : World} {b n z : Nat} {U : List Int} (h : MS W b n z U) : b < W.heap.size := by
  obtain ⟨D, h1, _⟩ := h
  exact h1.lt
def Ti.meet (U : List Int) (x : Int) : List Int := if x ∈ U then U else U ++ [x]
def Ti.uq (l : List Ti.T) : List Int := (l.map Ti.T.id').foldl Ti.meet []
theorem keyLitI (x : Int) : WideAt.IsKeyLit (.int .i64 x) := by
  first | trivial | exact ⟨_, _, rfl⟩ | simp [WideAt.IsKeyLit]
theorem zeroU {w : World} : (zeroValue 60).run Try.prog w = .ok (.agg #[]) w := by kernel_rfl
theorem run_makeMapT (w : World) : (w.alloc (.map #[] 0)).ownsMap Try.prog 3 (unitElem (H := Unit)) w.heap.size 0 (.map []) := World.ownsMap_made w Try.prog 3 unitElem
theorem MS.made (w : World) : MS (w.alloc (.map #[] 0)) w.heap.size 0 0 [] := ⟨_, run_makeMapT w, fun x _ => by simp [Maps.has], by simp [Maps.size]⟩
theorem ms_put {W W' : World} {b n : Nat} {U : List Int} {D : DataW Unit} {x : Int} (hx : (Lit.int .i64 x).wf = true) (h1 : W.ownsMap Try.prog 3 unitElem b n D) (h2 : ∀ x : Int, (Lit.int .i64 x).wf = true → Maps.has D (.int .i64 x) = decide (x ∈ U)) (h3 : Maps.size D = U.length)
    (h4 : W'.ownsMap Try.prog 3 unitElem b (n + 1) (D.put (.int .i64 x) (.agg []))) : MS W' b (n + 1) (Ti.meet U x).length (Ti.meet U x) := by
  refine ⟨_, h4, fun y hy => ?_, ?_⟩
  · by_cases e : y = x
    · subst e
      rw [Maps.has_put_same h1.isMap (keyLitI y)]
      unfold Ti.meet
      split
      · rename_i h; rw [decide_eq_true h]
      · simp
    · rw [Maps.has_put_other (fun e2 => e (by injection e2)), h2 y hy]
      unfold Ti.meet
      split
      · rfl
      · simp [e]
  · rw [Maps.size_put (h1.tidy (Maps.int_keyed Try.underlying3)), h2 x hx, h3]
    unfold Ti.meet
    by_cases e : x ∈ U
    · simp [e]
    · simp [e]
theorem ms_del {W W' : World} {b n : Nat} {U : List Int} {D : DataW Unit} {x : Int} (h2 : ∀ x : Int, (Lit.int .i64 x).wf = true → Maps.has D (.int .i64 x) = decide (x ∈ U))
    (h4 : W'.ownsMap Try.prog 3 unitElem b n (D.del (.int .i64 x))) : MS W' b n (Maps.size (D.del (.int .i64 x))) (U.filter fun y => decide (y ≠ x)) := by
  refine ⟨_, h4, fun y hy => ?_, rfl⟩
  by_cases e : y = x
  · subst e
    rw [Maps.has_del_same]
    simp
  · rw [Maps.has_del_other (fun e2 => e (by injection e2)), h2 y hy]
    simp [e]
theorem Ti.uq_mem (l : List Ti.T) (x : Int) : x ∈ Ti.uq l ↔ ∃ y ∈ l, y.id' = x := by
  have key : ∀ (m acc : List Int), x ∈ m.foldl Ti.meet acc ↔ x ∈ acc ∨ x ∈ m := by
    intro m
    induction m with
    | nil => intro acc; simp
    | cons y r ih =>
      intro acc
      rw [List.foldl_cons, ih]
      unfold Ti.meet
      split
      · rename_i h
        constructor
        · rintro (k | k)
          · exact .inl k
          · exact .inr (List.mem_cons_of_mem _ k)
        · rintro (k | k)
          · exact .inl k
          · rcases List.mem_cons.1 k with k | k
            · subst k; exact .inl h
            · exact .inr k
      · rw [List.mem_append, List.mem_singleton, List.mem_cons, or_assoc]
  unfold Ti.uq
  rw [key]
  simp
theorem Ti.uq_len (l : List Ti.T) : decide ((Ti.uq l).length < l.length) = !decide (l.map Ti.T.id').Nodup := by
  have key : ∀ (m acc : List Int), acc.Nodup → (m.foldl Ti.meet acc).length ≤ acc.length + m.length ∧ ((m.foldl Ti.meet acc).length = acc.length + m.length ↔ (acc ++ m).Nodup) := by
    intro m
    induction m with
    | nil => intro acc h; simp [h]
    | cons y r ih =>
      intro acc h
      rw [List.foldl_cons]
      by_cases e : y ∈ acc
      · have hm : Ti.meet acc y = acc := if_pos e
        rw [hm]
        obtain ⟨i1, i2⟩ := ih acc h
        refine ⟨by simp; omega, ⟨fun k => ?_, fun k => ?_⟩⟩
        · simp at k; omega
        · exfalso
          rw [List.nodup_append] at k
          exact k.2.2 y e y (by simp) rfl
      · have hm : Ti.meet acc y = acc ++ [y] := if_neg e
        rw [hm]
        have hn : (acc ++ [y]).Nodup := by
          rw [List.nodup_append]
          refine ⟨h, by simp, ?_⟩
          intro a ha b hb hab
          simp at hb
          subst hb hab
          exact e ha
        obtain ⟨i1, i2⟩ := ih (acc ++ [y]) hn
        rw [List.length_append, List.length_singleton] at i1 i2
        rw [List.append_assoc] at i2
        refine ⟨by simp; omega, ?_⟩
        rw [← i2.trans (by rfl : (acc ++ ([y] ++ r)).Nodup ↔ (acc ++ y :: r).Nodup)]
        simp
        omega
  obtain ⟨k1, k2⟩ := key (l.map Ti.T.id') [] List.nodup_nil
  simp only [List.length_nil, List.length_map, Nat.zero_add, List.nil_append] at k1 k2
  rw [show (l.map Ti.T.id').foldl Ti.meet [] = Ti.uq l from rfl] at k1 k2
  by_cases e : (l.map Ti.T.id').Nodup
  · have := k2.2 e
    rw [decide_eq_true e, decide_eq_false (show ¬ (Ti.uq l).length < l.length by omega)]; rfl
  · have : ¬ (Ti.uq l).length = l.length := fun h => e (k2.1 h)
    rw [decide_eq_false e, decide_eq_true (show (Ti.uq l).length < l.length by omega)]; rfl
theorem Ti.uq_next (l : List Ti.T) (k : Nat) (hk : k < l.length) : Ti.uq (l.take (k + 1)) = Ti.meet (Ti.uq (l.take k)) (Ti.g l k).id' := by
  unfold Ti.uq
  rw [List.take_succ_eq_append_getElem hk, List.map_append, List.foldl_append, ← Ti.g_at hk]
  rfl
theorem wf_i64 {n : Int} (h1 : 0 ≤ n) (h2 : n ≤ 1099511627776) : (Lit.int .i64 n).wf = true := by
  have e1 : IntKind.i64.min = -9223372036854775808 := rfl
  have e2 : IntKind.i64.max = 9223372036854775807 := rfl
  simp only [Lit.wf, Bool.and_eq_true, decide_eq_true_iff, e1, e2]
  omega
theorem Ti.wf_may {x : Ti.T} (h : Ti.may x = true) : (Lit.int .i64 x.id').wf = true := by
  unfold Ti.may at h
  simp only [Bool.and_eq_true, decide_eq_true_iff] at h
  exact wf_i64 (by omega) (by omega)
theorem run_makeMap_h (n : Int) (w : World) : (Instr.makeMap 57 (some (.int .i64 n))).run Try.prog w = .ok (.map (some w.heap.size)) (w.alloc (.map #[] 0)) := by
  simp [Instr.makeMap, run_underlying Try.underlying57, asInt, asIntOf, Result.andThen]
set_option maxHeartbeats 4000000 in
theorem ids_any (v : Value) (l : List Ti.T) (w : World) (hv : TS w v l) (hwf : ∀ x ∈ l, (Lit.int .i64 x.id').wf = true) (hl : l.length ≤ 1048576) :
    Calls Try.prog 28 #[v] w fun e w' => e = .returned (.map (some w.heap.size)) ∧ MS w' w.heap.size l.length (Ti.uq l).length (Ti.uq l) ∧ Below w.heap.size w w' := by
  have HV := hidD (fun (W : World) (b : Below w.heap.size w W) => hv.below b)
  have HWF := hidD hwf
  have hmm := run_makeMap_h
  have M0 := hidD (MS.made w)
  have B0 := hidD ((Below.refl w.heap.size w).alloc (Nat.le_refl _) (.map #[] 0))
  obtain ⟨a, cap, rfl, h1, h2, _, _⟩ := id hv
  obtain ⟨N, hN⟩ : ∃ N, N = l.length := ⟨_, rfl⟩
  rw [← hN] at h1 HV hl ⊢
  unfold maxLen at h2
  have HN : Hid (N = l.length) := hN
  clear hN hv hwf
  obtain ⟨b, hb⟩ : ∃ b, b = w.heap.size := ⟨_, rfl⟩
  rw [← hb] at M0 B0 HV ⊢
  go_enter Try.func28, Try.ntmps28
  go_wp2_with fail
  rw [← hb]
  replace hb := hidD hb
  go_loopw [11] (fun i wr => ∃ k : Nat, k ≤ N ∧ i = .int .i64 k ∧ Hid (MS wr b k (Ti.uq (l.take k)).length (Ti.uq (l.take k)) ∧ Below b w wr)) (fun i _ => N - (intOf i).toNat)
  case atStart => exact ⟨0, Nat.zero_le _, rfl, hidD ⟨by simpa [Ti.uq] using M0.out, B0.out⟩⟩
  case round =>
    clear M0 B0 hmm
    obtain ⟨k, hk, rfl, hJ⟩ := hrel
    obtain ⟨hc, hbl⟩ := hJ.out
    clear hJ
    have HC := hidD hc
    have HBL := hidD hbl
    by_cases hlt : k < N
    · obtain ⟨g, off, rfl, hg, hcell⟩ := TS.at (HV.out wr hbl) k (by have := HN.out; omega)
      obtain ⟨Q1, Q2⟩ := hcell k (by have := HN.out; omega)
      have hwx := HWF.out (Ti.g l k) (by rw [Ti.g_at (by have := HN.out; omega)]; exact List.getElem_mem _)
      have HU := hidD (Ti.uq_next l k (by have := HN.out; omega))
      obtain ⟨D, hown, hhas, hsz⟩ := hc
      obtain ⟨U, hU⟩ : ∃ U, U = Ti.uq (l.take k) := ⟨_, rfl⟩
      rw [← hU] at hhas hsz HU
      replace hhas := hidD hhas
      replace hsz := hidD hsz
      obtain ⟨x, hx⟩ : ∃ x, x = Ti.g l k := ⟨_, rfl⟩
      rw [← hx] at Q1 Q2 HU hwx
      clear hcell hbl HC hU
      replace hx := hidD hx
      obtain ⟨xa, xi⟩ := x
      dsimp only at Q1 Q2 hwx
      have HBW := hidD (show b ≤ wr.heap.size from (by have := HBL.out.size; have := hb.out; omega))
      have hkm : k < maxLen := by unfold maxLen; omega
      have HOW := hidD hown
      have HWX := hidD hwx
      clear hown hwx
      go_wp2_with (first | (at_mapUpdate; refine wpList_mapUpdate_own _ rfl _ _ _ 57 rfl 3 60 (Maps.int_keyed Try.underlying3) Try.underlying57 unitElem b k D rfl (HOW.out.alloc _) hkm _ _ _ rfl rfl (Maps.keyOf_int_mk Try.underlying3 HWX.out) (.agg []) [] unitElem_mk ?_; intro w6 hown6 hg6; have HO6 := hidD hown6; have HG6 := hidD hg6; clear hown6 hg6))
      exact ⟨⟨k + 1, by omega, by go_num, hidD ⟨by rw [HU.out]; exact ms_put HWX.out HOW.out hhas.out hsz.out HO6.out, (HBL.out.alloc HBW.out _).grown HG6.out (by rw [World.size_alloc]; have := HBW.out; omega) (fun j e => by cases e; exact Nat.le_refl _)⟩⟩, by simp [intOf]; omega⟩
    · have hke : k = N := by omega
      have htk : l.take k = l := List.take_of_length_le (by have := HN.out; omega)
      rw [htk] at HC
      subst hke
      clear htk hc hbl
      go_wp2_with fail
      go_ret
      exact ⟨rfl, HC.out, HBL.out⟩
end Go.Proofs.Ytkamcjebihfdlaa
