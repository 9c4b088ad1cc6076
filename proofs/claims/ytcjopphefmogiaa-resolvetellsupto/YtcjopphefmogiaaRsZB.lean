/- resolve: the weights in a map. -/
import Derived.Test.YtcjopphefmogiaaRsZA
import Derived.Maps.OwnSet
import Derived.Maps.OwnIn
import Derived.Maps.OwnOps
namespace Go.Proofs.Ytcjopphefmogiaa
open Go.RowKit
set_option linter.unusedVariables false
set_option maxRecDepth 20000

theorem zeroI {w : World} : (zeroValue 3).run Try.prog w = .ok (.int .i64 0) w := by kernel_rfl
theorem keyLitW (x : Int) : WideAt.IsKeyLit (.int .i64 x) := by
  first | trivial | exact ⟨_, _, rfl⟩ | simp [WideAt.IsKeyLit]
theorem wf_in {n : Int} (h1 : 0 ≤ n) (h2 : n ≤ 1099511627776) : (Lit.int .i64 n).wf = true := by
  have e1 : IntKind.i64.min = -9223372036854775808 := rfl
  have e2 : IntKind.i64.max = 9223372036854775807 := rfl
  simp only [Lit.wf, Bool.and_eq_true, decide_eq_true_iff, e1, e2]
  omega
theorem lit_injI {a b : Int} (h : (DataW.lit (.int .i64 a) : DataW Unit) = .lit (.int .i64 b)) : a = b := by
  injection h with h
  injection h
theorem Rv.wt_next {l : List Rp.Pt} (h : Rv.Good l) (k : Nat) (hk : k < l.length) (y : Int) : Rv.wt (l.take (k + 1)) y = if (Rv.g l k).1 = y then (Rv.g l k).2 else Rv.wt (l.take k) y := by
  rw [Rv.g_at hk]
  have hu := h.up
  rw [List.pairwise_iff_getElem] at hu
  unfold Rv.wt
  rw [List.take_succ_eq_append_getElem hk, List.find?_append]
  by_cases e : l[k].1 = y
  · have hn : (l.take k).find? (fun b => decide (b.1 = y)) = none := by
      rw [List.find?_eq_none]
      intro x hx
      obtain ⟨j, hj, rfl⟩ := List.getElem_of_mem hx
      rw [List.length_take] at hj
      have := hu j k (by omega) hk (by omega)
      rw [List.getElem_take]
      simp only [decide_eq_true_eq]
      omega
    rw [hn, if_pos e, Option.none_or, List.find?_cons_of_pos (by simpa using e)]
  · rw [if_neg e, List.find?_cons_of_neg (by simpa using e), List.find?_nil, Option.or_none]
theorem Rv.wt_pos {l : List Rp.Pt} (h : Rv.Good l) (k : Nat) (hk : k < l.length) : (Rv.g l k).2 ≠ 0 := by
  rw [Rv.g_at hk]
  have := h.pos _ (List.getElem_mem hk)
  omega
theorem Rv.wt_wf {l : List Rp.Pt} (h : Rv.Good l) (k : Nat) (hk : k < l.length) : (Lit.int .i64 (Rv.g l k).1).wf = true ∧ (Lit.int .i64 (Rv.g l k).2).wf = true := by
  rw [Rv.g_at hk]
  have := h.pos _ (List.getElem_mem hk)
  exact ⟨wf_in (by omega) (by omega), wf_in (by omega) (by omega)⟩

/-- Weights in a map. -/
def MW (W : World) (b n : Nat) (l : List Rp.Pt) : Prop := ∃ D : DataW Unit, W.ownsMap Try.prog 3 (plainElem Try.prog 3) b n D ∧ ∀ y : Int, (Lit.int .i64 y).wf = true → Maps.has D (.int .i64 y) = !decide (Rv.wt l y = 0) ∧ D.atKey (.int .i64 y) (.lit (.int .i64 0)) = .lit (.int .i64 (Rv.wt l y))
theorem MW.kept {W W' : World} {b n : Nat} {l : List Rp.Pt} {row : Option Nat} (h : MW W b n l) (hg : W.grownBy W' row) (hne : some b ≠ row) : MW W' b n l := by
  obtain ⟨D, h1, h2⟩ := h
  exact ⟨D, h1.kept hg hne, h2⟩
theorem grown_belowW {W W' : World} (hb : Below W.heap.size W W') : W.grownBy W' none := ⟨hb.os, hb.tape, hb.output, hb.size, fun k hk _ => hb.block k hk⟩
theorem MW.below {W W' : World} {b n : Nat} {l : List Rp.Pt} (h : MW W b n l) (hb : Below W.heap.size W W') : MW W' b n l := h.kept (grown_belowW hb) (by simp)
theorem MW.lt {W : World} {b n : Nat} {l : List Rp.Pt} (h : MW W b n l) : b < W.heap.size := by
  obtain ⟨D, h1, _⟩ := h
  exact h1.lt
theorem MW.made (w : World) : MW (w.alloc (.map #[] 0)) w.heap.size 0 [] := ⟨_, World.ownsMap_made w Try.prog 3 (plainElem (H := Unit) Try.prog 3), fun x _ => ⟨by simp [Maps.has, Rv.wt], by rfl⟩⟩
theorem MW.put {W' : World} {b n : Nat} {l : List Rp.Pt} {D : DataW Unit} (hg : Rv.Good l) (k : Nat) (hk : k < l.length) {W : World} (h1 : W.ownsMap Try.prog 3 (plainElem Try.prog 3) b n D)
    (h2 : ∀ y : Int, (Lit.int .i64 y).wf = true → Maps.has D (.int .i64 y) = !decide (Rv.wt (l.take k) y = 0) ∧ D.atKey (.int .i64 y) (.lit (.int .i64 0)) = .lit (.int .i64 (Rv.wt (l.take k) y)))
    (h4 : W'.ownsMap Try.prog 3 (plainElem Try.prog 3) b (n + 1) (D.put (.int .i64 (Rv.g l k).1) (.lit (.int .i64 (Rv.g l k).2)))) : MW W' b (n + 1) (l.take (k + 1)) := by
  refine ⟨_, h4, fun y hy => ?_⟩
  rw [Rv.wt_next hg k hk y]
  by_cases e : (Rv.g l k).1 = y
  · rw [if_pos e]
    subst e
    rw [Maps.has_put_same h1.isMap (keyLitW _), Maps.atKey_put_same h1.isMap (keyLitW _), decide_eq_false (Rv.wt_pos hg k hk)]
    exact ⟨rfl, rfl⟩
  · rw [if_neg e, Maps.has_put_other (fun e2 => e (by injection e2 with _ e2; exact e2.symm)), Maps.atKey_put_other (fun e2 => e (by injection e2 with _ e2; exact e2.symm))]
    exact h2 y hy
/-- Looked up. -/
theorem wpList_look2 {ops : Array Oper} {rest : List Oper} {o : Oper} {a : Act} {Q : Exit → Act → World → Prop} (w : World) (hgd : o.guard = none) (m x : Operand)
    (hop : o.op = Op.lookup 66 m x true) (b n : Nat) (l : List Rp.Pt) (hm : a.eval m = .map (some b)) (h : MW w b n l) (y : Int) (hx : a.eval x = .int .i64 y) (hy : (Lit.int .i64 y).wf = true)
    (hK : wpList Try.prog ops Q rest (a.put o.dst (.tuple #[.int .i64 (Rv.wt l y), .bool (!decide (Rv.wt l y = 0))])) w) : wpList Try.prog ops Q (o :: rest) a w := by
  obtain ⟨D, h1, h2⟩ := h
  obtain ⟨r1, r2⟩ := h2 y hy
  refine wpList_lookup_own_ok_int w hgd m x 66 hop 3 3 .i64 (Maps.int_keyed Try.underlying3) Try.underlying66 Try.underlying3 zeroI b n D hm h1 _ _ hx (Maps.keyOf_int_mk Try.underlying3 hy) ?_
  intro c hat hwc
  rw [r2] at hat
  have := lit_injI hat
  subst this
  rw [r1]
  exact hK
theorem wpList_look1 {ops : Array Oper} {rest : List Oper} {o : Oper} {a : Act} {Q : Exit → Act → World → Prop} (w : World) (hgd : o.guard = none) (m x : Operand)
    (hop : o.op = Op.lookup 66 m x false) (b n : Nat) (l : List Rp.Pt) (hm : a.eval m = .map (some b)) (h : MW w b n l) (y : Int) (hx : a.eval x = .int .i64 y) (hy : (Lit.int .i64 y).wf = true)
    (hK : wpList Try.prog ops Q rest (a.put o.dst (.int .i64 (Rv.wt l y))) w) : wpList Try.prog ops Q (o :: rest) a w := by
  obtain ⟨D, h1, h2⟩ := h
  obtain ⟨r1, r2⟩ := h2 y hy
  refine wpList_lookup_own_int w hgd m x 66 hop 3 3 .i64 (Maps.int_keyed Try.underlying3) Try.underlying66 Try.underlying3 zeroI b n D hm h1 _ _ hx (Maps.keyOf_int_mk Try.underlying3 hy) ?_
  intro c hat hwc
  rw [r2] at hat
  have := lit_injI hat
  subst this
  exact hK
theorem run_makeMapW (n : Int) (w : World) : (Instr.makeMap 66 (some (.int .i64 n))).run Try.prog w = .ok (.map (some w.heap.size)) (w.alloc (.map #[] 0)) := by
  simp [Instr.makeMap, run_underlying Try.underlying66, asInt, asIntOf, Result.andThen]
set_option maxHeartbeats 4000000 in
theorem weights_any (r : Value) (v : Int) (l : List Rp.Pt) (w : World) (hs : BS w r l) (hgd : Rv.Good l) :
    Calls Try.prog 29 #[vS r v] w fun e w' => ∃ b, e = .returned (.map (some b)) ∧ w.heap.size ≤ b ∧ MW w' b l.length l ∧ Below w.heap.size w w' := by
  obtain ⟨W, hW, X, B, Z⟩ := box_one w [.int .i64 v, r] 24
  have M0 := hidD (MW.made W)
  have B0 := hidD (B.alloc (by omega : w.heap.size ≤ W.heap.size) (.map #[] 0))
  have X0 := hidD (X.below ((Below.refl W.heap.size W).alloc (Nat.le_refl _) (.map #[] 0)))
  have HV := hidD (fun (W : World) (b : Below w.heap.size w W) => hs.below b)
  have HG := hidD hgd
  have hfew := hgd.few
  have hmm := run_makeMapW
  obtain ⟨a, cap, rfl, h1, h2, _, _⟩ := id hs
  obtain ⟨n, hn⟩ : ∃ n, n = l.length := ⟨_, rfl⟩
  rw [← hn] at h1 HV hW X0 hfew ⊢
  unfold maxLen at h2
  replace hn := hidD hn
  obtain ⟨b, hb⟩ : ∃ b, b = w.heap.size := ⟨_, rfl⟩
  rw [← hb] at B0 HV X0 ⊢
  obtain ⟨m, hm⟩ : ∃ m, m = W.heap.size := ⟨_, rfl⟩
  have hbm : Hid (b < m) := hidD (by omega)
  rw [← hm] at M0
  have q0 := X0.out.cell 0 rfl
  have q1 := X0.out.cell 1 rfl
  have t0 := X.cell 0 rfl
  have t1 := X.cell 1 rfl
  rw [← hn.out, ← hb] at t1
  rw [← hb] at t0
  clear X B Z hs hgd
  go_enter Try.func29, Try.ntmps29
  go_upto_region 1 with fail
  rw [← hb, ← hW]
  clear hb hW
  go_wp2_with fail
  rw [← hm]
  replace hm := hidD hm
  clear t0 t1 q0 q1
  go_loopw [13] (fun i wr => ∃ k : Nat, k ≤ n ∧ i = .int .i64 k ∧ Hid (MW wr m k (l.take k) ∧ Below b w wr)) (fun i _ => n - (intOf i).toNat)
  case atStart => exact ⟨0, Nat.zero_le _, rfl, hidD ⟨by simpa using M0.out, B0.out⟩⟩
  case round =>
    clear M0 B0 hmm X0
    obtain ⟨k, hk, rfl, hJ⟩ := hrel
    obtain ⟨hc, hbl⟩ := hJ.out
    clear hJ
    have HC := hidD hc
    have HBL := hidD hbl
    by_cases hlt : k < n
    · obtain ⟨g, off, rfl, hg, hcell⟩ := BS.at (HV.out wr hbl) k (by have := hn.out; omega)
      obtain ⟨Q1, Q2⟩ := hcell k (by have := hn.out; omega)
      have hkl : k < l.length := by have := hn.out; omega
      obtain ⟨D, hown, hat⟩ := hc
      have HP := hidD (fun (W' : World) h4 => MW.put (W' := W') HG.out k hkl hown hat h4)
      have hw := Rv.wt_wf HG.out k hkl
      have hlm := hown.lt
      have HOW := hidD hown
      clear hcell hbl HC hat hown
      obtain ⟨x1, hx1⟩ : ∃ x, x = (Rv.g l k).1 := ⟨_, rfl⟩
      obtain ⟨x2, hx2⟩ : ∃ x, x = (Rv.g l k).2 := ⟨_, rfl⟩
      rw [← hx1] at Q1 HP hw
      rw [← hx2] at Q2 HP hw
      clear hx1 hx2
      have HW1 := hidD hw.1
      have HW2 := hidD hw.2
      clear hw hkl
      have HBW := hidD (show b ≤ wr.heap.size from (by have := hbm.out; omega))
      have hkm : k < maxLen := by unfold maxLen; omega
      clear hlm
      go_wp2_with (first | (at_mapUpdate; refine wpList_mapUpdate_own _ rfl _ _ _ 66 rfl 3 3 (Maps.int_keyed Try.underlying3) Try.underlying66 _ m k D rfl (HOW.out.alloc _) hkm _ _ _ rfl rfl (Maps.keyOf_int_mk Try.underlying3 HW1.out) (.lit (.int .i64 x2)) [] (plainElem_int Try.underlying3 HW2.out) ?_; intro w6 hown6 hg6; have HO6 := hidD hown6; have HG6 := hidD hg6; clear hown6 hg6))
      exact ⟨⟨k + 1, by omega, by go_num, hidD ⟨HP.out w6 HO6.out, (HBL.out.alloc HBW.out _).grown HG6.out (by rw [World.size_alloc]; have := HBW.out; omega) (fun j e => by cases e; have := hbm.out; omega)⟩⟩, by simp [intOf]; omega⟩
    · have hke : k = n := by omega
      have htk : l.take k = l := List.take_of_length_le (by have := hn.out; omega)
      rw [htk] at HC
      subst hke
      clear htk hc hbl
      go_wp2_with fail
      go_ret
      exact ⟨_, rfl, by have := hbm.out; omega, HC.out, HBL.out⟩
end Go.Proofs.Ytcjopphefmogiaa
