/- choice: rows of loads of one's own; Clone, own. -/
import Derived.Test.YtcpcnajifdicmaaC4
import Derived.Lib.SliceRun
namespace Go.Proofs.Ytcpcnajifdicmaa
open Go.RowKit Go.Sort
set_option linter.unusedVariables false
set_option maxRecDepth 20000

def rowL (xs : List Rp.Pt) : List Value := xs.flatMap fun x => [.int .i64 x.1, .int .i64 x.2]
theorem rowL_append (xs ys : List Rp.Pt) : rowL (xs ++ ys) = rowL xs ++ rowL ys := by simp [rowL]
theorem rowL_length (xs : List Rp.Pt) : (rowL xs).length = xs.length * 2 := by
  induction xs with
  | nil => rfl
  | cons x r ih => simp only [rowL, List.flatMap_cons, List.length_append, List.length_cons, List.length_nil] at *; omega
theorem rowL_get (xs : List Rp.Pt) (i : Nat) (h : i < xs.length) : (rowL xs)[i * 2]? = some (.int .i64 (xs.getD i (0, 0)).1) ∧ (rowL xs)[i * 2 + 1]? = some (.int .i64 (xs.getD i (0, 0)).2) := by
  induction xs generalizing i with
  | nil => simp at h
  | cons x r ih =>
    match i with
    | 0 => exact ⟨rfl, rfl⟩
    | i + 1 =>
      have := ih i (by simp at h; omega)
      rw [show (i + 1) * 2 = i * 2 + 2 by omega]
      exact this
theorem rowL_set2 (xs : List Rp.Pt) (m : Nat) (y : Int) (h : m < xs.length) : rowL (xs.set m ((xs.getD m (0, 0)).1, y)) = (rowL xs).set (m * 2 + 1) (.int .i64 y) := by
  induction xs generalizing m with
  | nil => simp at h
  | cons x r ih =>
    match m with
    | 0 => rfl
    | m + 1 =>
      have := ih m (by simp at h; omega)
      rw [show (m + 1) * 2 + 1 = (m * 2 + 1) + 2 by omega]
      show [Value.int .i64 x.1, .int .i64 x.2] ++ rowL (r.set m ((r.getD m (0, 0)).1, y)) = _
      rw [this]
      rfl
theorem rowL_one (xs : List Rp.Pt) : ∀ u ∈ rowL xs, u.oneCell' = true := by
  intro u hu
  obtain ⟨x, _, h⟩ := List.mem_flatMap.1 hu
  simp only [List.mem_cons, List.not_mem_nil, or_false] at h
  rcases h with rfl | rfl <;> rfl
theorem rowL_cells {k : IntKind} {w : World} {g off : Nat} {l : List Rp.Pt} (hc : ∀ i, i < l.length → w.cell? ⟨g, off + i * 2, none⟩ = some (.int .i64 (l.getD i (0, 0)).1) ∧ w.cell? ⟨g, off + i * 2 + 1, none⟩ = some (.int .i64 (l.getD i (0, 0)).2)) :
    ∀ j u, (rowL l)[j]? = some u → w.cell? ⟨g, off + j, none⟩ = some u := by
  intro j u hj
  have hlt : j < l.length * 2 := by rw [← rowL_length]; exact (List.getElem?_eq_some_iff.1 hj).1
  obtain ⟨h1, h2⟩ := hc (j / 2) (by omega)
  obtain ⟨r1, r2⟩ := rowL_get l (j / 2) (by omega)
  rcases Nat.mod_two_eq_zero_or_one j with h | h
  · have e : j / 2 * 2 = j := by omega
    rw [e] at h1 r1
    rw [h1, ← hj, r1]
  · have e : j / 2 * 2 + 1 = j := by omega
    rw [e] at r2
    rw [Nat.add_assoc, e] at h2
    rw [h2, ← hj, r2]
theorem pseg_of_rowL {W : World} {n₀ : Nat} {v : Value} {d : List Rp.Pt} (h : W.ownsRow n₀ 49 2 v d.length (rowL d)) : PSeg .i64 W v d := by
  have hx := h
  rcases h.2 with ⟨rfl, h0⟩ | ⟨g, cap, cur, rfl, _, hgb, hle, hmx, hsz, htk⟩
  · have : d = [] := List.length_eq_zero_iff.1 h0
    subst this
    exact PSeg.nil _ _
  · refine ⟨_, cap, rfl, hle, hmx, (fun h => by cases h), fun g' off ar ha h0 => ?_⟩
    cases ha
    refine ⟨rfl, (Array.getElem?_eq_some_iff.1 hgb).1, fun i hi => ?_⟩
    obtain ⟨r1, r2⟩ := rowL_get d i hi
    rw [Nat.zero_add]
    exact ⟨by rw [hx.cellAt (i * 2) (by omega)]; exact r1, by rw [hx.cellAt (i * 2 + 1) (by omega)]; exact r2⟩
theorem Try.infoL : (Try.prog.info? 49).map (fun i => (i.zero, i.size, i.bytes)) = some (some (.agg #[.int .i64 0, .int .i64 0]), 2, 16) := by kernel_rfl
theorem lown_below {W W' : World} {n₀ : Nat} {e : TypeId} {s : Nat} {v : Value} {k : Nat} {xs : List Value} (h : W.ownsRow n₀ e s v k xs) (hb : Below W.heap.size W W') : W'.ownsRow n₀ e s v k xs :=
  h.kept ⟨hb.os, hb.tape, hb.output, hb.size, fun k hk _ => hb.block k hk⟩ (row := none) (by cases hv : v.ownBlock <;> simp)

set_option maxHeartbeats 2000000 in
theorem lclone_some (g off cap : Nat) (l : List Rp.Pt) (w : World) (h1 : l.length ≤ cap) (h2 : cap ≤ maxLen) (hz : l.length ≤ 8796093022208) (hc : ∀ i, i < l.length → w.cell? ⟨g, off + i * 2, none⟩ = some (.int .i64 (l.getD i (0, 0)).1) ∧ w.cell? ⟨g, off + i * 2 + 1, none⟩ = some (.int .i64 (l.getD i (0, 0)).2)) :
    Calls Try.prog 39 #[.slice (some ⟨g, off, none⟩) l.length cap] w fun e w' => ∃ v', e = .returned v' ∧ w'.ownsRow w.heap.size 49 2 v' l.length (rowL l) ∧ Below w.heap.size w w' := by
  obtain ⟨i0, hi, hz0, hz1, hz2⟩ := info_parts Try.infoL
  have HC := hidD (rowL_cells (k := .i64) hc)
  clear hc
  have q22 : ∀ (w : World) (a : Option Addr) (n c n' c' : Nat), (binOp .eql 23 (.slice a n c) (.slice none n' c')).run Try.prog w = .ok (.bool a.isNone) w := fun w a n c n' c' => Lib.run_eql_slice_nil w _ _ a n c n' c' Try.underlying23
  go_enter Try.func39, Try.ntmps39
  go_wp2_with (at_builtin; refine wpList_append_own _ rfl _ _ 23 rfl w.heap.size 49 i0 (.agg #[.int .i64 0, .int .i64 0]) 2 16 Try.underlying23 hi hz0 hz1 hz2 rfl (by decide) _ _ _ rfl (World.ownsRow_made w #[] 0 (Nat.le_refl _) (Nat.zero_le _) (by simp)) ⟨g, off, none⟩ l.length cap (rowL l) rfl ?qc1 ?qc2 ?qc3 ?qc4 ?qc5 ?qc6 ?_)
  case qc1 => exact rowL_length l
  case qc2 =>
    intro j u hj
    rw [Addr.add_lit]
    exact Lib.cell?_alloc_some _ (HC.out j u hj)
  case qc3 => exact rowL_one l
  case qc4 => unfold maxLen; omega
  case qc5 => omega
  case qc6 => simp
  intro v' w1 hown hgrow hnil
  go_wp2
  go_ret
  refine ⟨v', rfl, by simpa using hown, ?_⟩
  exact ((Below.refl _ w).alloc (Nat.le_refl _) _).grown hgrow (by simp) (by intro k hk; simp [Value.ownBlock] at hk; omega)
theorem lclone_any (v : Value) (l : List Rp.Pt) (w : World) (hv : PSeg .i64 w v l) (h0 : 0 < l.length) (hz : l.length ≤ 8796093022208) :
    Calls Try.prog 39 #[v] w fun e w' => ∃ v', e = .returned v' ∧ w'.ownsRow w.heap.size 49 2 v' l.length (rowL l) ∧ Below w.heap.size w w' := by
  obtain ⟨g, off, cap, rfl, h1, h2, hg, hcell⟩ := pseg_cell hv h0
  exact lclone_some g off cap l w h1 h2 hz hcell

set_option maxHeartbeats 2000000 in
theorem low_some (g off cap : Nat) (l : List Rp.Pt) (w : World) (h1 : l.length ≤ cap) (h2 : cap ≤ maxLen) (hz : l.length ≤ 8796093022208) (hc : ∀ i, i < l.length → w.cell? ⟨g, off + i * 2, none⟩ = some (.int .i64 (l.getD i (0, 0)).1) ∧ w.cell? ⟨g, off + i * 2 + 1, none⟩ = some (.int .i64 (l.getD i (0, 0)).2)) :
    Calls Try.prog 9 #[.slice (some ⟨g, off, none⟩) l.length cap] w fun e w' => ∃ v', e = .returned v' ∧ w'.ownsRow w.heap.size 49 2 v' l.length (rowL l) ∧ Below w.heap.size w w' := by
  obtain ⟨i0, hi, hz0, hz1, hz2⟩ := info_parts Try.infoL
  have HC := hidD (rowL_cells (k := .i64) hc)
  clear hc
  go_enter Try.func9, Try.ntmps9
  go_wp2_with (at_builtin; refine wpList_append_own _ rfl _ _ 23 rfl w.heap.size 49 i0 (.agg #[.int .i64 0, .int .i64 0]) 2 16 Try.underlying23 hi hz0 hz1 hz2 rfl (by decide) _ _ _ rfl (World.ownsRow_nil _ _ _ _) ⟨g, off, none⟩ l.length cap (rowL l) rfl ?qc1 ?qc2 ?qc3 ?qc4 ?qc5 ?qc6 ?_)
  case qc1 => exact rowL_length l
  case qc2 =>
    intro j u hj
    rw [Addr.add_lit]
    exact HC.out j u hj
  case qc3 => exact rowL_one l
  case qc4 => unfold maxLen; omega
  case qc5 => omega
  case qc6 => exact Nat.le_refl _
  intro v' w1 hown hgrow hnil
  go_wp2
  go_ret
  refine ⟨v', rfl, by simpa using hown, ?_⟩
  exact (Below.refl _ w).grown hgrow (Nat.le_refl _) (by intro k hk; simp [Value.ownBlock] at hk)
end Go.Proofs.Ytcpcnajifdicmaa
