/- ring: the backends but one, put together. -/
import Derived.Test.YtcpcnajifdicmaaDJ
import Derived.Test.YtcpcnajifdicmaaRVp
namespace Go.Proofs.Ytcpcnajifdicmaa
open Go.RowKit Go.Sort Go.Shelf
attribute [local go_sem] Oper.semAt_some

def rowB (xs : List Rp.Pt) : List Value := xs.flatMap fun x => [.int .i64 x.1, .int .i64 x.2]
theorem rowB_append (xs ys : List Rp.Pt) : rowB (xs ++ ys) = rowB xs ++ rowB ys := by simp [rowB]
theorem rowB_length (xs : List Rp.Pt) : (rowB xs).length = xs.length * 2 := by
  induction xs with
  | nil => rfl
  | cons x r ih => simp only [rowB, List.flatMap_cons, List.length_append, List.length_cons, List.length_nil] at *; omega
theorem rowB_one (xs : List Rp.Pt) : ∀ u ∈ rowB xs, u.oneCell' = true := by
  intro u hu
  unfold rowB at hu
  rw [List.mem_flatMap] at hu
  obtain ⟨x, _, hx⟩ := hu
  simp at hx
  rcases hx with rfl | rfl <;> rfl
theorem rowB_at (xs : List Rp.Pt) (i : Nat) (h : i < xs.length) : (rowB xs)[i * 2]? = some (.int .i64 (xs.getD i (0, 0)).1) ∧ (rowB xs)[i * 2 + 1]? = some (.int .i64 (xs.getD i (0, 0)).2) := by
  induction xs generalizing i with
  | nil => simp at h
  | cons x r ih =>
    match i with
    | 0 => exact ⟨rfl, rfl⟩
    | i + 1 =>
      have := ih i (by simp at h; omega)
      rw [show (i + 1) * 2 = i * 2 + 2 by omega]
      exact this
theorem rowB_take (l : List Rp.Pt) (k j : Nat) (u : Value) (h : (rowB (l.take k))[j]? = some u) : (rowB l)[j]? = some u := by
  have hj : j < (rowB (l.take k)).length := (List.getElem?_eq_some_iff.1 h).1
  conv => lhs; rw [← List.take_append_drop k l, rowB_append]
  rw [List.getElem?_append_left hj]
  exact h
theorem rowB_drop (l : List Rp.Pt) (k j : Nat) (hk : k ≤ l.length) (u : Value) (h : (rowB (l.drop k))[j]? = some u) : (rowB l)[k * 2 + j]? = some u := by
  conv => lhs; rw [← List.take_append_drop k l, rowB_append]
  have e : (rowB (l.take k)).length = k * 2 := by rw [rowB_length, List.length_take]; omega
  rw [List.getElem?_append_right (by omega), e, Nat.add_sub_cancel_left]
  exact h
theorem rowB_cells {W : World} {g off : Nat} {l : List Rp.Pt} (h : ∀ i, i < l.length → W.cell? ⟨g, off + i * 2, none⟩ = some (.int .i64 (l.getD i (0, 0)).1) ∧ W.cell? ⟨g, off + i * 2 + 1, none⟩ = some (.int .i64 (l.getD i (0, 0)).2)) :
    ∀ j u, (rowB l)[j]? = some u → W.cell? ((⟨g, off, none⟩ : Addr).add j) = some u := by
  intro j u hj
  have hlt : j < (rowB l).length := (List.getElem?_eq_some_iff.1 hj).1
  rw [rowB_length] at hlt
  rw [add_plain]
  obtain ⟨c1, c2⟩ := h (j / 2) (by omega)
  obtain ⟨d1, d2⟩ := rowB_at l (j / 2) (by omega)
  rcases Nat.mod_two_eq_zero_or_one j with h0 | h0
  · have e : j = j / 2 * 2 := by omega
    rw [← e] at c1 d1
    rw [c1, ← d1, hj]
  · have e : j = j / 2 * 2 + 1 := by omega
    rw [← e] at d2
    rw [Nat.add_assoc, ← e] at c2
    rw [c2, ← d2, hj]
theorem tail_cells {W : World} {g off N cap K j : Nat} {l : List Rp.Pt} {u : Value} (h : ∀ j u, (rowB l)[j]? = some u → W.cell? ((⟨g, off, none⟩ : Addr).add j) = some u) (hj : (rowB (l.drop (K + 1)))[j]? = some u) (hN : N = l.length) (hcap : N ≤ cap) :
    W.cell? ((if cap = K + 1 then ⟨g, off, none⟩ else ⟨g, off + (K + 1) * 2, none⟩ : Addr).add j) = some u := by
  have hlt : j < (rowB (l.drop (K + 1))).length := (List.getElem?_eq_some_iff.1 hj).1
  rw [rowB_length, List.length_drop] at hlt
  rw [if_neg (by omega)]
  have := h _ u (rowB_drop l (K + 1) j (by omega) u hj)
  rw [add_plain] at this ⊢
  rw [Nat.add_assoc]
  exact this
theorem bseg_of_row {W : World} {n₀ : Nat} {v : Value} {d : List Rp.Pt} (h : W.ownsRow n₀ 76 2 v d.length (rowB d)) : PSeg .i64 W v d := by
  rcases h.2 with ⟨rfl, h0⟩ | ⟨g, cap, cur, rfl, _, hgb, hle, hmx, hsz, htk⟩
  · have : d = [] := List.length_eq_zero_iff.1 h0
    subst this
    exact PSeg.nil _ _
  · refine ⟨_, cap, rfl, hle, hmx, (fun h => by cases h), fun g' off ar ha h0 => ?_⟩
    cases ha
    refine ⟨rfl, (Array.getElem?_eq_some_iff.1 hgb).1, fun i hi => ?_⟩
    obtain ⟨d1, d2⟩ := rowB_at d i hi
    have key : ∀ j u, j < d.length * 2 → (rowB d)[j]? = some u → W.cell? ⟨g, 0 + j, none⟩ = some u := by
      intro j u hj hu
      rw [← htk, List.getElem?_take_of_lt hj, Array.getElem?_toList] at hu
      rw [Nat.zero_add]
      simp [World.cell?, hgb, hu]
    refine ⟨key _ _ (by omega) d1, ?_⟩
    rw [Nat.add_assoc]
    exact key _ _ (by omega) d2
theorem Try.infoB : (Try.prog.info? 76).map (fun i => (i.zero, i.size, i.bytes)) = some (some (.agg #[.int .i64 0, .int .i64 0]), 2, 16) := by kernel_rfl
theorem grown_refl (W : World) : W.grownBy W none := ⟨rfl, rfl, rfl, Nat.le_refl _, fun _ _ _ => rfl⟩

theorem run_tail (w : World) (g off N cap k : Nat) (h : k ≤ N) (_hc : N ≤ cap) : (Instr.sliceAt 52 (.slice (some ⟨g, off, none⟩) N cap) (some (.int .i64 (k : Int))) none none).run Try.prog w = .ok (.slice (some (if cap = k then ⟨g, off, none⟩ else ⟨g, off + k * 2, none⟩)) (N - k) (cap - k)) w := by
  go_simp
  split <;> rfl
theorem run_head (w : World) (g off N cap k : Nat) (h : k ≤ N) (hc : N ≤ cap) : (Instr.sliceAt 52 (.slice (some ⟨g, off, none⟩) N cap) none (some (.int .i64 (k : Int))) none).run Try.prog w = .ok (.slice (some ⟨g, off, none⟩) k cap) w := by
  have hk : ¬ cap < k := by omega
  go_simp
theorem run_slH {a : Act} {o : Oper} {s t : Nat} {w : World} {x y z : Value} (hop : o.op = .slice 52 (.tmp s) none (some (.tmp t)) none) (hs : a.eval (.tmp s) = x) (ht : a.eval (.tmp t) = y) (h : (Instr.sliceAt 52 x none (some y) none).run Try.prog w = .ok z w) : (execOp a.eval o).run Try.prog w = .ok (.value z) w := by
  simp [execOp, hop, hs, ht, h]
theorem run_slT {a : Act} {o : Oper} {s t : Nat} {w : World} {x y z : Value} (hop : o.op = .slice 52 (.tmp s) (some (.tmp t)) none none) (hs : a.eval (.tmp s) = x) (ht : a.eval (.tmp t) = y) (h : (Instr.sliceAt 52 x (some y) none none).run Try.prog w = .ok z w) : (execOp a.eval o).run Try.prog w = .ok (.value z) w := by
  simp [execOp, hop, hs, ht, h]
theorem run_add1 {a : Act} {o : Oper} {s : Nat} {w : World} {x z : Int} (hop : o.op = .binOp .add 3 (.tmp s) (.const (.int .i64 1)) 3) (hs : a.eval (.tmp s) = .int .i64 x) (hz : IntKind.i64.wrap (x + 1) = z) : (execOp a.eval o).run Try.prog w = .ok (.value (.int .i64 z)) w := by
  rw [← hz]
  have hc : a.eval (.const (.int .i64 1)) = .int .i64 1 := rfl
  simp only [execOp, hop, hs, hc]
  go_simp
theorem run_app {a : Act} {o : Oper} {s t : Nat} {w w' : World} {x y z : Value} (hop : o.op = .call { callee := .builtin .append, args := #[.tmp s, .tmp t], argTypes := #[52, 52] }) (hs : a.eval (.tmp s) = x) (ht : a.eval (.tmp t) = y) (h : (Builtin.append_ #[52, 52] o.type #[x, y]).run Try.prog w = .ok z w') : (execOp a.eval o).run Try.prog w = .ok (.value z) w' := by
  simp [execOp, hop, resolve, invoke, builtin, hs, ht, h, Result.andThen]
end Go.Proofs.Ytcpcnajifdicmaa
