/- draw: Below, of both. -/
import Derived.Test.YtekldjfmdapgpaaDC
namespace Go.Proofs.Ytekldjfmdapgpaa
open Go.RowKit
set_option maxRecDepth 20000

/-- append of numbers onto a row of the call's own. -/
theorem wpList_append_ints {ops : Array Oper} {rest : List Oper} {o : Oper} {a : Act} {Q : Exit → Act → World → Prop} (w : World) (hgd : o.guard = none) (s x : Operand)
    (ho : o.op = .call { callee := .builtin .append, args := #[s, x], argTypes := #[35, 35] }) (B : Nat) (v u : Value) (l m : List Int) (hs : a.eval s = v) (hown : w.ownsRow B 3 1 v l.length (i64s l)) (hx : a.eval x = u) (hu : Seg .i64 w u m)
    (hlen : l.length + m.length ≤ 17592186044416) (hB : B ≤ w.heap.size)
    (h : ∀ v' w', w'.ownsRow B 3 1 v' (l ++ m).length (i64s (l ++ m)) → Below B w w' → w.grownBy w' v.ownBlock → wpList Try.prog ops Q rest (a.put o.dst v') w') : wpList Try.prog ops Q (o :: rest) a w := by
  obtain ⟨i0, hi, hz0, hz1, hz2⟩ := info_parts Try.info3
  obtain ⟨ao, cap, rfl, h1, h2, h3, h4⟩ := hu
  rcases ao with _ | y
  · obtain ⟨rfl, rfl⟩ := h3 rfl
    refine wpList_append_own_none hgd s x 35 ho B 3 i0 1 Try.underlying35 hi v l.length (i64s l) hs hown hx ?_
    refine h v w ?_ (Below.refl _ _) (grownBy_refl _ _)
    rw [List.append_nil]
    exact hown
  · refine wpList_append_own w hgd s x 35 ho B 3 i0 (.int .i64 0) 1 8 Try.underlying35 hi hz0 hz1 hz2 rfl (by decide) v l.length (i64s l) hs hown y m.length cap (i64s m) hx (by simp) (map_cells fun i hi => h4 y rfl i hi) map_one (by unfold maxLen; omega) (by omega) hB ?_
    intro v' w' ho' hg _
    refine h v' w' ?_ ((Below.refl _ _).grown hg hB (fun k hk => (hown.lt k hk).1)) hg
    rw [← List.map_append] at ho'
    rw [List.length_append]
    exact ho'
theorem seg_one (w : World) (z : Int) : Seg .i64 (w.alloc (.cells #[.int .i64 z] 3)) (.slice (some ⟨w.heap.size, 0, none⟩) 1 1) [z] := seg_new w [z] 3 (by simp)

/-- Numbers drawn below those of a list. -/
def bel (s : Nat) (l : List Int) : List Int := (Hp.belows s (l.map Int.toNat)).map Int.ofNat
theorem bel_length (s : Nat) (l : List Int) : (bel s l).length = l.length := by unfold bel; rw [List.length_map, Hp.belows_length, List.length_map]
theorem bel_get (s : Nat) (l : List Int) (hs : s < 18446744073709551616) (i : Nat) (h : i < l.length) : (bel s l)[i]? = some (Hp.one (Hp.skip s i) (l.getD i 0).toNat : Int) := by
  unfold bel
  rw [List.getElem?_map, Hp.belows_get _ _ _ (by simpa using h) hs]
  simp [List.getD, h]
theorem bel_rows (s : Nat) (l : List Int) (hs : s < 18446744073709551616) (ys : List Value) (hy : ys.length = l.length) (h : ∀ j, j < l.length → ys[j]? = some (.int .i64 (Hp.one (Hp.skip s j) (l.getD j 0).toNat : Nat))) : ys = i64s (bel s l) := by
  apply List.ext_getElem?
  intro j
  by_cases hj : j < l.length
  · rw [h j hj, List.getElem?_map, bel_get s l hs j hj]
    rfl
  · rw [List.getElem?_eq_none (by omega), List.getElem?_eq_none (by rw [List.length_map, bel_length]; omega)]
theorem good_at {l : List Int} (h : l.any badB = false) (k : Nat) (hk : k < l.length) : 1 ≤ l.getD k 0 ∧ l.getD k 0 ≤ 1048576 := by
  rw [List.any_eq_false] at h
  have := h (l.getD k 0) (by rw [dgetD_at hk]; exact List.getElem_mem _)
  unfold badB at this
  generalize l.getD k 0 = x at *
  simp at this
  omega

theorem bel_snoc (s : Nat) (l : List Int) (hs : s < 18446744073709551616) (k : Nat) (h : k < l.length) : bel s (l.take (k + 1)) = bel s (l.take k) ++ [(Hp.one (Hp.skip s k) (l.getD k 0).toNat : Int)] := by
  unfold bel
  rw [List.take_succ_eq_append_getElem h, List.map_append, List.map_cons, List.map_nil, Hp.belows_snoc _ _ _ hs, List.map_append, dgetD_at h, List.length_map, List.length_take, Nat.min_eq_left (by omega)]
  rfl

end Go.Proofs.Ytekldjfmdapgpaa
