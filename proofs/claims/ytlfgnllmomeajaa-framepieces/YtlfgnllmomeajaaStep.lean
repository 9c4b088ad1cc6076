/- Texts put behind texts, in a region that draws its order; pieces fed one behind the other. -/
import Derived.Test.YtlfgnllmomeajaaLA
import Derived.Deep.AppendLies
import Derived.Deep.RegionLaw
namespace Go.Proofs.Ytlfgnllmomeajaa
open Go.RowKit

theorem run_append_pays (w : World) (ty : TypeId) (Q R : Nat → Prop) (v u : Value) (ls ms : List (List Int)) (ys : List Value) (hv : Pays Q w v ls) (hu : Reads w u ys) (hy : Elems R w ys ms)
    (hQ : ∀ k, Q k → k < w.heap.size) (hR : ∀ k, R k → k < w.heap.size ∧ v.ownBlock ≠ some k) (hlen : ls.length + ms.length ≤ 5864062014805) :
    ∃ v' w', (Builtin.append_ #[33, 33] ty #[v, u]).run Try.prog w = .ok v' w' ∧ Pays (fun k => Q k ∨ R k ∨ (w.heap.size ≤ k ∧ k < w'.heap.size)) w' v' (ls ++ ms) ∧ w.grownBy w' v.ownBlock ∧ Moved w v v' := by
  obtain ⟨vs, h1, h2, h3⟩ := hv
  obtain ⟨i0, hi, hz0, hz1, hz2⟩ := info_parts Try.info22
  obtain ⟨v', w', hr, hP, hg, hm⟩ := run_append_part (P := Try.prog) w 33 ty 22 i0 (.slice none 0 0) 24 Try.underlying33 hi hz0 hz1 hz2 rfl v u vs ys h1 hu hy.oneCell (by rw [h3.1, hy.1]; unfold maxLen; omega) (by rw [h3.1, hy.1]; omega)
  refine ⟨v', w', hr, ⟨vs ++ ys, hP, fun k hk => ?_, ?_⟩, hg, hm⟩
  · rcases hm with hm | ⟨j, hm, hj⟩
    · exact .inl (h2 k (by rw [← hm]; exact hk))
    · rw [hk] at hm
      cases hm
      exact .inr (.inr ⟨hj, hP.lt _ hk⟩)
  · have hne : ∀ k, k < w.heap.size → v.ownBlock ≠ some k → v'.ownBlock ≠ some k := by
      intro k hk hn he
      rcases hm with hm | ⟨j, hm, hj⟩
      · exact hn (by rw [← hm]; exact he)
      · rw [he] at hm
        cases hm
        omega
    exact Elems.append ((h3.kept hg fun k hk => hk.2).mono fun k hk => ⟨.inl hk.1, hne k (hQ k hk.1) hk.2⟩) ((hy.kept hg fun k hk => (hR k hk).2).mono fun k hk => ⟨.inr (.inl hk), hne k (hR k hk).1 (hR k hk).2⟩)

theorem step_append_pays {ops : Array Oper} {o : Oper} {a : Act} {K : Act → World → Prop} {T : Exit → Act → World → Prop} {E : Prop} (w : World) (hgd : o.guard = none) (s x : Operand)
    (ho : o.op = .call { callee := .builtin .append, args := #[s, x], argTypes := #[33, 33] }) (Q R : Nat → Prop) (v u : Value) (ls ms : List (List Int)) (ys : List Value) (hs : a.eval s = v) (hx : a.eval x = u) (hv : Pays Q w v ls) (hu : Reads w u ys) (hy : Elems R w ys ms)
    (hQ : ∀ k, Q k → k < w.heap.size) (hR : ∀ k, R k → k < w.heap.size ∧ v.ownBlock ≠ some k) (hlen : ls.length + ms.length ≤ 5864062014805)
    (h : ∀ v' w', Pays (fun k => Q k ∨ R k ∨ (w.heap.size ≤ k ∧ k < w'.heap.size)) w' v' (ls ++ ms) → w.grownBy w' v.ownBlock → Moved w v v' → K (a.put o.dst v') w') :
    if Region.wanted o (yielded ops a.tmps) = true then Oper.wp Try.prog o a w K T else E := by
  have hw : Region.wanted o (yielded ops a.tmps) = true := by simp [Region.wanted, hgd]
  rw [if_pos hw]
  obtain ⟨v', w', hr, r1, r2, r3⟩ := run_append_pays w o.type Q R v u ls ms ys hv hu hy hQ hR hlen
  unfold Oper.wp
  simp [execOp, ho, resolve, invoke, builtin, hs, hx, hr, Result.andThen]
  exact h v' w' r1 r2 r3

/-- Fed from nothing told yet, and what was told put ahead. -/
theorem Pl.fd_from (H p : List Int) (L : Bool) (P : List (List Int)) (f : Int) (hf : f ≠ 0 → L = true) :
    Pl.fd (H, L, P, f) p = ((Pl.fd (H, L, [], 0) p).1, (Pl.fd (H, L, [], 0) p).2.1, P ++ (Pl.fd (H, L, [], 0) p).2.2.1, if f = 0 then (Pl.fd (H, L, [], 0) p).2.2.2 else f) := by
  unfold Pl.fd
  cases L with
  | true =>
    simp only [if_true]
    by_cases h0 : f = 0
    · subst h0
      simp
    · simp [h0]
  | false =>
    have h0 : f = 0 := by
      by_cases h : f = 0
      · exact h
      · exact absurd (hf h) (by simp)
    subst h0
    simp only [Bool.false_eq_true, if_false]
    split
    · simp
    · simp
/-- What a buffer that may be becomes may be. -/
theorem Pl.fd_check (H p : List Int) (L : Bool) (ho : Pl.Octs H) (hp : Pl.Octs p) (h : Pl.checkF H L = 0) :
    Pl.checkF (Pl.fd (H, L, [], 0) p).1 (Pl.fd (H, L, [], 0) p).2.1 = 0 ∧ ((Pl.fd (H, L, [], 0) p).2.2.2 ≠ 0 → (Pl.fd (H, L, [], 0) p).2.1 = true) := by
  unfold Pl.fd
  cases L with
  | true => simpa using h
  | false =>
    simp only [Bool.false_eq_true, if_false]
    by_cases he : (Pl.scanF (H ++ p)).2.2 = 0
    · rw [if_pos he]
      simp only [ne_eq, not_true_eq_false, Bool.false_eq_true, imp_self, and_true]
      have hoa := Pl.octs_app ho hp
      obtain ⟨_, h2⟩ := Pl.scanF_rest (H ++ p) hoa he
      have h3 := Pl.getF_none_len _ (Pl.octs_drop hoa _) h2
      unfold Pl.checkF
      rw [if_neg]
      rintro (g | g | g)
      · omega
      · simp at g
      · exact g h2
    · rw [if_neg he]
      refine ⟨?_, fun _ => rfl⟩
      unfold Pl.checkF
      rw [if_neg]
      rintro (g | g | g)
      · simp at g
      · simp at g
      · rw [Pl.getF_nil] at g
        exact g rfl
end Go.Proofs.Ytlfgnllmomeajaa
