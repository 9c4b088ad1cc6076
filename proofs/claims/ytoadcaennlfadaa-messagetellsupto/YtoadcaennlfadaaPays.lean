/- Lists of texts of the call's own; the tail of octets; frames read again and again. -/
import Derived.Test.YtoadcaennlfadaaFE
namespace Go.Proofs.Ytoadcaennlfadaa
open Go.RowKit
set_option maxRecDepth 20000

/-- The tail of octets. -/
theorem run_tail_some (w : World) (b off len cap k : Nat) (hk : k ≤ len) (hl : len ≤ cap) :
    (Instr.sliceAt 22 (.slice (some ⟨b, off, none⟩) len cap) (some (.int .i64 k)) none none).run Try.prog w = .ok (.slice (some ⟨b, if cap = k then off else off + k, none⟩) (len - k) (cap - k)) w := by
  by_cases h : cap = k
  · have h2 : cap - k = 0 := by omega
    have h3 : (k : Int) ≤ len := by omega
    go_simp
  · have h3 : (k : Int) ≤ len := by omega
    have h4 : ¬ cap - k = 0 := by omega
    go_simp
theorem run_tail_none (w : World) : (Instr.sliceAt 22 (.slice none 0 0) (some (.int .i64 0)) none none).run Try.prog w = .ok (.slice none 0 0) w := by
  go_simp
theorem seg_zero (w : World) (x : Addr) (cap : Nat) (h : cap ≤ maxLen) : Seg .u8 w (.slice (some x) 0 cap) [] :=
  ⟨some x, cap, rfl, Nat.zero_le _, h, fun h => (by cases h), fun _ _ i hi => by simp at hi⟩
theorem seg_tail {w : World} {v : Value} {l : List Int} (h : Seg .u8 w v l) (k : Nat) (hk : k ≤ l.length) :
    ∃ v', (Instr.sliceAt 22 v (some (.int .i64 k)) none none).run Try.prog w = .ok v' w ∧ Seg .u8 w v' (l.drop k) := by
  obtain ⟨a, cap, rfl, h1, h2, h3, h4⟩ := h
  rcases a with _ | x
  · obtain ⟨rfl, rfl⟩ := h3 rfl
    obtain rfl : k = 0 := by simpa using hk
    exact ⟨_, run_tail_none w, by simpa using Seg.nil _ _⟩
  · by_cases hkl : k = l.length
    · subst hkl
      obtain ⟨b, off, sp⟩ := x
      by_cases hsp : sp = none
      · subst hsp
        refine ⟨_, run_tail_some w b off l.length cap l.length (Nat.le_refl _) h1, ?_⟩
        rw [List.drop_length, Nat.sub_self]
        exact seg_zero _ _ _ (by omega)
      · have hsl : (Instr.sliceAt 22 (.slice (some ⟨b, off, sp⟩) l.length cap) (some (.int .i64 l.length)) none none).run Try.prog w = .ok (.slice (some (if cap = l.length then ⟨b, off, sp⟩ else Addr.add ⟨b, off, sp⟩ l.length)) 0 (cap - l.length)) w := by
          unfold maxLen at h2
          by_cases hc : cap = l.length
          · have h5 : cap - l.length = 0 := by omega
            go_simp
          · have h5 : ¬ cap - l.length = 0 := by omega
            go_simp
        refine ⟨_, hsl, ?_⟩
        rw [List.drop_length]
        exact seg_zero _ _ _ (by omega)
    · obtain ⟨b, off, hx, hb, hc⟩ := seg_at (w := w) (l := l) (a := some x) (cap := cap) (by omega) h3 h4
      cases hx
      refine ⟨_, run_tail_some w b off l.length cap k hk h1, ?_⟩
      rw [if_neg (by omega)]
      have := seg_part (w := w) (b := b) (off := off) (cap := cap) (l := l) k (l.length - k) (by omega) h1 h2 hc
      rw [List.take_of_length_le (by rw [List.length_drop]; omega)] at this
      exact this

theorem Part.tail {w : World} {e : TypeId} {g off n cap : Nat} {xs : List Value} (h : Part w e (.slice (some ⟨g, off, none⟩) n cap) xs) (k : Nat) (hk : k ≤ n) :
    Part w e (.slice (some ⟨g, if cap = k then off else off + k, none⟩) (n - k) (cap - k)) (xs.drop k) := by
  rcases h with ⟨h', _⟩ | ⟨g', off', cap', cur, h', hg, hnc, hcm, hcs, htake⟩
  · simp at h'
  · simp only [Value.slice.injEq, Option.some.injEq, Addr.mk.injEq, and_true] at h'
    obtain ⟨⟨rfl, rfl⟩, rfl, rfl⟩ := h'
    refine .inr ⟨g, _, cap - k, cur, by rw [List.length_drop], hg, by rw [List.length_drop]; omega, by omega, by split <;> omega, ?_⟩
    rw [List.length_drop]
    by_cases hc : cap = k
    · have : xs.length - k = 0 := by omega
      rw [this, List.take_zero, List.drop_eq_nil_of_le (by omega)]
    · rw [if_neg hc]
      conv => rhs; rw [← htake]
      rw [List.drop_take, List.drop_drop]

/-- Texts that lie in rows of which Q holds. -/
def Elems (Q : Nat → Prop) (w : World) (ys : List Value) (ls : List (List Int)) : Prop :=
  ys.length = ls.length ∧ ∀ i, i < ls.length → Seg .u8 w (ys.getD i (.bool false)) (ls.getD i []) ∧ ∀ k, (ys.getD i (.bool false)).ownBlock = some k → Q k
def Pays (Q : Nat → Prop) (w : World) (v : Value) (ls : List (List Int)) : Prop :=
  ∃ vs, Part w 22 v vs ∧ (∀ k, v.ownBlock = some k → Q k) ∧ Elems (fun k => Q k ∧ v.ownBlock ≠ some k) w vs ls

theorem Elems.nil (Q : Nat → Prop) (w : World) : Elems Q w [] [] := ⟨rfl, fun _ hi => absurd hi (Nat.not_lt_zero _)⟩
theorem Elems.mono {Q R : Nat → Prop} {w : World} {ys : List Value} {ls : List (List Int)} (h : Elems Q w ys ls) (hr : ∀ k, Q k → R k) : Elems R w ys ls :=
  ⟨h.1, fun i hi => ⟨(h.2 i hi).1, fun k hk => hr k ((h.2 i hi).2 k hk)⟩⟩
theorem Elems.kept {Q : Nat → Prop} {w w' : World} {ys : List Value} {ls : List (List Int)} {row : Option Nat} (h : Elems Q w ys ls) (hg : w.grownBy w' row) (hr : ∀ k, Q k → row ≠ some k) : Elems Q w' ys ls := by
  refine ⟨h.1, fun i hi => ⟨(h.2 i hi).1.spared hg ?_, (h.2 i hi).2⟩⟩
  cases hu : (ys.getD i (.bool false)).ownBlock with
  | none => exact .inl rfl
  | some k => exact .inr fun he => hr k ((h.2 i hi).2 k hu) he.symm
theorem Elems.append {Q : Nat → Prop} {w : World} {ys zs : List Value} {ls ms : List (List Int)} (h : Elems Q w ys ls) (k : Elems Q w zs ms) : Elems Q w (ys ++ zs) (ls ++ ms) := by
  obtain ⟨h1, h2⟩ := h
  obtain ⟨k1, k2⟩ := k
  refine ⟨by rw [List.length_append, List.length_append, h1, k1], fun i hi => ?_⟩
  rw [List.length_append] at hi
  by_cases hl : i < ls.length
  · have e1 : (ys ++ zs).getD i (.bool false) = ys.getD i (.bool false) := by simp [List.getD, List.getElem?_append_left (show i < ys.length by omega)]
    have e2 : (ls ++ ms).getD i [] = ls.getD i [] := by simp [List.getD, List.getElem?_append_left hl]
    rw [e1, e2]
    exact h2 i hl
  · have e1 : (ys ++ zs).getD i (.bool false) = zs.getD (i - ls.length) (.bool false) := by simp [List.getD, List.getElem?_append_right (show ys.length ≤ i by omega), h1]
    have e2 : (ls ++ ms).getD i [] = ms.getD (i - ls.length) [] := by simp [List.getD, List.getElem?_append_right (show ls.length ≤ i by omega)]
    rw [e1, e2]
    exact k2 _ (by omega)
theorem Elems.oneCell {Q : Nat → Prop} {w : World} {ys : List Value} {ls : List (List Int)} (h : Elems Q w ys ls) : ∀ y ∈ ys, y.oneCell' = true := by
  intro y hy
  obtain ⟨i, hi, rfl⟩ := List.getElem_of_mem hy
  obtain ⟨a, cap, he, _⟩ := (h.2 i (by rw [← h.1]; exact hi)).1
  have : ys.getD i (.bool false) = ys[i] := by simp [List.getD, hi]
  rw [this] at he
  rw [he]
  rfl

theorem Pays.nil (Q : Nat → Prop) (w : World) : Pays Q w (.slice none 0 0) [] := ⟨[], .inl ⟨rfl, rfl⟩, fun k hk => by simp [Value.ownBlock] at hk, Elems.nil _ _⟩
theorem Pays.mono {Q R : Nat → Prop} {w : World} {v : Value} {ls : List (List Int)} (h : Pays Q w v ls) (hr : ∀ k, Q k → R k) : Pays R w v ls := by
  obtain ⟨vs, h1, h2, h3⟩ := h
  exact ⟨vs, h1, fun k hk => hr k (h2 k hk), h3.mono fun k hk => ⟨hr k hk.1, hk.2⟩⟩
theorem Pays.kept {Q : Nat → Prop} {w w' : World} {v : Value} {ls : List (List Int)} {row : Option Nat} (h : Pays Q w v ls) (hg : w.grownBy w' row) (hr : ∀ k, Q k → row ≠ some k) : Pays Q w' v ls := by
  obtain ⟨vs, h1, h2, h3⟩ := h
  refine ⟨vs, h1.kept hg ?_, h2, h3.kept hg fun k hk => hr k hk.1⟩
  cases hu : v.ownBlock with
  | none => exact .inl rfl
  | some k => exact .inr fun he => hr k (h2 k hu) he.symm
theorem Pays.below {Q : Nat → Prop} {w w' : World} {v : Value} {ls : List (List Int)} (h : Pays Q w v ls) (hb : Below w.heap.size w w') : Pays Q w' v ls := h.kept (grownBy_below hb none) (fun _ _ h => by cases h)
theorem Pays.shape {Q : Nat → Prop} {w : World} {v : Value} {ls : List (List Int)} (h : Pays Q w v ls) : ∃ a cap, v = .slice a ls.length cap := by
  obtain ⟨vs, h1, _, h3⟩ := h
  rw [← h3.1]
  rcases h1 with ⟨rfl, rfl⟩ | ⟨g, off, cap, cur, rfl, _⟩
  · exact ⟨none, 0, rfl⟩
  · exact ⟨_, cap, rfl⟩

/-- Texts put behind texts. -/
theorem wpList_append_pays {ops : Array Oper} {rest : List Oper} {o : Oper} {a : Act} {T : Exit → Act → World → Prop} (w : World) (hgd : o.guard = none) (s x : Operand)
    (ho : o.op = .call { callee := .builtin .append, args := #[s, x], argTypes := #[73, 73] }) (Q R : Nat → Prop) (v u : Value) (ls ms : List (List Int)) (ys : List Value) (hs : a.eval s = v) (hx : a.eval x = u) (hv : Pays Q w v ls) (hu : Reads w u ys) (hy : Elems R w ys ms)
    (hQ : ∀ k, Q k → k < w.heap.size) (hR : ∀ k, R k → k < w.heap.size ∧ v.ownBlock ≠ some k) (hlen : ls.length + ms.length ≤ 5864062014805)
    (h : ∀ v' w', Pays (fun k => Q k ∨ R k ∨ (w.heap.size ≤ k ∧ k < w'.heap.size)) w' v' (ls ++ ms) → w.grownBy w' v.ownBlock → Moved w v v' → wpList Try.prog ops T rest (a.put o.dst v') w') : wpList Try.prog ops T (o :: rest) a w := by
  obtain ⟨vs, h1, h2, h3⟩ := hv
  refine wpList_append_txt w hgd s x ho v u vs ys hs hx h1 hu hy.oneCell (by rw [h3.1, hy.1]; exact hlen) ?_
  intro v' w' hP hg hm
  refine h v' w' ⟨vs ++ ys, hP, fun k hk => ?_, ?_⟩ hg hm
  · rcases hm with hm | ⟨j, hm, hj⟩
    · exact .inl (h2 k (by rw [← hm]; exact hk))
    · rw [hk] at hm
      cases hm
      exact .inr (.inr ⟨hj, hP.lt _ hk⟩)
  · have hne : ∀ k, k < w.heap.size → v.ownBlock ≠ some k → v'.ownBlock ≠ some k := by
      intro k hk hn he
      rcases hm with hm | ⟨j, hm, hj⟩
      · exact hn (by rw [← hm]; exact he)
      · rw [he] at hm
        cases hm
        omega
    refine Elems.append ((h3.kept hg fun k hk => hk.2).mono fun k hk => ⟨.inl hk.1, hne k (hQ k hk.1) hk.2⟩) ((hy.kept hg fun k hk => (hR k hk).2).mono fun k hk => ⟨.inr (.inl hk), hne k (hR k hk).1 (hR k hk).2⟩)
end Go.Proofs.Ytoadcaennlfadaa
