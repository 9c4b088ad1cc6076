/- A slice of the call's own, wherever in its row it begins: append onto it, and where what comes out lies. -/
import Derived.Test.YtoadcaennlfadaaCrcC
import Derived.ArgAppend
namespace Go.Proofs.Ytoadcaennlfadaa
open Go.RowKit
set_option maxRecDepth 20000

/-- A slice of elements of one cell in a row that may be written: nil, or a part of the row. -/
def Part (w : World) (e : TypeId) (v : Value) (xs : List Value) : Prop :=
  (v = .slice none 0 0 ∧ xs = []) ∨
  ∃ g off cap cur, v = .slice (some ⟨g, off, none⟩) xs.length cap ∧ w.heap[g]? = some (.cells cur e (0, 0)) ∧ xs.length ≤ cap ∧ cap ≤ maxLen ∧ off + cap ≤ cur.size ∧ (cur.toList.drop off).take xs.length = xs

/-- What is read of a slice of elements of one cell. -/
def Reads (w : World) (u : Value) (ys : List Value) : Prop :=
  ∃ a cap, u = .slice a ys.length cap ∧ (a = none → ys = [] ∧ cap = 0) ∧ ∀ x, a = some x → ∀ j y, ys[j]? = some y → w.cell? (x.add j) = some y

theorem Part.lt {w : World} {e : TypeId} {v : Value} {xs : List Value} (h : Part w e v xs) : ∀ k, v.ownBlock = some k → k < w.heap.size := by
  intro k hk
  rcases h with ⟨rfl, _⟩ | ⟨g, off, cap, cur, rfl, hg, _⟩
  · simp [Value.ownBlock] at hk
  · simp [Value.ownBlock] at hk
    subst hk
    rcases Nat.lt_or_ge g w.heap.size with hlt | hge
    · exact hlt
    · rw [Array.getElem?_eq_none hge] at hg; cases hg

theorem Part.kept {w w' : World} {e : TypeId} {v : Value} {xs : List Value} {row : Option Nat} (h : Part w e v xs) (hg : w.grownBy w' row) (hne : v.ownBlock = none ∨ v.ownBlock ≠ row) : Part w' e v xs := by
  have hlt := h.lt
  rcases h with ⟨rfl, hx⟩ | ⟨g, off, cap, cur, rfl, h1, h2⟩
  · exact .inl ⟨rfl, hx⟩
  · refine .inr ⟨g, off, cap, cur, rfl, ?_, h2⟩
    rw [hg.block g (hlt g rfl) ?_]
    · exact h1
    · rcases hne with hne | hne
      · simp [Value.ownBlock] at hne
      · simpa [Value.ownBlock] using hne

theorem grownBy_below {w w' : World} (h : Below w.heap.size w w') (row : Option Nat) : w.grownBy w' row := ⟨h.os, h.tape, h.output, h.size, fun k hk _ => h.block k hk⟩
theorem Part.below {w w' : World} {e : TypeId} {v : Value} {xs : List Value} (h : Part w e v xs) (hb : Below w.heap.size w w') : Part w' e v xs :=
  h.kept (grownBy_below hb none) (by cases hv : v.ownBlock <;> simp)

theorem Part.own {w : World} {B : Nat} {e : TypeId} {v : Value} {n : Nat} {xs : List Value} (h : w.ownsRow B e 1 v n xs) : Part w e v xs := by
  have hl : xs.length = n := by have := h.1; omega
  rcases h.2 with ⟨rfl, rfl⟩ | ⟨g, cap, cur, rfl, hb, hg, hle, hm, hs, ht⟩
  · exact .inl ⟨rfl, List.length_eq_zero_iff.1 hl⟩
  · exact .inr ⟨g, 0, cap, cur, by rw [hl], hg, by omega, hm, by omega, by rw [hl]; simpa using ht⟩

theorem Part.cells {w : World} {e : TypeId} {g off n cap : Nat} {xs : List Value} (h : Part w e (.slice (some ⟨g, off, none⟩) n cap) xs) : ∀ j u, xs[j]? = some u → w.cell? ⟨g, off + j, none⟩ = some u := by
  intro j u hj
  rcases h with ⟨h, _⟩ | ⟨g', off', cap', cur, hv, hg, hle, hm, hs, ht⟩
  · simp at h
  · simp at hv
    obtain ⟨⟨rfl, rfl⟩, rfl, rfl⟩ := hv
    have hjl : j < xs.length := (List.getElem?_eq_some_iff.1 hj).1
    rw [cell_of_row w g (off + j) cur e (0, 0) hg]
    rw [← ht, List.getElem?_take_of_lt hjl, List.getElem?_drop] at hj
    simpa using hj

theorem Part.reads {w : World} {e : TypeId} {v : Value} {xs : List Value} (h : Part w e v xs) : Reads w v xs := by
  rcases id h with ⟨rfl, rfl⟩ | ⟨g, off, cap, cur, rfl, hg, hle, hm, hs, ht⟩
  · exact ⟨none, 0, rfl, fun _ => ⟨rfl, rfl⟩, fun x hx => by cases hx⟩
  · refine ⟨_, cap, rfl, fun h => (by cases h), fun x hx j y hj => ?_⟩
    cases hx
    rw [add_plain]
    exact h.cells j y hj

theorem Part.seg {k : IntKind} {w : World} {e : TypeId} {v : Value} {l : List Int} (h : Part w e v (l.map (Value.int k))) : Seg k w v l := by
  rcases id h with ⟨rfl, hx⟩ | ⟨g, off, cap, cur, rfl, hg, hle, hm, hs, ht⟩
  · have : l = [] := by simpa using hx
    subst this
    exact Seg.nil _ _
  · rw [List.length_map] at hle
    rw [List.length_map] at h ⊢
    refine ⟨_, cap, rfl, hle, hm, fun h => (by cases h), fun x hx i hi => ?_⟩
    cases hx
    rw [add_plain]
    exact h.cells i _ (by simp [List.getD, hi])

theorem Seg.reads {k : IntKind} {w : World} {v : Value} {l : List Int} (h : Seg k w v l) : Reads w v (l.map (Value.int k)) := by
  obtain ⟨a, cap, rfl, h1, h2, h3, h4⟩ := h
  refine ⟨a, cap, by rw [List.length_map], fun ha => ?_, fun x hx => map_cells fun i hi => h4 x hx i hi⟩
  obtain ⟨rfl, rfl⟩ := h3 ha
  exact ⟨rfl, rfl⟩

/-- append onto a part. -/
theorem run_append_part {P : Program} (w : World) (t ty e : TypeId) (i : TypeInfo) (z : Value) (bytes : Nat) (ht : P.underlying t = some (.slice e)) (hi : P.info? e = some i) (hz : i.zero = some z)
    (hsize : i.size = 1) (hby : i.bytes = bytes) (hzs : z.cells.size = 1) (v u : Value) (xs ys : List Value) (hv : Part w e v xs) (hu : Reads w u ys) (h1 : ∀ y ∈ ys, y.oneCell' = true)
    (h63 : xs.length + ys.length ≤ maxLen) (hbytes : (xs.length + ys.length) * bytes ≤ 140737488355328) :
    ∃ v' w', (Builtin.append_ #[t, t] ty #[v, u]).run P w = .ok v' w' ∧ Part w' e v' (xs ++ ys) ∧ w.grownBy w' v.ownBlock ∧ (v'.ownBlock = v.ownBlock ∨ ∃ k, v'.ownBlock = some k ∧ w.heap.size ≤ k) := by
  have fresh : ∀ v' w', w'.ownsRow w.heap.size e 1 v' (xs.length + ys.length) (xs ++ ys) → Part w' e v' (xs ++ ys) ∧ (v'.ownBlock = none ∨ ∃ k, v'.ownBlock = some k ∧ w.heap.size ≤ k) := by
    intro v' w' ho
    refine ⟨Part.own ho, ?_⟩
    cases hv' : v'.ownBlock with
    | none => exact .inl rfl
    | some k => exact .inr ⟨k, rfl, (ho.lt k hv').1⟩
  obtain ⟨a, cp, rfl, hn, hc⟩ := hu
  rcases id hv with ⟨rfl, rfl⟩ | ⟨g, off, cap, cur, rfl, hg, hle, hm, hs, hts⟩
  · rcases a with _ | x
    · obtain ⟨rfl, rfl⟩ := hn rfl
      exact ⟨_, w, run_append_owned_none (P := P) (w := w) w.heap.size t ty e i 1 ht hi _ 0 [] (World.ownsRow_nil _ _ _ _), hv, grownBy_refl _ _, .inl rfl⟩
    · obtain ⟨v', w', hr, ho, hgr, _⟩ := run_append_own (P := P) w w.heap.size t ty e i z 1 bytes ht hi hz hsize hby hzs (by decide) (.slice none 0 0) 0 [] (World.ownsRow_nil _ _ _ _) x ys.length cp ys (by simp) (fun j y hj => hc x rfl j y hj) h1 (by simpa using h63) (by simpa using hbytes) (Nat.le_refl _)
      obtain ⟨f1, f2⟩ := fresh v' w' (by simpa using ho)
      refine ⟨v', w', hr, f1, hgr, ?_⟩
      rcases f2 with f2 | f2
      · exact .inl f2
      · exact .inr f2
  · rcases a with _ | x
    · obtain ⟨rfl, rfl⟩ := hn rfl
      refine ⟨.slice (some ⟨g, off, none⟩) xs.length cap, w, ?_, by simpa using hv, grownBy_refl _ _, .inl rfl⟩
      have hle2 : xs.length + 0 ≤ cap := by omega
      simp [Builtin.append_, run_underlying ht, sizeOf, typeInfo, hi, Builtin.lenOf, Builtin.firstCells, hle, storeCells]
    · by_cases hroom : xs.length + ys.length ≤ cap
      · have hf := run_firstCells_some (P := P) w i.size ys.length x ys.length cp ys (by rw [hsize]; simp) (fun j y hj => hc x rfl j y hj)
        have hst := run_storeCells_at P g (off + xs.length * i.size) e ys 0 cur w hg (by rw [hsize]; omega) h1
        simp only [Nat.add_zero] at hst
        refine ⟨.slice (some ⟨g, off, none⟩) (xs.length + ys.length) cap, w.setRow g (cur.toList.take (off + xs.length * i.size) ++ ys ++ cur.toList.drop (off + xs.length * i.size + ys.length)).toArray, ?_, ?_, ⟨rfl, rfl, rfl, by simp, fun k _ hk => setRow_other w g k _ (fun e => hk (by simp [Value.ownBlock, e]))⟩, .inl rfl⟩
        · simp [Builtin.append_, run_underlying ht, sizeOf, typeInfo, hi, Builtin.lenOf, hroom, hf, Addr.add_lit, hst]
        · refine .inr ⟨g, off, cap, _, by rw [List.length_append], setRow_heap w g cur _ e _ hg, by rw [List.length_append]; exact hroom, hm, ?_, ?_⟩
          · simp only [hsize, List.size_toArray, List.length_append, List.length_take, List.length_drop, Array.length_toList]
            omega
          · have e1 : (cur.toList.take (off + xs.length)).drop off = xs := by
              rw [List.drop_take, Nat.add_sub_cancel_left]
              exact hts
            have hl1 : (cur.toList.take (off + xs.length)).length = off + xs.length := by
              have hz : cur.toList.length = cur.size := Array.length_toList
              rw [List.length_take]
              omega
            simp only [hsize, Nat.mul_one]
            rw [List.append_assoc, List.drop_append_of_le_length (by omega), e1, ← List.append_assoc, List.take_left]
      · obtain ⟨v', w', hr, ho, hgr⟩ := run_append_arg_grows (P := P) w t ty e i z 1 bytes ht hi hz hsize hby hzs (by decide) ⟨g, off, none⟩ xs.length cap xs (by simp) (fun j u hj => by rw [Addr.add_lit]; exact hv.cells j u hj) x ys.length cp ys (by simp) (fun j y hj => hc x rfl j y hj) (by omega) h63 hbytes
        obtain ⟨f1, f2⟩ := fresh v' w' ho
        refine ⟨v', w', hr, f1, ⟨hgr.os, hgr.tape, hgr.output, hgr.size, fun k hk _ => hgr.block k hk (by simp)⟩, ?_⟩
        rcases f2 with f2 | f2
        · exfalso
          rcases ho.2 with ⟨_, h0⟩ | ⟨g', cap', cur', hv', _⟩
          · omega
          · rw [hv'] at f2
            simp [Value.ownBlock] at f2
        · exact .inr f2

theorem wpList_append_part {P : Program} (w : World) {ops : Array Oper} {rest : List Oper} {o : Oper} {a : Act} {Q : Exit → Act → World → Prop} (hgd : o.guard = none) (s x : Operand) (t : TypeId)
    (ho : o.op = .call { callee := .builtin .append, args := #[s, x], argTypes := #[t, t] }) (e : TypeId) (i : TypeInfo) (z : Value) (bytes : Nat) (ht : P.underlying t = some (.slice e)) (hi : P.info? e = some i) (hz : i.zero = some z)
    (hsize : i.size = 1) (hby : i.bytes = bytes) (hzs : z.cells.size = 1) (v u : Value) (xs ys : List Value) (hs : a.eval s = v) (hx : a.eval x = u) (hv : Part w e v xs) (hu : Reads w u ys) (h1 : ∀ y ∈ ys, y.oneCell' = true)
    (h63 : xs.length + ys.length ≤ maxLen) (hbytes : (xs.length + ys.length) * bytes ≤ 140737488355328)
    (h : ∀ v' w', Part w' e v' (xs ++ ys) → w.grownBy w' v.ownBlock → (v'.ownBlock = v.ownBlock ∨ ∃ k, v'.ownBlock = some k ∧ w.heap.size ≤ k) → wpList P ops Q rest (a.put o.dst v') w') : wpList P ops Q (o :: rest) a w := by
  refine wpList_plain hgd fun K hK => ?_
  obtain ⟨v', w', hr, r1, r2, r3⟩ := run_append_part (P := P) w t o.type e i z bytes ht hi hz hsize hby hzs v u xs ys hv hu h1 h63 hbytes
  unfold Oper.wp
  simp [execOp, ho, resolve, invoke, builtin, hs, hx, hr, Result.andThen]
  exact hK _ _ (h v' w' r1 r2 r3)

/-- Its row is the call's own, from block n on; rows that are not the same; where an append's answer lies. -/
def Since (n : Nat) (v : Value) : Prop := ∀ k, v.ownBlock = some k → n ≤ k
def Apart (u v : Value) : Prop := ∀ k, u.ownBlock = some k → v.ownBlock ≠ some k
def Moved (w : World) (v v' : Value) : Prop := v'.ownBlock = v.ownBlock ∨ ∃ k, v'.ownBlock = some k ∧ w.heap.size ≤ k

def Till (n : Nat) (v : Value) : Prop := ∀ k, v.ownBlock = some k → k < n
theorem Till.own {w : World} {B : Nat} {e : TypeId} {size : Nat} {v : Value} {n : Nat} {xs : List Value} (h : w.ownsRow B e size v n xs) : Till w.heap.size v := fun k hk => (h.lt k hk).2
theorem Till.mono {n m : Nat} {v : Value} (h : Till n v) (hm : n ≤ m) : Till m v := fun k hk => Nat.lt_of_lt_of_le (h k hk) hm
theorem Since.mono {n m : Nat} {v : Value} (h : Since n v) (hm : m ≤ n) : Since m v := fun k hk => Nat.le_trans hm (h k hk)
theorem Since.own {w : World} {B : Nat} {e : TypeId} {size : Nat} {v : Value} {n : Nat} {xs : List Value} (h : w.ownsRow B e size v n xs) : Since B v := fun k hk => (h.lt k hk).1
theorem Since.apart {w : World} {e : TypeId} {v u : Value} {xs : List Value} (hv : Part w e v xs) (hu : Since w.heap.size u) : Apart u v := fun k hk hk' => by
  have h1 := hv.lt k hk'
  have h2 := hu k hk
  omega
theorem Since.apart' {w : World} {e : TypeId} {v u : Value} {xs : List Value} (hv : Part w e v xs) (hu : Since w.heap.size u) : Apart v u := fun k hk hk' => by
  have h1 := hv.lt k hk
  have h2 := hu k hk'
  omega
theorem Apart.symm {u v : Value} (h : Apart u v) : Apart v u := fun k hk hk' => h k hk' hk
theorem Moved.since {w : World} {v v' : Value} {B : Nat} (h : Moved w v v') (hs : Since B v) (hB : B ≤ w.heap.size) : Since B v' := by
  intro k hk
  rcases h with h | ⟨j, h, hj⟩
  · exact hs k (by rw [← h]; exact hk)
  · rw [hk] at h
    cases h
    omega
theorem Moved.apart {w : World} {v v' u : Value} (h : Moved w v v') (ha : Apart u v) (hu : Till w.heap.size u) : Apart u v' := by
  intro k hk hk'
  rcases h with h | ⟨j, h, hj⟩
  · exact ha k hk (by rw [← h]; exact hk')
  · rw [hk'] at h
    cases h
    have := hu _ hk
    omega
theorem Apart.ne {u v : Value} (h : Apart u v) : u.ownBlock = none ∨ u.ownBlock ≠ v.ownBlock := by
  cases hu : u.ownBlock with
  | none => exact .inl rfl
  | some k => exact .inr fun he => h k hu he.symm
theorem Seg.spared {k : IntKind} {w w' : World} {u : Value} {l : List Int} {row : Option Nat} (h : Seg k w u l) (hg : w.grownBy w' row) (hne : u.ownBlock = none ∨ u.ownBlock ≠ row) : Seg k w' u l := by
  obtain ⟨a, cap, rfl, h1, h2, h3, h4⟩ := h
  refine ⟨a, cap, rfl, h1, h2, h3, fun x hx i hi => ?_⟩
  subst hx
  have hc := h4 x rfl i hi
  refine hg.cell hc ?_
  rcases hne with hne | hne
  · simp [Value.ownBlock] at hne
  · have hb : (x.add i).block = x.block := by unfold Addr.add; split <;> rfl
    rw [hb]
    simpa [Value.ownBlock] using hne
theorem below_by {B : Nat} {a w w' : World} {v : Value} (h : Below B a w) (hg : w.grownBy w' v.ownBlock) (hB : B ≤ w.heap.size) (hs : Since B v) : Below B a w' := h.grown hg hB hs

theorem Try.info22 : (Try.prog.info? 22).map (fun i => (i.zero, i.size, i.bytes)) = some (some (.slice none 0 0), 1, 24) := by kernel_rfl

/-- Octets, and texts. -/
theorem wpList_append_oct {ops : Array Oper} {rest : List Oper} {o : Oper} {a : Act} {Q : Exit → Act → World → Prop} (w : World) (hgd : o.guard = none) (s x : Operand)
    (ho : o.op = .call { callee := .builtin .append, args := #[s, x], argTypes := #[22, 22] }) (v u : Value) (l m : List Int) (hs : a.eval s = v) (hx : a.eval x = u) (hv : Part w 5 v (u8s l)) (hu : Seg .u8 w u m)
    (hlen : l.length + m.length ≤ 140737488355328)
    (h : ∀ v' w', Part w' 5 v' (u8s (l ++ m)) → w.grownBy w' v.ownBlock → Moved w v v' → wpList Try.prog ops Q rest (a.put o.dst v') w') : wpList Try.prog ops Q (o :: rest) a w := by
  obtain ⟨i0, hi, hz0, hz1, hz2⟩ := info_parts Try.info5
  refine wpList_append_part w hgd s x 22 ho 5 i0 (.int .u8 0) 1 Try.underlying22 hi hz0 hz1 hz2 rfl v u (u8s l) (u8s m) hs hx hv hu.reads map_one (by simp only [List.length_map]; unfold maxLen; omega) (by simp only [List.length_map]; omega) ?_
  intro v' w' h1 h2 h3
  rw [octets_app] at h1
  exact h v' w' h1 h2 h3
theorem wpList_append_txt {ops : Array Oper} {rest : List Oper} {o : Oper} {a : Act} {Q : Exit → Act → World → Prop} (w : World) (hgd : o.guard = none) (s x : Operand)
    (ho : o.op = .call { callee := .builtin .append, args := #[s, x], argTypes := #[73, 73] }) (v u : Value) (xs ys : List Value) (hs : a.eval s = v) (hx : a.eval x = u) (hv : Part w 22 v xs) (hu : Reads w u ys) (h1 : ∀ y ∈ ys, y.oneCell' = true)
    (hlen : xs.length + ys.length ≤ 5864062014805)
    (h : ∀ v' w', Part w' 22 v' (xs ++ ys) → w.grownBy w' v.ownBlock → Moved w v v' → wpList Try.prog ops Q rest (a.put o.dst v') w') : wpList Try.prog ops Q (o :: rest) a w := by
  obtain ⟨i0, hi, hz0, hz1, hz2⟩ := info_parts Try.info22
  exact wpList_append_part w hgd s x 73 ho 22 i0 (.slice none 0 0) 24 Try.underlying73 hi hz0 hz1 hz2 rfl v u xs ys hs hx hv hu h1 (by unfold maxLen; omega) (by omega) h
end Go.Proofs.Ytoadcaennlfadaa
