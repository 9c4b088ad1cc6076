/- frame: fresh, mayGo, sum, Put. frame: sum. A slice of the call's own, wherever in its row it begins: append onto it, and where what comes out lies. frame: Put, of one payload. -/
import Derived.Test.YtoadcaennlfadaaGE
import Derived.Test.YtoadcaennlfadaaGC
import Derived.Test.YtoadcaennlfadaaGD
import Derived.ArgAppend
namespace Go.Proofs.Ytoadcaennlfadaa
open Go.RowKit
set_option maxRecDepth 20000

set_option maxHeartbeats 400000 in
theorem ffresh_any (v : Value) (l : List Int) (w : World) (hs : Seg .u8 w v l) (hlen : l.length ≤ 140737488355328) :
    Calls Try.prog 57 #[v] w fun e w' => ∃ v', e = .returned v' ∧ w'.ownsRow w.heap.size 5 1 v' l.length (u8s l) ∧ Below w.heap.size w w' := by
  obtain ⟨i0, hi, hz0, hz1, hz2⟩ := info_parts Try.info5
  obtain ⟨a, cap, rfl, h1, h2, h3, h4⟩ := hs
  rcases a with _ | x
  · obtain ⟨rfl, rfl⟩ := h3 rfl
    go_enter Try.func57, Try.ntmps57
    go_wp2
    go_ret
    exact ⟨_, rfl, World.ownsRow_nil _ _ _ _, Below.refl _ _⟩
  · go_enter Try.func57, Try.ntmps57
    go_wp2_with (at_builtin; refine wpList_append_own _ rfl _ _ 22 rfl w.heap.size 5 i0 (.int .u8 0) 1 1 Try.underlying22 hi hz0 hz1 hz2 rfl (by decide) _ _ [] rfl (World.ownsRow_nil _ _ _ _) x l.length cap (u8s l) rfl ?c1 ?c2 ?c3 ?c4 ?c5 ?c6 ?_)
    case c1 => simp
    case c2 => exact map_cells fun i hi => h4 x rfl i hi
    case c3 => exact map_one
    case c4 => unfold maxLen; omega
    case c5 => omega
    case c6 => simp
    intro v' w1 hown1 hgrow _
    have hb1 : Below w.heap.size w w1 := (Below.refl _ _).grown hgrow (by simp) (fun k hk => by simp [Value.ownBlock] at hk)
    have HO : w1.ownsRow w.heap.size 5 1 v' l.length (u8s l) := by simpa using hown1
    clear hgrow hown1
    go_wp2
    go_ret
    exact ⟨v', rfl, HO, hb1⟩

/-- What Put says of one payload. -/
def Pl.errP (p : List Int) : Int := if p.length = 0 then 8 else if 4096 < p.length then 5 else 0

set_option maxHeartbeats 400000 in
theorem mayGo_one (w : World) (v u : Value) (p : List Int) (b off cap : Nat) (hv : v = .slice (some ⟨b, off, none⟩) 1 cap) (hc : w.cell? ⟨b, off, none⟩ = some u) (hp : Seg .u8 w u p) :
    Calls Try.prog 56 #[v] w fun e w' => e = .returned (.int .i64 (Pl.errP p)) ∧ w = w' := by
  subst hv
  obtain ⟨a, cp, rfl, h1, h2, h3, h4⟩ := hp
  clear h3 h4
  unfold maxLen at h2
  generalize hn : p.length = n at *
  by_cases h0 : n = 0
  · have HE : Hid (Pl.errP p = 8) := by show _ = _; unfold Pl.errP; rw [if_pos (by omega)]
    subst h0
    go_enter Try.func56, Try.ntmps56
    go_wp2
    (refine wp_loop_rounds 1 ?_; repeat any_goals (rw [rounds_succ]; go_wp2))
    go_ret
    exact ⟨by rw [HE.out]; rfl, rfl⟩
  · have hb0 : ((n : Int) == 0) = false := by simp; omega
    by_cases h5 : 4096 < n
    · have HE : Hid (Pl.errP p = 5) := by show _ = _; unfold Pl.errP; rw [if_neg (by omega), if_pos (by omega)]
      go_enter Try.func56, Try.ntmps56
      go_wp2
      (refine wp_loop_rounds 2 ?_; repeat any_goals (rw [rounds_succ]; go_wp2))
      (refine wp_loop_rounds 1 ?_; repeat any_goals (rw [rounds_succ]; go_wp2))
      go_ret
      exact ⟨by rw [HE.out]; rfl, rfl⟩
    · have HE : Hid (Pl.errP p = 0) := by show _ = _; unfold Pl.errP; rw [if_neg (by omega), if_neg (by omega)]
      go_enter Try.func56, Try.ntmps56
      go_wp2
      (refine wp_loop_rounds 2 ?_; repeat any_goals (rw [rounds_succ]; go_wp2))
      (refine wp_loop_rounds 2 ?_; repeat any_goals (rw [rounds_succ]; go_wp2))
      go_ret
      exact ⟨by rw [HE.out]; rfl, rfl⟩
end Go.Proofs.Ytoadcaennlfadaa

namespace Go.Proofs.Ytoadcaennlfadaa
open Go.RowKit
set_option maxRecDepth 20000

set_option maxHeartbeats 1000000 in
theorem fsum_any (v : Value) (ls : List (List Int)) (w : World) (hs : Segs w v ls) (ho : ∀ l ∈ ls, Pl.Octs l) :
    Calls Try.prog 58 #[v] w fun e w' => ∃ v', e = .returned v' ∧ w'.ownsRow w.heap.size 5 1 v' 4 (u8s (Pl.four (Pl.sumOf ls.flatten))) ∧ Below w.heap.size w w' := by
  have hof : Pl.Octs ls.flatten := by
    intro z hz
    obtain ⟨m, hm, hzm⟩ := List.mem_flatten.1 hz
    exact ho m hm z hzm
  have hlt := Pl.sumOf_lt hof
  clear hof
  obtain ⟨i0, hi, hz0, hz1, hz2⟩ := info_parts Try.info5
  obtain ⟨w2, hmk, hown2, hg2⟩ := run_make_full (P := Try.prog) w w.heap.size 22 5 i0 (.int .u8 0) 1 Try.underlying22 hi hz0 hz1 .i64 .i64 4 (by rw [hz2]; decide) (by unfold maxLen; decide) (Nat.le_refl _)
  have hb2 : Below w.heap.size w w2 := (Below.refl _ _).grown hg2 (Nat.le_refl _) (fun k hk => by cases hk)
  simp only [show ((4 : Nat) : Int) = 4 from rfl] at hmk
  clear hg2 hz0 hz1 hz2 hi
  have hsum := sum_any v ls w hs ho
  generalize Pl.sumOf ls.flatten = c at *
  generalize hgw : w.heap.size = g at *
  go_enter Try.func58, Try.ntmps58
  go_wp2_with (go_at_call 69; refine hsum.mono ?_; rintro e w1 ⟨rfl, rfl⟩)
  go_loopw [11] (fun i wr => ∃ (k : Nat) (ys : List Value), k ≤ 4 ∧ i = .int .i64 k ∧ wr.ownsRow g 5 1 (.slice (some ⟨g, 0, none⟩) 4 4) 4 ys ∧ Hid (∀ j, j < k → ys[j]? = some (.int .u8 ((c / 2 ^ (8 * j) % 256 : Nat) : Int))) ∧ Below g w wr) (fun i _ => 4 - (intOf i).toNat)
  case atStart => exact ⟨0, _, Nat.zero_le _, rfl, hown2, fun j hj => absurd hj (Nat.not_lt_zero _), hb2⟩
  case round =>
    obtain ⟨k, ys, hk, rfl, hr, HY, hbel⟩ := hrel
    clear hown2 hb2
    by_cases hlt4 : k < 4
    · have hys : ys.length = 4 := by have := hr.1; omega
      obtain ⟨z, hc⟩ : ∃ z, wr.cell? ⟨g, k, none⟩ = some z := ⟨ys[k]'(by omega), by rw [hr.cellAt k (by omega), List.getElem?_eq_getElem (by omega)]⟩
      have hf := hr.frozenAt k
      have hst := hr.stored k (.int .u8 ((c : Int) / 2 ^ (8 * k) % 256))
      have HO := hst.1
      have hgr : Below g w (wr.setCell ⟨g, k, none⟩ (.int .u8 ((c : Int) / 2 ^ (8 * k) % 256))) := hbel.grown hst.2 (by have := hbel.size; omega) (fun j hj => by cases hj; exact Nat.le_refl _)
      have hval : (c : Int) / 2 ^ (8 * k) % 256 = ((c / 2 ^ (8 * k) % 256 : Nat) : Int) := by
        rw [Int.natCast_emod, Int.natCast_ediv]
        simp
      have HN : Hid (∀ j, j < k + 1 → (ys.set k (.int .u8 ((c : Int) / 2 ^ (8 * k) % 256)))[j]? = some (.int .u8 ((c / 2 ^ (8 * j) % 256 : Nat) : Int))) := by
        intro j hj
        by_cases hjk : j = k
        · subst hjk
          rw [List.getElem?_set_self (by omega), hval]
        · rw [List.getElem?_set_ne (by omega)]
          exact HY.out j (by omega)
      clear hst hr HY hval hys hbel
      go_wp2
      go_roundw
      case rel => exact ⟨k + 1, _, by omega, by go_num, HO, HN, hgr⟩
      case measure => simp [intOf]; omega
    · obtain rfl : k = 4 := by omega
      have HE : Hid (ys = u8s (Pl.four c)) := by
        have hys : ys.length = 4 := by have := hr.1; omega
        have h0 := HY.out 0 (by omega)
        have h1 := HY.out 1 (by omega)
        have h2 := HY.out 2 (by omega)
        have h3 := HY.out 3 (by omega)
        match ys, hys with
        | [a, b, d, e], _ =>
          simp at h0 h1 h2 h3
          subst h0 h1 h2 h3
          simp [Pl.four, Hid]
      clear HY
      go_wp2
      go_ret
      refine ⟨_, rfl, ?_, hbel⟩
      rw [← HE.out]
      exact hr
end Go.Proofs.Ytoadcaennlfadaa

namespace Go.Proofs.Ytoadcaennlfadaa
open Go.RowKit
set_option maxRecDepth 20000

/-- A slice of elements of one cell in a row that may be written: nil, or a part of the row. -/
def Part (w : World) (e : TypeId) (v : Value) (xs : List Value) : Prop :=
  (v = .slice none 0 0 ∧ xs = []) ∨
  ∃ g off cap cur, v = .slice (some ⟨g, off, none⟩) xs.length cap ∧ w.heap[g]? = some (.cells cur e (0, 0)) ∧ xs.length ≤ cap ∧ cap ≤ maxLen ∧ off + cap ≤ cur.size ∧ (cur.toList.drop off).take xs.length = xs

/-- What is read of a slice of elements of one cell. -/
def Reads (w : World) (u : Value) (ys : List Value) : Prop :=
  ∃ a cap, u = .slice a ys.length cap ∧ (a = none → ys = [] ∧ cap = 0) ∧ ∀ x, a = some x → ∀ j y, ys[j]? = some y → w.cell? (x.add j) = some y

theorem Part.lt {w : World} {e : TypeId} {v : Value} {xs : List Value} (h : Part w e v xs) : ∀ k, v.ownBlock = some k → k < w.heap.size := by
  intro k hk
  rcases h with ⟨rfl, _⟩ | ⟨g, off, cap, cur, rfl, hg, _⟩
  · simp [Value.ownBlock] at hk
  · simp [Value.ownBlock] at hk
    subst hk
    rcases Nat.lt_or_ge g w.heap.size with hlt | hge
    · exact hlt
    · rw [Array.getElem?_eq_none hge] at hg; cases hg

theorem Part.kept {w w' : World} {e : TypeId} {v : Value} {xs : List Value} {row : Option Nat} (h : Part w e v xs) (hg : w.grownBy w' row) (hne : v.ownBlock = none ∨ v.ownBlock ≠ row) : Part w' e v xs := by
  have hlt := h.lt
  rcases h with ⟨rfl, hx⟩ | ⟨g, off, cap, cur, rfl, h1, h2⟩
  · exact .inl ⟨rfl, hx⟩
  · refine .inr ⟨g, off, cap, cur, rfl, ?_, h2⟩
    rw [hg.block g (hlt g rfl) ?_]
    · exact h1
    · rcases hne with hne | hne
      · simp [Value.ownBlock] at hne
      · simpa [Value.ownBlock] using hne

theorem grownBy_below {w w' : World} (h : Below w.heap.size w w') (row : Option Nat) : w.grownBy w' row := ⟨h.os, h.tape, h.output, h.size, fun k hk _ => h.block k hk⟩
theorem Part.below {w w' : World} {e : TypeId} {v : Value} {xs : List Value} (h : Part w e v xs) (hb : Below w.heap.size w w') : Part w' e v xs :=
  h.kept (grownBy_below hb none) (by cases hv : v.ownBlock <;> simp)

theorem Part.own {w : World} {B : Nat} {e : TypeId} {v : Value} {n : Nat} {xs : List Value} (h : w.ownsRow B e 1 v n xs) : Part w e v xs := by
  have hl : xs.length = n := by have := h.1; omega
  rcases h.2 with ⟨rfl, rfl⟩ | ⟨g, cap, cur, rfl, hb, hg, hle, hm, hs, ht⟩
  · exact .inl ⟨rfl, List.length_eq_zero_iff.1 hl⟩
  · exact .inr ⟨g, 0, cap, cur, by rw [hl], hg, by omega, hm, by omega, by rw [hl]; simpa using ht⟩

theorem Part.cells {w : World} {e : TypeId} {g off n cap : Nat} {xs : List Value} (h : Part w e (.slice (some ⟨g, off, none⟩) n cap) xs) : ∀ j u, xs[j]? = some u → w.cell? ⟨g, off + j, none⟩ = some u := by
  intro j u hj
  rcases h with ⟨h, _⟩ | ⟨g', off', cap', cur, hv, hg, hle, hm, hs, ht⟩
  · simp at h
  · simp at hv
    obtain ⟨⟨rfl, rfl⟩, rfl, rfl⟩ := hv
    have hjl : j < xs.length := (List.getElem?_eq_some_iff.1 hj).1
    rw [cell_of_row w g (off + j) cur e (0, 0) hg]
    rw [← ht, List.getElem?_take_of_lt hjl, List.getElem?_drop] at hj
    simpa using hj

theorem Part.reads {w : World} {e : TypeId} {v : Value} {xs : List Value} (h : Part w e v xs) : Reads w v xs := by
  rcases id h with ⟨rfl, rfl⟩ | ⟨g, off, cap, cur, rfl, hg, hle, hm, hs, ht⟩
  · exact ⟨none, 0, rfl, fun _ => ⟨rfl, rfl⟩, fun x hx => by cases hx⟩
  · refine ⟨_, cap, rfl, fun h => (by cases h), fun x hx j y hj => ?_⟩
    cases hx
    rw [add_plain]
    exact h.cells j y hj

theorem Part.seg {k : IntKind} {w : World} {e : TypeId} {v : Value} {l : List Int} (h : Part w e v (l.map (Value.int k))) : Seg k w v l := by
  rcases id h with ⟨rfl, hx⟩ | ⟨g, off, cap, cur, rfl, hg, hle, hm, hs, ht⟩
  · have : l = [] := by simpa using hx
    subst this
    exact Seg.nil _ _
  · rw [List.length_map] at hle
    rw [List.length_map] at h ⊢
    refine ⟨_, cap, rfl, hle, hm, fun h => (by cases h), fun x hx i hi => ?_⟩
    cases hx
    rw [add_plain]
    exact h.cells i _ (by simp [List.getD, hi])

theorem Seg.reads {k : IntKind} {w : World} {v : Value} {l : List Int} (h : Seg k w v l) : Reads w v (l.map (Value.int k)) := by
  obtain ⟨a, cap, rfl, h1, h2, h3, h4⟩ := h
  refine ⟨a, cap, by rw [List.length_map], fun ha => ?_, fun x hx => map_cells fun i hi => h4 x hx i hi⟩
  obtain ⟨rfl, rfl⟩ := h3 ha
  exact ⟨rfl, rfl⟩

/-- append onto a part. -/
theorem run_append_part {P : Program} (w : World) (t ty e : TypeId) (i : TypeInfo) (z : Value) (bytes : Nat) (ht : P.underlying t = some (.slice e)) (hi : P.info? e = some i) (hz : i.zero = some z)
    (hsize : i.size = 1) (hby : i.bytes = bytes) (hzs : z.cells.size = 1) (v u : Value) (xs ys : List Value) (hv : Part w e v xs) (hu : Reads w u ys) (h1 : ∀ y ∈ ys, y.oneCell' = true)
    (h63 : xs.length + ys.length ≤ maxLen) (hbytes : (xs.length + ys.length) * bytes ≤ 140737488355328) :
    ∃ v' w', (Builtin.append_ #[t, t] ty #[v, u]).run P w = .ok v' w' ∧ Part w' e v' (xs ++ ys) ∧ w.grownBy w' v.ownBlock ∧ (v'.ownBlock = v.ownBlock ∨ ∃ k, v'.ownBlock = some k ∧ w.heap.size ≤ k) := by
  have fresh : ∀ v' w', w'.ownsRow w.heap.size e 1 v' (xs.length + ys.length) (xs ++ ys) → Part w' e v' (xs ++ ys) ∧ (v'.ownBlock = none ∨ ∃ k, v'.ownBlock = some k ∧ w.heap.size ≤ k) := by
    intro v' w' ho
    refine ⟨Part.own ho, ?_⟩
    cases hv' : v'.ownBlock with
    | none => exact .inl rfl
    | some k => exact .inr ⟨k, rfl, (ho.lt k hv').1⟩
  obtain ⟨a, cp, rfl, hn, hc⟩ := hu
  rcases id hv with ⟨rfl, rfl⟩ | ⟨g, off, cap, cur, rfl, hg, hle, hm, hs, hts⟩
  · rcases a with _ | x
    · obtain ⟨rfl, rfl⟩ := hn rfl
      exact ⟨_, w, run_append_owned_none (P := P) (w := w) w.heap.size t ty e i 1 ht hi _ 0 [] (World.ownsRow_nil _ _ _ _), hv, grownBy_refl _ _, .inl rfl⟩
    · obtain ⟨v', w', hr, ho, hgr, _⟩ := run_append_own (P := P) w w.heap.size t ty e i z 1 bytes ht hi hz hsize hby hzs (by decide) (.slice none 0 0) 0 [] (World.ownsRow_nil _ _ _ _) x ys.length cp ys (by simp) (fun j y hj => hc x rfl j y hj) h1 (by simpa using h63) (by simpa using hbytes) (Nat.le_refl _)
      obtain ⟨f1, f2⟩ := fresh v' w' (by simpa using ho)
      refine ⟨v', w', hr, f1, hgr, ?_⟩
      rcases f2 with f2 | f2
      · exact .inl f2
      · exact .inr f2
  · rcases a with _ | x
    · obtain ⟨rfl, rfl⟩ := hn rfl
      refine ⟨.slice (some ⟨g, off, none⟩) xs.length cap, w, ?_, by simpa using hv, grownBy_refl _ _, .inl rfl⟩
      have hle2 : xs.length + 0 ≤ cap := by omega
      simp [Builtin.append_, run_underlying ht, sizeOf, typeInfo, hi, Builtin.lenOf, Builtin.firstCells, hle, storeCells]
    · by_cases hroom : xs.length + ys.length ≤ cap
      · have hf := run_firstCells_some (P := P) w i.size ys.length x ys.length cp ys (by rw [hsize]; simp) (fun j y hj => hc x rfl j y hj)
        have hst := run_storeCells_at P g (off + xs.length * i.size) e ys 0 cur w hg (by rw [hsize]; omega) h1
        simp only [Nat.add_zero] at hst
        refine ⟨.slice (some ⟨g, off, none⟩) (xs.length + ys.length) cap, w.setRow g (cur.toList.take (off + xs.length * i.size) ++ ys ++ cur.toList.drop (off + xs.length * i.size + ys.length)).toArray, ?_, ?_, ⟨rfl, rfl, rfl, by simp, fun k _ hk => setRow_other w g k _ (fun e => hk (by simp [Value.ownBlock, e]))⟩, .inl rfl⟩
        · simp [Builtin.append_, run_underlying ht, sizeOf, typeInfo, hi, Builtin.lenOf, hroom, hf, Addr.add_lit, hst]
        · refine .inr ⟨g, off, cap, _, by rw [List.length_append], setRow_heap w g cur _ e _ hg, by rw [List.length_append]; exact hroom, hm, ?_, ?_⟩
          · simp only [hsize, List.size_toArray, List.length_append, List.length_take, List.length_drop, Array.length_toList]
            omega
          · have e1 : (cur.toList.take (off + xs.length)).drop off = xs := by
              rw [List.drop_take, Nat.add_sub_cancel_left]
              exact hts
            have hl1 : (cur.toList.take (off + xs.length)).length = off + xs.length := by
              have hz : cur.toList.length = cur.size := Array.length_toList
              rw [List.length_take]
              omega
            simp only [hsize, Nat.mul_one]
            rw [List.append_assoc, List.drop_append_of_le_length (by omega), e1, ← List.append_assoc, List.take_left]
      · obtain ⟨v', w', hr, ho, hgr⟩ := run_append_arg_grows (P := P) w t ty e i z 1 bytes ht hi hz hsize hby hzs (by decide) ⟨g, off, none⟩ xs.length cap xs (by simp) (fun j u hj => by rw [Addr.add_lit]; exact hv.cells j u hj) x ys.length cp ys (by simp) (fun j y hj => hc x rfl j y hj) (by omega) h63 hbytes
        obtain ⟨f1, f2⟩ := fresh v' w' ho
        refine ⟨v', w', hr, f1, ⟨hgr.os, hgr.tape, hgr.output, hgr.size, fun k hk _ => hgr.block k hk (by simp)⟩, ?_⟩
        rcases f2 with f2 | f2
        · exfalso
          rcases ho.2 with ⟨_, h0⟩ | ⟨g', cap', cur', hv', _⟩
          · omega
          · rw [hv'] at f2
            simp [Value.ownBlock] at f2
        · exact .inr f2

theorem wpList_append_part {P : Program} (w : World) {ops : Array Oper} {rest : List Oper} {o : Oper} {a : Act} {Q : Exit → Act → World → Prop} (hgd : o.guard = none) (s x : Operand) (t : TypeId)
    (ho : o.op = .call { callee := .builtin .append, args := #[s, x], argTypes := #[t, t] }) (e : TypeId) (i : TypeInfo) (z : Value) (bytes : Nat) (ht : P.underlying t = some (.slice e)) (hi : P.info? e = some i) (hz : i.zero = some z)
    (hsize : i.size = 1) (hby : i.bytes = bytes) (hzs : z.cells.size = 1) (v u : Value) (xs ys : List Value) (hs : a.eval s = v) (hx : a.eval x = u) (hv : Part w e v xs) (hu : Reads w u ys) (h1 : ∀ y ∈ ys, y.oneCell' = true)
    (h63 : xs.length + ys.length ≤ maxLen) (hbytes : (xs.length + ys.length) * bytes ≤ 140737488355328)
    (h : ∀ v' w', Part w' e v' (xs ++ ys) → w.grownBy w' v.ownBlock → (v'.ownBlock = v.ownBlock ∨ ∃ k, v'.ownBlock = some k ∧ w.heap.size ≤ k) → wpList P ops Q rest (a.put o.dst v') w') : wpList P ops Q (o :: rest) a w := by
  refine wpList_plain hgd fun K hK => ?_
  obtain ⟨v', w', hr, r1, r2, r3⟩ := run_append_part (P := P) w t o.type e i z bytes ht hi hz hsize hby hzs v u xs ys hv hu h1 h63 hbytes
  unfold Oper.wp
  simp [execOp, ho, resolve, invoke, builtin, hs, hx, hr, Result.andThen]
  exact hK _ _ (h v' w' r1 r2 r3)

/-- Its row is the call's own, from block n on; rows that are not the same; where an append's answer lies. -/
def Since (n : Nat) (v : Value) : Prop := ∀ k, v.ownBlock = some k → n ≤ k
def Apart (u v : Value) : Prop := ∀ k, u.ownBlock = some k → v.ownBlock ≠ some k
def Moved (w : World) (v v' : Value) : Prop := v'.ownBlock = v.ownBlock ∨ ∃ k, v'.ownBlock = some k ∧ w.heap.size ≤ k

def Till (n : Nat) (v : Value) : Prop := ∀ k, v.ownBlock = some k → k < n
theorem Till.own {w : World} {B : Nat} {e : TypeId} {size : Nat} {v : Value} {n : Nat} {xs : List Value} (h : w.ownsRow B e size v n xs) : Till w.heap.size v := fun k hk => (h.lt k hk).2
theorem Till.mono {n m : Nat} {v : Value} (h : Till n v) (hm : n ≤ m) : Till m v := fun k hk => Nat.lt_of_lt_of_le (h k hk) hm
theorem Since.mono {n m : Nat} {v : Value} (h : Since n v) (hm : m ≤ n) : Since m v := fun k hk => Nat.le_trans hm (h k hk)
theorem Since.own {w : World} {B : Nat} {e : TypeId} {size : Nat} {v : Value} {n : Nat} {xs : List Value} (h : w.ownsRow B e size v n xs) : Since B v := fun k hk => (h.lt k hk).1
theorem Since.apart {w : World} {e : TypeId} {v u : Value} {xs : List Value} (hv : Part w e v xs) (hu : Since w.heap.size u) : Apart u v := fun k hk hk' => by
  have h1 := hv.lt k hk'
  have h2 := hu k hk
  omega
theorem Since.apart' {w : World} {e : TypeId} {v u : Value} {xs : List Value} (hv : Part w e v xs) (hu : Since w.heap.size u) : Apart v u := fun k hk hk' => by
  have h1 := hv.lt k hk
  have h2 := hu k hk'
  omega
theorem Apart.symm {u v : Value} (h : Apart u v) : Apart v u := fun k hk hk' => h k hk' hk
theorem Moved.since {w : World} {v v' : Value} {B : Nat} (h : Moved w v v') (hs : Since B v) (hB : B ≤ w.heap.size) : Since B v' := by
  intro k hk
  rcases h with h | ⟨j, h, hj⟩
  · exact hs k (by rw [← h]; exact hk)
  · rw [hk] at h
    cases h
    omega
theorem Moved.apart {w : World} {v v' u : Value} (h : Moved w v v') (ha : Apart u v) (hu : Till w.heap.size u) : Apart u v' := by
  intro k hk hk'
  rcases h with h | ⟨j, h, hj⟩
  · exact ha k hk (by rw [← h]; exact hk')
  · rw [hk'] at h
    cases h
    have := hu _ hk
    omega
theorem Apart.ne {u v : Value} (h : Apart u v) : u.ownBlock = none ∨ u.ownBlock ≠ v.ownBlock := by
  cases hu : u.ownBlock with
  | none => exact .inl rfl
  | some k => exact .inr fun he => h k hu he.symm
theorem Seg.spared {k : IntKind} {w w' : World} {u : Value} {l : List Int} {row : Option Nat} (h : Seg k w u l) (hg : w.grownBy w' row) (hne : u.ownBlock = none ∨ u.ownBlock ≠ row) : Seg k w' u l := by
  obtain ⟨a, cap, rfl, h1, h2, h3, h4⟩ := h
  refine ⟨a, cap, rfl, h1, h2, h3, fun x hx i hi => ?_⟩
  subst hx
  have hc := h4 x rfl i hi
  refine hg.cell hc ?_
  rcases hne with hne | hne
  · simp [Value.ownBlock] at hne
  · have hb : (x.add i).block = x.block := by unfold Addr.add; split <;> rfl
    rw [hb]
    simpa [Value.ownBlock] using hne
theorem below_by {B : Nat} {a w w' : World} {v : Value} (h : Below B a w) (hg : w.grownBy w' v.ownBlock) (hB : B ≤ w.heap.size) (hs : Since B v) : Below B a w' := h.grown hg hB hs

theorem Try.info22 : (Try.prog.info? 22).map (fun i => (i.zero, i.size, i.bytes)) = some (some (.slice none 0 0), 1, 24) := by kernel_rfl

/-- Octets, and texts. -/
theorem wpList_append_oct {ops : Array Oper} {rest : List Oper} {o : Oper} {a : Act} {Q : Exit → Act → World → Prop} (w : World) (hgd : o.guard = none) (s x : Operand)
    (ho : o.op = .call { callee := .builtin .append, args := #[s, x], argTypes := #[22, 22] }) (v u : Value) (l m : List Int) (hs : a.eval s = v) (hx : a.eval x = u) (hv : Part w 5 v (u8s l)) (hu : Seg .u8 w u m)
    (hlen : l.length + m.length ≤ 140737488355328)
    (h : ∀ v' w', Part w' 5 v' (u8s (l ++ m)) → w.grownBy w' v.ownBlock → Moved w v v' → wpList Try.prog ops Q rest (a.put o.dst v') w') : wpList Try.prog ops Q (o :: rest) a w := by
  obtain ⟨i0, hi, hz0, hz1, hz2⟩ := info_parts Try.info5
  refine wpList_append_part w hgd s x 22 ho 5 i0 (.int .u8 0) 1 Try.underlying22 hi hz0 hz1 hz2 rfl v u (u8s l) (u8s m) hs hx hv hu.reads map_one (by simp only [List.length_map]; unfold maxLen; omega) (by simp only [List.length_map]; omega) ?_
  intro v' w' h1 h2 h3
  rw [octets_app] at h1
  exact h v' w' h1 h2 h3
theorem wpList_append_txt {ops : Array Oper} {rest : List Oper} {o : Oper} {a : Act} {Q : Exit → Act → World → Prop} (w : World) (hgd : o.guard = none) (s x : Operand)
    (ho : o.op = .call { callee := .builtin .append, args := #[s, x], argTypes := #[73, 73] }) (v u : Value) (xs ys : List Value) (hs : a.eval s = v) (hx : a.eval x = u) (hv : Part w 22 v xs) (hu : Reads w u ys) (h1 : ∀ y ∈ ys, y.oneCell' = true)
    (hlen : xs.length + ys.length ≤ 5864062014805)
    (h : ∀ v' w', Part w' 22 v' (xs ++ ys) → w.grownBy w' v.ownBlock → Moved w v v' → wpList Try.prog ops Q rest (a.put o.dst v') w') : wpList Try.prog ops Q (o :: rest) a w := by
  obtain ⟨i0, hi, hz0, hz1, hz2⟩ := info_parts Try.info22
  exact wpList_append_part w hgd s x 73 ho 22 i0 (.slice none 0 0) 24 Try.underlying73 hi hz0 hz1 hz2 rfl v u xs ys hs hx hv hu h1 (by unfold maxLen; omega) (by omega) h
end Go.Proofs.Ytoadcaennlfadaa

namespace Go.Proofs.Ytoadcaennlfadaa
open Go.RowKit
set_option maxRecDepth 20000

theorem Pl.errP_good {p : List Int} (h1 : 1 ≤ p.length) (h2 : p.length ≤ 4096) : Pl.errP p = 0 := by unfold Pl.errP; rw [if_neg (by omega), if_neg (by omega)]

set_option maxHeartbeats 400000 in
theorem fput_bad (v u : Value) (p : List Int) (w : World) (b off cap : Nat) (hc : w.cell? ⟨b, off, none⟩ = some u) (hp : Seg .u8 w u p) (hbad : Pl.errP p ≠ 0) :
    Calls Try.prog 39 #[v, .slice (some ⟨b, off, none⟩) 1 cap] w fun e w' => e = .returned (.tuple #[.slice none 0 0, .int .i64 (Pl.errP p)]) ∧ w = w' := by
  have hm := mayGo_one w _ u p b off cap rfl hc hp
  generalize Pl.errP p = z at *
  have hb : (z == 0) = false := by simp; exact hbad
  go_enter Try.func39, Try.ntmps39
  go_wp2_with (go_at_call 56; refine hm.mono ?_; rintro e w1 ⟨rfl, rfl⟩)
  go_ret2
  exact ⟨rfl, rfl⟩

/-- One number as octets, as it is handed over. -/
theorem vput_one (n : Nat) (w : World) (k : Nat) (hk : w.heap.size = k) (hn : n ≤ 4096) :
    Calls Try.prog 48 #[.slice none 0 0, .slice (some ⟨k, 0, none⟩) 1 1] (w.alloc (.cells #[.int .u64 (n : Int)] 58)) fun e w' => ∃ v', e = .returned v' ∧ w'.ownsRow k 5 1 v' (Pl.enc 9 n).length (u8s (Pl.enc 9 n)) ∧ Below k w w' := by
  subst hk
  refine (put_any _ _ [] [(n : Int)] _ (Seg.nil _ _) (seg_one w n) (by intro z hz; simp at hz; omega) (by simp)).mono ?_
  rintro e w' ⟨v', rfl, ho, hb⟩
  have he : [] ++ encs [(n : Int)] = Pl.enc 9 n := by simp [encs]
  rw [he] at ho
  have hal := (Below.refl w.heap.size w).alloc (Nat.le_refl _) (.cells #[.int .u64 (n : Int)] 58)
  refine ⟨v', rfl, ownsRow_lower ho (by simp), hal.trans (hb.mono (by simp))⟩

/-- The sum's octets of two texts, as they are handed over. -/
theorem fsum_two {w : World} {v u : Value} {l m : List Int} (n : Nat) (hn : w.heap.size = n) (h : Seg .u8 w v l) (k : Seg .u8 w u m) (ho : Pl.Octs l) (hm : Pl.Octs m) :
    Calls Try.prog 58 #[.slice (some ⟨n, 0, none⟩) 2 2] (w.alloc (.cells #[v, u] 22)) fun e w' => ∃ v', e = .returned v' ∧ w'.ownsRow n 5 1 v' 4 (u8s (Pl.four (Pl.sumOf (l ++ m)))) ∧ Below n w w' := by
  subst hn
  have := fsum_any _ [l, m] _ (Segs.two 22 h k) (by intro z hz; simp at hz; rcases hz with rfl | rfl <;> assumption)
  rw [show [l, m].flatten = l ++ m by simp] at this
  refine this.mono ?_
  rintro e w' ⟨v', rfl, ho, hb⟩
  have hal := (Below.refl w.heap.size w).alloc (Nat.le_refl _) (.cells #[v, u] 22)
  exact ⟨v', rfl, ownsRow_lower ho (by simp), hal.trans (hb.mono (by simp))⟩

set_option maxHeartbeats 1000000 in
theorem fput_good (v u : Value) (l p : List Int) (w : World) (b off cap : Nat) (hs : Seg .u8 w v l) (hc : w.cell? ⟨b, off, none⟩ = some u) (hp : Seg .u8 w u p) (hf : Pl.fits p) (hlen : l.length + 4110 ≤ 140737488355328) :
    Calls Try.prog 39 #[v, .slice (some ⟨b, off, none⟩) 1 cap] w fun e w' => ∃ v', e = .returned (.tuple #[v', .int .i64 0]) ∧ Part w' 5 v' (u8s (l ++ Pl.frameOf p)) ∧ Since w.heap.size v' ∧ Below w.heap.size w w' := by
  obtain ⟨hf1, hf2, hoc⟩ := hf
  have hm := mayGo_one w _ u p b off cap rfl hc hp
  rw [Pl.errP_good hf1 hf2] at hm
  have hel := Pl.enc_len_le 9 p.length
  obtain ⟨ax, cx, hx, hx1, hx2, hx3, hx4⟩ := id hp
  subst hx
  clear hx3 hx4
  unfold maxLen at hx2
  go_enter Try.func39, Try.ntmps39
  go_wp2_with (first | (go_at_call 56; refine hm.mono ?_; rintro e w1 ⟨rfl, rfl⟩) | (go_at_call 57; refine (ffresh_any v l w hs (by omega)).mono ?_; rintro e w1 ⟨v1, rfl, hown1, hb1⟩))
  have hc1 := (hb1.cell (World.block_lt_of_cell? w _ hc)).trans hc
  have hp1 := hp.below hb1
  refine wp_loop_rounds 2 ?_
  rw [rounds_succ]
  go_wp2_with fail
  refine (vput_one p.length w1 _ rfl hf2).mono ?_
  rintro e w2 ⟨v2, rfl, hown2, hb2⟩
  have hs2 := Seg.own hown2
  have hP2 := (Part.own hown1).below (hb2.mono (Nat.le_refl _))
  have hsi1 := Since.own hown1
  have ha2 : Apart v2 v1 := (Since.own hown2).apart (Part.own hown1)
  have hl2 := Till.own hown2
  have hsz1 := hb1.size
  have hsz2 := hb2.size
  have hb02 := hb1.trans (hb2.mono hsz1)
  clear hown1 hb2 hown2 hc1 hp1 hm hs hb1
  obtain ⟨a2, cp2, hv2, _, _, _, _⟩ := id hs2
  generalize hen : (Pl.enc 9 p.length).length = n2 at hv2
  subst hv2
  go_wp2_with (first
    | (at_builtin; refine wpList_append_oct _ rfl (.tmp 29) (.tmp 30) rfl v1 _ l (Pl.enc 9 p.length) rfl rfl hP2 hs2 (by omega) ?_; intro v3 w3 hP3 hg3 hm3; have hb3 := below_by hb02 hg3 hb02.size hsi1; have hsi3 := hm3.since hsi1 hb02.size; have hs3 := hs2.spared hg3 ha2.ne; have ha3 := hm3.apart ha2 hl2; have hp3 := hp.below hb3; have hl3 := hg3.size)
    | (at_builtin; refine wpList_append_oct _ rfl (.tmp 32) (.tmp 33) rfl v3 _ (l ++ Pl.enc 9 p.length) p rfl rfl hP3 hp3 (by simp only [List.length_append]; omega) ?_; intro v4 w4 hP4 hg4 hm4; have hb4 := below_by hb3 hg4 hb3.size hsi3; have hsi4 := hm4.since hsi3 hb3.size; have hs4 := hs3.spared hg4 ha3.ne; have hp4 := hp.below hb4))
  refine (fsum_two w4.heap.size rfl hs4 hp4 (Pl.enc_oct 9 _ (by omega) (by rw [Pl.lim9]; omega)) hoc).mono ?_
  rintro e w5 ⟨v5, rfl, hown5, hb5⟩
  have hP5 := hP4.below hb5
  have hs5 := Seg.own (l := Pl.four (Pl.sumOf (Pl.enc 9 p.length ++ p))) hown5
  have hb05 := hb4.trans (hb5.mono hb4.size)
  have hfr : l ++ Pl.enc 9 p.length ++ p ++ Pl.four (Pl.sumOf (Pl.enc 9 p.length ++ p)) = l ++ Pl.frameOf p := by simp [Pl.frameOf, Pl.bodyOf]
  clear hP4 hs4 hp4 hb5 hown5 hg4 hm4 hb4 hs3 hp3 hg3 hm3 hb3 hs2 hP2 hl2 ha2 ha3 hP3 hl3
  go_wp2_with (at_builtin; refine wpList_append_oct _ rfl (.tmp 35) (.tmp 39) rfl v4 v5 (l ++ Pl.enc 9 p.length ++ p) (Pl.four (Pl.sumOf (Pl.enc 9 p.length ++ p))) rfl rfl hP5 hs5 (by simp only [List.length_append, Pl.four_len]; omega) ?_; intro v6 w6 hP6 hg6 hm6; have hb6 := below_by hb05 hg6 hb05.size hsi4; have hsi6 := hm6.since hsi4 hb05.size; rw [hfr] at hP6)
  rw [rounds_succ]
  go_wp2
  go_ret2
  exact ⟨_, rfl, hP6, hsi6, hb6⟩
end Go.Proofs.Ytoadcaennlfadaa

