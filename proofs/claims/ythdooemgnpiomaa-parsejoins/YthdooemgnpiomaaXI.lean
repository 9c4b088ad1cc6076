/- lex: read: one more token. -/
import Derived.Test.YthdooemgnpiomaaXH
import Derived.Deep.RegionLaw
import Derived.Deep.AppendLies
namespace Go.Proofs.Ythdooemgnpiomaa
open Go.RowKit

/-- A token as the program has it: kind, text, line. -/
abbrev T3 := Nat × ByteArray × Nat
def tcells (t : T3) : List Value := [.int .i64 (t.1 : Int), .string t.2.1, .int .i64 (t.2.2 : Int)]
def rowT (l : List T3) : List Value := l.flatMap tcells
def asTok (t : T3) : Pl.Tok := ⟨t.1, bl t.2.1, t.2.2⟩

theorem Try.info36 : (Try.prog.info? 36).map (fun i => (i.zero, i.size, i.bytes)) = some (some (.agg #[.int .i64 0, .string ⟨#[]⟩, .int .i64 0]), 3, 32) := by kernel_rfl

theorem step_call1 {P : Program} {w : World} {ops : Array Oper} {o : Oper} {a : Act} {K : Act → World → Prop} {Q : Exit → Act → World → Prop} {E : Prop} {v : Value} (f : Nat) (eg : ∀ args w, (callFunc f args).run P w = .ok (.enter f args) w) (hg : o.guard = none) (s : Nat) (ts : Array TypeId) (hop : o.op = .call { callee := .value (.func f), args := #[.tmp s], argTypes := ts }) (hs : a.tmps.getD s undef = v)
    (h : Calls P f #[v] w fun e w' => ∃ u, e = .returned u ∧ K (a.put o.dst u) w') : if Region.wanted o (yielded ops a.tmps) = true then Oper.wp P o a w K Q else E := by
  have hw : Region.wanted o (yielded ops a.tmps) = true := by simp [Region.wanted, hg]
  rw [if_pos hw]
  unfold Oper.wp
  have hs' : a.eval (.tmp s) = v := hs
  have hrun : (execOp a.eval o).run P w = .ok (.enter f #[v]) w := by
    simp [execOp, hop, hs', resolve, invoke, show a.eval (.func f) = .func (.func f) #[] #[] from rfl, Deferred.ofValue, eg]
  rw [hrun]
  refine h.mono ?_
  rintro e w' ⟨u, rfl, hk⟩
  exact hk

theorem Try.enter30 : ∀ args w, (callFunc 63 args).run Try.prog w = .ok (.enter 63 args) w := fun _ _ => rfl

/-- The tokens in their row. -/
def Toks (B : Nat) (w : World) (v : Value) (l : List T3) : Prop := w.ownsRow B 36 3 v l.length (rowT l)

theorem Toks.other {B : Nat} {w : World} {v : Value} {l : List T3} (h : Toks B w v l) {n : Nat} {cs : Array Value} {T : TypeId} (hn : w.heap[n]? = some (.cells cs T (0, 0))) (hT : T ≠ 36) : v.ownBlock ≠ some n := by
  intro he
  rcases h.2 with ⟨rfl, _⟩ | ⟨g, cap, cur, rfl, _, hg, _⟩
  · simp [Value.ownBlock] at he
  · simp [Value.ownBlock] at he
    subst he
    rw [hg] at hn
    simp at hn
    exact hT hn.2.symm

theorem Toks.kept {B : Nat} {w w' : World} {v : Value} {l : List T3} {row : Option Nat} (h : Toks B w v l) (hg : w.grownBy w' row) (hne : v.ownBlock ≠ row ∨ v.ownBlock = none) : Toks B w' v l := by
  refine ⟨h.1, ?_⟩
  rcases h.2 with h0 | ⟨g, cap, cur, rfl, hb, hgg, hr⟩
  · exact .inl h0
  · refine .inr ⟨g, cap, cur, rfl, hb, ?_, hr⟩
    have hlt : g < w.heap.size := by
      rcases Nat.lt_or_ge g w.heap.size with hlt | hge
      · exact hlt
      · rw [Array.getElem?_eq_none hge] at hgg; cases hgg
    rw [hg.block g hlt ?_]
    · exact hgg
    · rcases hne with hne | hne
      · simpa [Value.ownBlock] using hne
      · simp [Value.ownBlock] at hne
theorem Toks.grown {B n : Nat} {w w' : World} {v : Value} {l : List T3} (h : Toks B w v l) (hg : w.grownBy w' (some n)) {cs : Array Value} {T : TypeId} (hn : w.heap[n]? = some (.cells cs T (0, 0))) (hT : T ≠ 36) : Toks B w' v l := h.kept hg (.inl (h.other hn hT))
theorem Toks.below {B : Nat} {w w' : World} {v : Value} {l : List T3} (h : Toks B w v l) (hb : Below w.heap.size w w') : Toks B w' v l := by
  cases hv : v.ownBlock with
  | none => exact h.kept (grown_below hb none) (.inr hv)
  | some k => exact h.kept (grown_below hb none) (.inl (by rw [hv]; simp))

theorem Toks.shape {B : Nat} {w : World} {v : Value} {l : List T3} (h : Toks B w v l) : ∃ ad cp, v = .slice ad l.length cp := by
  rcases h.2 with ⟨rfl, h0⟩ | ⟨g, cap, cur, rfl, _⟩
  · exact ⟨none, 0, by rw [h0]⟩
  · exact ⟨_, _, rfl⟩
theorem Toks.more {B : Nat} {w : World} {v : Value} {n : Nat} {l : List T3} {t : T3} (h : w.ownsRow B 36 3 v n (rowT l ++ tcells t)) (hn : n = l.length + 1) : Toks B w v (l ++ [t]) := by
  subst hn
  unfold Toks rowT
  rw [List.length_append, List.flatMap_append]
  simpa [rowT] using h

theorem below_grown {B : Nat} {a b c : World} {row : Option Nat} (h : Below B a b) (hg : b.grownBy c row) (hB : B ≤ b.heap.size) (hr : ∀ j, row = some j → B ≤ j) : Below B a c :=
  h.trans ⟨hg.os, hg.tape, hg.output, hg.size, fun j hj => hg.block j (by omega) (fun e => by have := hr j e.symm; omega)⟩
theorem Toks.since {B : Nat} {w : World} {v : Value} {l : List T3} (h : Toks B w v l) : ∀ j, v.ownBlock = some j → B ≤ j := by
  intro j hj
  rcases h.2 with ⟨rfl, _⟩ | ⟨g, cap, cur, rfl, hb, _⟩
  · simp [Value.ownBlock] at hj
  · simp [Value.ownBlock] at hj
    omega

theorem read_end {B n : Nat} {w w1 w3 w5 : World} {s x : ByteArray} {a l k g cap : Nat} {tv : Value} {toks : List T3} {o : Obj} (hBn : B ≤ n) (hb1 : Below B w w1) (hb33 : Below w1.heap.size w1 w3) (hlt : n < w1.heap.size) (hT3 : Toks B w3 tv toks)
    (hown5 : w5.ownsRow B 36 3 (.slice (some ⟨g, 0, none⟩) (toks.length + 1) cap) (toks.length + 1) (rowT toks ++ tcells (k, x, l))) (hgr5 : (w3.alloc o).grownBy w5 tv.ownBlock) (hA5 : At n 86 [tv] w5 s a l) :
    (∃ tv', At n 86 [tv'] (w5.setCell ⟨n, 3, none⟩ (.slice (some ⟨g, 0, none⟩) (toks.length + 1) cap)) s a l ∧ Toks B (w5.setCell ⟨n, 3, none⟩ (.slice (some ⟨g, 0, none⟩) (toks.length + 1) cap)) tv' (toks ++ [(k, x, l)])) ∧ Below B w (w5.setCell ⟨n, 3, none⟩ (.slice (some ⟨g, 0, none⟩) (toks.length + 1) cap)) := by
  have hsz3 := hb33.size
  have hT5 : Toks B w5 (.slice (some ⟨g, 0, none⟩) (toks.length + 1) cap) (toks ++ [(k, x, l)]) := Toks.more hown5 rfl
  have hg6 := grown_set w5 n 3 (.slice (some ⟨g, 0, none⟩) (toks.length + 1) cap)
  refine ⟨⟨_, ?_, hT5.grown hg6 hA5 (by decide)⟩, ?_⟩
  · unfold At at hA5 ⊢
    rw [heap_setCell_same w5 n 3 _ 86 _ hA5]
    rfl
  · have hb3 : Below B w (w3.alloc o) := (hb1.trans (hb33.mono (by omega))).alloc (by omega) o
    have hb5 : Below B w w5 := below_grown hb3 hgr5 (by simp; omega) hT3.since
    exact below_grown hb5 hg6 (by have := hA5.facts.2.2.2.2; omega) (fun j hj => by cases hj; exact hBn)

set_option maxHeartbeats 4000000 in
set_option maxRecDepth 4000 in
theorem read_any (B n : Nat) (w : World) (s : ByteArray) (a l : Nat) (tv : Value) (toks : List T3) (h : At n 86 [tv] w s a l) (hT : Toks B w tv toks) (hBn : B ≤ n) (ha : a ≤ s.size) (hsz : s.size ≤ 70000) (htl : toks.length ≤ 70000) (k m : Nat) (er : Int) (hN : Pl.nextP ((bl s).drop a) = (k, m, er)) (hm : a + m ≤ s.size) :
    Calls Try.prog 35 #[.pointer (some ⟨n, 0, none⟩)] w fun e w' => e = .returned (.int .i64 er) ∧ (∃ tv', At n 86 [tv'] w' s (a + m) l ∧ Toks B w' tv' (if er = 0 then toks ++ [(k, s.extract a (a + m), l)] else toks)) ∧ Below B w w' := by
  have hn : Calls Try.prog 44 #[.pointer (some ⟨n, 0, none⟩)] w fun e w' => e = .returned (.tuple #[.int .i64 (k : Int), .string (if er = 0 then s.extract a (a + m) else empty), .int .i64 er]) ∧ At n 86 [tv] w' s (a + m) l ∧ w.grownBy w' (some n) := by
    have h1 := next_any n 86 [tv] w s a l h ha (by omega)
    rw [hN] at h1
    exact h1
  have hbn : ∀ w', w.grownBy w' (some n) → Below B w w' := fun w' hg => ⟨hg.os, hg.tape, hg.output, hg.size, fun j hj => by
    have hlt := h.facts.2.2.2.2
    exact hg.block j (by omega) (by simp; omega)⟩
  by_cases her : er = 0
  · subst her
    rw [if_pos rfl] at hn ⊢
    have hxs : (s.extract a (a + m)).size ≤ 70000 := by rw [extract_size s a _ (by omega) hm]; omega
    generalize s.extract a (a + m) = x at hxs hn ⊢
    go_enter Try.func35, Try.ntmps35
    go_wp2_with fail
    refine hn.mono ?_
    rintro e w1 ⟨rfl, hA1, hg1⟩
    have hT1 := hT.grown hg1 h (by decide)
    have hb1 := hbn w1 hg1
    obtain ⟨c0, c1, c2, hf, hlt⟩ := hA1.facts
    have c3 : w1.cell? ⟨n, 3, none⟩ = some tv := by rw [cell_of_row w1 n 3 _ 86 (0, 0) hA1]; rfl
    obtain ⟨ad, cp, rfl⟩ := hT.shape
    obtain ⟨i0, hi, hz0, hz1, hz2⟩ := info_parts Try.info36
    have hbd : Below w1.heap.size w1 w1.drew := (Below.refl _ w1).drew
    go_wp2_with fail
    go_region_law (first
      | (refine step_call1 (v := .string x) (o := { dst := some 24, op := .call { callee := .value (.func 63), args := #[.tmp 23], argTypes := #[9] }, type := _, pos := _, after := _, guard := none }) 63 Try.enter30 rfl 23 _ rfl (by simp [Act.put]) ?_; refine (clone_any x _ hxs).mono ?_; rintro e w3 ⟨rfl, hb3⟩; refine ⟨_, rfl, ?_⟩; have hb33 : Below w1.heap.size w1 w3 := hbd.trans hb3; have hA3 := hA1.below hb33; have hT3 := hT1.below hb33; obtain ⟨d0, d1, d2, hfd, hltd⟩ := hA3.facts; have d3 : w3.cell? ⟨n, 3, none⟩ = some (.slice ad toks.length cp) := (by rw [cell_of_row w3 n 3 _ 86 (0, 0) hA3]; rfl))
      | (refine step_append_lies (o := { dst := some 32, op := .call { callee := .builtin .append, args := #[.tmp 21, .tmp 31], argTypes := #[23, 23] }, type := _, pos := _, after := _, guard := none }) _ rfl (.tmp 21) (.tmp 31) 23 rfl B 36 i0 _ 3 32 Try.underlying23 hi hz0 hz1 hz2 rfl (by decide) (.slice ad toks.length cp) toks.length (rowT toks) rfl (hT3.below ((Below.refl _ w3).alloc (Nat.le_refl _) _)) ⟨w3.heap.size, 0, none⟩ 1 1 (tcells (k, x, l)) rfl rfl (World.news_of_block (heap_alloc_new w3 _)) (fun u hu => by simp [tcells] at hu; rcases hu with rfl | rfl | rfl <;> rfl) (by decide) (by unfold maxLen; omega) (by omega) (by simp; omega) _ rfl ?_; intro g cap w5 hown5 hgr5 hat5 hlt5; have hA5 : At n 86 [.slice ad toks.length cp] w5 s (a + m) l := (hgr5.block n (by simp; omega) (fun e => (hT3.other hA3 (by decide)) e.symm)).trans (hA3.alloc _); obtain ⟨e0, e1, e2, hfe, hlte⟩ := hA5.facts; have e3 : w5.cell? ⟨n, 3, none⟩ = some (.slice ad toks.length cp) := (by rw [cell_of_row w5 n 3 _ 86 (0, 0) hA5]; rfl)))
    all_goals
      go_wp2
      go_ret
      exact ⟨rfl, read_end hBn hb1 hb33 hlt hT3 hown5 hgr5 hA5⟩
  · rw [if_neg her] at hn ⊢
    have hbe : (er != 0) = true := by simp; exact her
    go_enter Try.func35, Try.ntmps35
    go_wp2_with fail
    refine hn.mono ?_
    rintro e w1 ⟨rfl, hA1, hg1⟩
    go_wp2
    go_ret
    exact ⟨rfl, ⟨tv, hA1, hT.grown hg1 h (by decide)⟩, hbn w1 hg1⟩
end Go.Proofs.Ythdooemgnpiomaa
