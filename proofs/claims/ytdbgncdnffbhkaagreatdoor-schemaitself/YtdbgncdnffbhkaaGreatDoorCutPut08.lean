/- lex: read: one more token. lex: Tokens. -/
import Derived.Test.YtdbgncdnffbhkaaGreatDoorCutPut07
import Derived.Deep.RegionLaw
import Derived.Deep.AppendLies
namespace Go.Proofs.YtdbgncdnffbhkaaGreatDoor
open Go.RowKit
set_option maxRecDepth 20000

/-- A token as the program has it: kind, text, line. -/
abbrev T3 := Nat × ByteArray × Nat
def tcells (t : T3) : List Value := [.int .i64 (t.1 : Int), .string t.2.1, .int .i64 (t.2.2 : Int)]
def rowT (l : List T3) : List Value := l.flatMap tcells
def asTok (t : T3) : Pl.Tok := ⟨t.1, bl t.2.1, t.2.2⟩

theorem Tryz.info165 : (Tryz.prog.info? 165).map (fun i => (i.zero, i.size, i.bytes)) = some (some (.agg #[.int .i64 0, .string ⟨#[]⟩, .int .i64 0]), 3, 32) := by kernel_rfl

theorem step_call1 {P : Program} {w : World} {ops : Array Oper} {o : Oper} {a : Act} {K : Act → World → Prop} {Q : Exit → Act → World → Prop} {E : Prop} {v : Value} (f : Nat) (eg : ∀ args w, (callFunc f args).run P w = .ok (.enter f args) w) (hg : o.guard = none) (s : Nat) (ts : Array TypeId) (hop : o.op = .call { callee := .value (.func f), args := #[.tmp s], argTypes := ts }) (hs : a.tmps.getD s undef = v)
    (h : Calls P f #[v] w fun e w' => ∃ u, e = .returned u ∧ K (a.put o.dst u) w') : if Region.wanted o (yielded ops a.tmps) = true then Oper.wp P o a w K Q else E := by
  have hw : Region.wanted o (yielded ops a.tmps) = true := by simp [Region.wanted, hg]
  rw [if_pos hw]
  unfold Oper.wp
  have hs' : a.eval (.tmp s) = v := hs
  have hrun : (execOp a.eval o).run P w = .ok (.enter f #[v]) w := by
    simp [execOp, hop, hs', resolve, invoke, show a.eval (.func f) = .func (.func f) #[] #[] from rfl, Deferred.ofValue, eg]
  rw [hrun]
  refine h.mono ?_
  rintro e w' ⟨u, rfl, hk⟩
  exact hk

theorem Tryz.enter30 : ∀ args w, (callFunc 60 args).run Tryz.prog w = .ok (.enter 60 args) w := fun _ _ => rfl

/-- The tokens in their row. -/
def Toks (B : Nat) (w : World) (v : Value) (l : List T3) : Prop := w.ownsRow B 165 3 v l.length (rowT l)

theorem Toks.other {B : Nat} {w : World} {v : Value} {l : List T3} (h : Toks B w v l) {n : Nat} {cs : Array Value} {T : TypeId} (hn : w.heap[n]? = some (.cells cs T (0, 0))) (hT : T ≠ 165) : v.ownBlock ≠ some n := by
  intro he
  rcases h.2 with ⟨rfl, _⟩ | ⟨g, cap, cur, rfl, _, hg, _⟩
  · simp [Value.ownBlock] at he
  · simp [Value.ownBlock] at he
    subst he
    rw [hg] at hn
    simp at hn
    exact hT hn.2.symm

theorem Toks.kept {B : Nat} {w w' : World} {v : Value} {l : List T3} {row : Option Nat} (h : Toks B w v l) (hg : w.grownBy w' row) (hne : v.ownBlock ≠ row ∨ v.ownBlock = none) : Toks B w' v l := by
  refine ⟨h.1, ?_⟩
  rcases h.2 with h0 | ⟨g, cap, cur, rfl, hb, hgg, hr⟩
  · exact .inl h0
  · refine .inr ⟨g, cap, cur, rfl, hb, ?_, hr⟩
    have hlt : g < w.heap.size := by
      rcases Nat.lt_or_ge g w.heap.size with hlt | hge
      · exact hlt
      · rw [Array.getElem?_eq_none hge] at hgg; cases hgg
    rw [hg.block g hlt ?_]
    · exact hgg
    · rcases hne with hne | hne
      · simpa [Value.ownBlock] using hne
      · simp [Value.ownBlock] at hne
theorem Toks.grown {B n : Nat} {w w' : World} {v : Value} {l : List T3} (h : Toks B w v l) (hg : w.grownBy w' (some n)) {cs : Array Value} {T : TypeId} (hn : w.heap[n]? = some (.cells cs T (0, 0))) (hT : T ≠ 165) : Toks B w' v l := h.kept hg (.inl (h.other hn hT))
theorem Toks.below {B : Nat} {w w' : World} {v : Value} {l : List T3} (h : Toks B w v l) (hb : Below w.heap.size w w') : Toks B w' v l := by
  cases hv : v.ownBlock with
  | none => exact h.kept (grown_below hb none) (.inr hv)
  | some k => exact h.kept (grown_below hb none) (.inl (by rw [hv]; simp))

theorem Toks.shape {B : Nat} {w : World} {v : Value} {l : List T3} (h : Toks B w v l) : ∃ ad cp, v = .slice ad l.length cp := by
  rcases h.2 with ⟨rfl, h0⟩ | ⟨g, cap, cur, rfl, _⟩
  · exact ⟨none, 0, by rw [h0]⟩
  · exact ⟨_, _, rfl⟩
theorem Toks.more {B : Nat} {w : World} {v : Value} {n : Nat} {l : List T3} {t : T3} (h : w.ownsRow B 165 3 v n (rowT l ++ tcells t)) (hn : n = l.length + 1) : Toks B w v (l ++ [t]) := by
  subst hn
  unfold Toks rowT
  rw [List.length_append, List.flatMap_append]
  simpa [rowT] using h

theorem below_grown {B : Nat} {a b c : World} {row : Option Nat} (h : Below B a b) (hg : b.grownBy c row) (hB : B ≤ b.heap.size) (hr : ∀ j, row = some j → B ≤ j) : Below B a c :=
  h.trans ⟨hg.os, hg.tape, hg.output, hg.size, fun j hj => hg.block j (by omega) (fun e => by have := hr j e.symm; omega)⟩
theorem Toks.since {B : Nat} {w : World} {v : Value} {l : List T3} (h : Toks B w v l) : ∀ j, v.ownBlock = some j → B ≤ j := by
  intro j hj
  rcases h.2 with ⟨rfl, _⟩ | ⟨g, cap, cur, rfl, hb, _⟩
  · simp [Value.ownBlock] at hj
  · simp [Value.ownBlock] at hj
    omega

theorem read_end {B n : Nat} {w w1 w3 w5 : World} {s x : ByteArray} {a l k g cap : Nat} {tv : Value} {toks : List T3} {o : Obj} (hBn : B ≤ n) (hb1 : Below B w w1) (hb33 : Below w1.heap.size w1 w3) (hlt : n < w1.heap.size) (hT3 : Toks B w3 tv toks)
    (hown5 : w5.ownsRow B 165 3 (.slice (some ⟨g, 0, none⟩) (toks.length + 1) cap) (toks.length + 1) (rowT toks ++ tcells (k, x, l))) (hgr5 : (w3.alloc o).grownBy w5 tv.ownBlock) (hA5 : At n 162 [tv] w5 s a l) :
    (∃ tv', At n 162 [tv'] (w5.setCell ⟨n, 3, none⟩ (.slice (some ⟨g, 0, none⟩) (toks.length + 1) cap)) s a l ∧ Toks B (w5.setCell ⟨n, 3, none⟩ (.slice (some ⟨g, 0, none⟩) (toks.length + 1) cap)) tv' (toks ++ [(k, x, l)])) ∧ Below B w (w5.setCell ⟨n, 3, none⟩ (.slice (some ⟨g, 0, none⟩) (toks.length + 1) cap)) := by
  have hsz3 := hb33.size
  have hT5 : Toks B w5 (.slice (some ⟨g, 0, none⟩) (toks.length + 1) cap) (toks ++ [(k, x, l)]) := Toks.more hown5 rfl
  have hg6 := grown_set w5 n 3 (.slice (some ⟨g, 0, none⟩) (toks.length + 1) cap)
  refine ⟨⟨_, ?_, hT5.grown hg6 hA5 (by decide)⟩, ?_⟩
  · unfold At at hA5 ⊢
    rw [heap_setCell_same w5 n 3 _ 162 _ hA5]
    rfl
  · have hb3 : Below B w (w3.alloc o) := (hb1.trans (hb33.mono (by omega))).alloc (by omega) o
    have hb5 : Below B w w5 := below_grown hb3 hgr5 (by simp; omega) hT3.since
    exact below_grown hb5 hg6 (by have := hA5.facts.2.2.2.2; omega) (fun j hj => by cases hj; exact hBn)

set_option maxHeartbeats 4000000 in
set_option maxRecDepth 4000 in
theorem read_any (B n : Nat) (w : World) (s : ByteArray) (a l : Nat) (tv : Value) (toks : List T3) (h : At n 162 [tv] w s a l) (hT : Toks B w tv toks) (hBn : B ≤ n) (ha : a ≤ s.size) (hsz : s.size ≤ 70000) (htl : toks.length ≤ 70000) (k m : Nat) (er : Int) (hN : Pl.nextP ((bl s).drop a) = (k, m, er)) (hm : a + m ≤ s.size) :
    Calls Tryz.prog 95 #[.pointer (some ⟨n, 0, none⟩)] w fun e w' => e = .returned (.int .i64 er) ∧ (∃ tv', At n 162 [tv'] w' s (a + m) l ∧ Toks B w' tv' (if er = 0 then toks ++ [(k, s.extract a (a + m), l)] else toks)) ∧ Below B w w' := by
  have hn : Calls Tryz.prog 142 #[.pointer (some ⟨n, 0, none⟩)] w fun e w' => e = .returned (.tuple #[.int .i64 (k : Int), .string (if er = 0 then s.extract a (a + m) else empty), .int .i64 er]) ∧ At n 162 [tv] w' s (a + m) l ∧ w.grownBy w' (some n) := by
    have h1 := next_any n 162 [tv] w s a l h ha (by omega)
    rw [hN] at h1
    exact h1
  have hbn : ∀ w', w.grownBy w' (some n) → Below B w w' := fun w' hg => ⟨hg.os, hg.tape, hg.output, hg.size, fun j hj => by
    have hlt := h.facts.2.2.2.2
    exact hg.block j (by omega) (by simp; omega)⟩
  by_cases her : er = 0
  · subst her
    rw [if_pos rfl] at hn ⊢
    have hxs : (s.extract a (a + m)).size ≤ 70000 := by rw [extract_size s a _ (by omega) hm]; omega
    generalize s.extract a (a + m) = x at hxs hn ⊢
    go_enter Tryz.func95, Tryz.ntmps95
    go_wp2_with fail
    refine hn.mono ?_
    rintro e w1 ⟨rfl, hA1, hg1⟩
    have hT1 := hT.grown hg1 h (by decide)
    have hb1 := hbn w1 hg1
    obtain ⟨c0, c1, c2, hf, hlt⟩ := hA1.facts
    have c3 : w1.cell? ⟨n, 3, none⟩ = some tv := by rw [cell_of_row w1 n 3 _ 162 (0, 0) hA1]; rfl
    obtain ⟨ad, cp, rfl⟩ := hT.shape
    obtain ⟨i0, hi, hz0, hz1, hz2⟩ := info_parts Tryz.info165
    have hbd : Below w1.heap.size w1 w1.drew := (Below.refl _ w1).drew
    go_wp2_with fail
    go_region_law (first
      | (refine step_call1 (v := .string x) (o := { dst := some 24, op := .call { callee := .value (.func 60), args := #[.tmp 23], argTypes := #[9] }, type := _, pos := _, after := _, guard := none }) 60 Tryz.enter30 rfl 23 _ rfl (by simp [Act.put]) ?_; refine (clone_any x _ hxs).mono ?_; rintro e w3 ⟨rfl, hb3⟩; refine ⟨_, rfl, ?_⟩; have hb33 : Below w1.heap.size w1 w3 := hbd.trans hb3; have hA3 := hA1.below hb33; have hT3 := hT1.below hb33; obtain ⟨d0, d1, d2, hfd, hltd⟩ := hA3.facts; have d3 : w3.cell? ⟨n, 3, none⟩ = some (.slice ad toks.length cp) := (by rw [cell_of_row w3 n 3 _ 162 (0, 0) hA3]; rfl))
      | (refine step_append_lies (o := { dst := some 32, op := .call { callee := .builtin .append, args := #[.tmp 21, .tmp 31], argTypes := #[110, 110] }, type := _, pos := _, after := _, guard := none }) _ rfl (.tmp 21) (.tmp 31) 110 rfl B 165 i0 _ 3 32 Tryz.underlying110 hi hz0 hz1 hz2 rfl (by decide) (.slice ad toks.length cp) toks.length (rowT toks) rfl (hT3.below ((Below.refl _ w3).alloc (Nat.le_refl _) _)) ⟨w3.heap.size, 0, none⟩ 1 1 (tcells (k, x, l)) rfl rfl (World.news_of_block (heap_alloc_new w3 _)) (fun u hu => by simp [tcells] at hu; rcases hu with rfl | rfl | rfl <;> rfl) (by decide) (by unfold maxLen; omega) (by omega) (by simp; omega) _ rfl ?_; intro g cap w5 hown5 hgr5 hat5 hlt5; have hA5 : At n 162 [.slice ad toks.length cp] w5 s (a + m) l := (hgr5.block n (by simp; omega) (fun e => (hT3.other hA3 (by decide)) e.symm)).trans (hA3.alloc _); obtain ⟨e0, e1, e2, hfe, hlte⟩ := hA5.facts; have e3 : w5.cell? ⟨n, 3, none⟩ = some (.slice ad toks.length cp) := (by rw [cell_of_row w5 n 3 _ 162 (0, 0) hA5]; rfl)))
    all_goals
      go_wp2
      go_ret
      exact ⟨rfl, read_end hBn hb1 hb33 hlt hT3 hown5 hgr5 hA5⟩
  · rw [if_neg her] at hn ⊢
    have hbe : (er != 0) = true := by simp; exact her
    go_enter Tryz.func95, Tryz.ntmps95
    go_wp2_with fail
    refine hn.mono ?_
    rintro e w1 ⟨rfl, hA1, hg1⟩
    go_wp2
    go_ret
    exact ⟨rfl, ⟨tv, hA1, hT.grown hg1 h (by decide)⟩, hbn w1 hg1⟩
end Go.Proofs.YtdbgncdnffbhkaaGreatDoor

namespace Go.Proofs.YtdbgncdnffbhkaaGreatDoor
open Go.RowKit
set_option maxRecDepth 20000
namespace Pl

def preT (l : List Tok) (x : List Tok × Nat × Int) : List Tok × Nat × Int := if x.2.2 = 0 then (l ++ x.1, 0, 0) else ([], x.2)

theorem preT_cons (l : List Tok) (t : Tok) (x : List Tok × Nat × Int) : preT l (tokCons t x) = preT (l ++ [t]) x := by
  unfold preT tokCons
  by_cases h : x.2.2 = 0
  · simp [h]
  · simp [h]

theorem cons_shape (t : Tok) (x : List Tok × Nat × Int) : ((tokCons t x).2.2 = 0 → (tokCons t x).2.1 = 0) ∧ ((tokCons t x).2.2 ≠ 0 → (tokCons t x).1 = []) := by
  unfold tokCons
  by_cases h : x.2.2 = 0
  · simp [h]
  · simp [h]
theorem tok_shape (f : Nat) : ∀ (l : List Nat) (ln : Nat), ((tokS f l ln).2.2 = 0 → (tokS f l ln).2.1 = 0) ∧ ((tokS f l ln).2.2 ≠ 0 → (tokS f l ln).1 = []) := by
  induction f with
  | zero => intro l ln; exact ⟨fun _ => rfl, fun _ => rfl⟩
  | succ f ih =>
    intro l ln
    cases l with
    | nil => exact ⟨fun _ => rfl, fun _ => rfl⟩
    | cons c r =>
      simp only [tokS]
      split
      · exact ih _ _
      · split
        · exact ih _ _
        · split
          · exact ih _ _
          · split
            · exact cons_shape _ _
            · split
              · split
                · exact cons_shape _ _
                · rename_i h
                  exact ⟨fun h' => absurd h' h, fun _ => rfl⟩
              · exact ⟨fun h' => by simp at h', fun _ => rfl⟩
theorem preT_nil (l : List Nat) (ln : Nat) : preT [] (tok l ln) = tok l ln := by
  have h := tok_shape (l.length + 1) l ln
  unfold tok preT
  generalize tokS (l.length + 1) l ln = x at h ⊢
  obtain ⟨a, b, c⟩ := x
  simp only at h ⊢
  by_cases hc : c = 0
  · subst hc
    simp [h.1 rfl]
  · simp [hc, h.2 hc]

theorem next_len (l : List Nat) : (nextP l).2.1 ≤ l.length ∧ ((nextP l).2.2 = 0 → 1 ≤ (nextP l).2.1) := by
  cases l with
  | nil => exact ⟨Nat.le_refl _, fun h => by simp [nextP] at h⟩
  | cons c r =>
    have h1 := takeWhile_le (p := isPart) (c :: r)
    have h2 := takeWhile_le (p := isDigit) (c :: r)
    have e1 : isLetter c = true → 1 ≤ ((c :: r).takeWhile isPart).length := by
      intro h
      rw [List.takeWhile_cons, if_pos (by rw [part_split]; simp [isJoin, h])]
      simp
    have e2 : isDigit c = true → 1 ≤ ((c :: r).takeWhile isDigit).length := by
      intro h
      rw [List.takeWhile_cons, if_pos h]
      simp
    simp only [nextP]
    by_cases hl : isLetter c = true
    · rw [if_pos hl]
      split
      · exact ⟨h1, fun h => by simp at h⟩
      · exact ⟨h1, fun _ => e1 hl⟩
    · rw [if_neg hl]
      by_cases hd : isDigit c = true
      · rw [if_pos hd]
        split
        · exact ⟨h2, fun h => by simp at h⟩
        · exact ⟨h2, fun _ => e2 hd⟩
      · rw [if_neg hd]
        split
        · exact ⟨by simp, fun _ => Nat.le_refl _⟩
        · exact ⟨Nat.zero_le _, fun h => by simp at h⟩
end Pl

theorem bl_extract (s : ByteArray) (a m : Nat) (_h : a + m ≤ s.size) : bl (s.extract a (a + m)) = ((bl s).drop a).take m := by
  unfold bl
  rw [← List.map_drop, ← List.map_take]
  congr 1
  rw [ByteArray.data_extract, Array.toList_extract]
  simp only [List.extract]
  congr 1
  omega

/-- The tokens of a text: the list, the line, the error. -/
def tokA (s : ByteArray) : List Pl.Tok × Nat × Int := if 65536 < s.size then ([], 0, 5) else Pl.tok (bl s) 1

set_option maxHeartbeats 4000000 in
set_option maxRecDepth 4000 in
theorem tokens_any (s : ByteArray) (w : World) :
    Calls Tryz.prog 56 #[.string s] w fun e w' => ∃ v tl, e = .returned (.tuple #[v, .int .i64 ((tokA s).2.1 : Int), .int .i64 (tokA s).2.2]) ∧ Toks w.heap.size w' v tl ∧ tl.map asTok = (tokA s).1 ∧ Below w.heap.size w w' := by
  by_cases hbig : 65536 < s.size
  · have hA : tokA s = ([], 0, 5) := by unfold tokA; rw [if_pos hbig]
    have hbi : (65536 : Int) < (s.size : Int) := by omega
    rw [hA]
    go_enter Tryz.func56, Tryz.ntmps56
    go_wp2
    go_returns
    exact ⟨_, [], rfl, ⟨rfl, .inl ⟨rfl, rfl⟩⟩, rfl, Below.refl _ _⟩
  · have hA : tokA s = Pl.tok (bl s) 1 := by unfold tokA; rw [if_neg hbig]
    have hbi : ¬ (65536 : Int) < (s.size : Int) := by omega
    rw [hA]
    have hsz : s.size ≤ 70000 := by omega
    generalize hR : Pl.tok (bl s) 1 = R
    obtain ⟨n, hn⟩ : ∃ n, n = w.heap.size := ⟨_, rfl⟩
    go_enter Tryz.func56, Tryz.ntmps56
    go_wp2_with fail
    have hA0 : At n 162 [.slice none 0 0] (w.alloc (.cells #[.string s, .int .i64 0, .int .i64 1, .slice none 0 0] 162)) s 0 1 := by
      rw [hn]
      exact heap_alloc_new w _
    have hb0 : Below n w (w.alloc (.cells #[.string s, .int .i64 0, .int .i64 1, .slice none 0 0] 162)) := (Below.refl _ w).alloc (by omega) _
    generalize w.alloc (.cells #[.string s, .int .i64 0, .int .i64 1, .slice none 0 0] 162) = w0 at hA0 hb0 ⊢
    simp only [← hn]
    have hT0 : Toks n w0 (.slice none 0 0) [] := ⟨rfl, .inl ⟨rfl, rfl⟩⟩
    refine (skip_any n 162 _ w0 s 0 1 hA0 (Nat.zero_le _) hsz (by omega)).mono ?_
    rintro e w1 ⟨rfl, k1, l1, hk1, hk2, hl1, hl2, htk, hst, hA1, hg1⟩
    have hT1 := hT0.grown hg1 hA0 (by decide)
    have hb1 : Below n w w1 := below_grown hb0 hg1 (by have := hA0.facts.2.2.2.2; omega) (fun j hj => by cases hj; exact Nat.le_refl _)
    rw [List.drop_zero, hR] at htk
    have HN : Hid (n = w.heap.size) := hn
    clear hA0 hb0 hT0 hg1 hn
    go_wp2_with fail
    go_loopw [] (fun wr => ∃ (k ln : Nat) (tl : List T3) (tv : Value), k ≤ s.size ∧ tl.length ≤ k ∧ ln ≤ 1 + k ∧ R = Pl.preT (tl.map asTok) (Pl.tok ((bl s).drop k) ln) ∧ Stop ((bl s).drop k) ∧ At n 162 [tv] wr s k ln ∧ Toks n wr tv tl ∧ Below n w wr) (fun wr => s.size - atOf n wr)
    case atStart => exact ⟨k1, l1, [], _, hk2, Nat.zero_le _, by omega, by rw [htk]; exact (Pl.preT_nil _ _).symm, hst, hA1, hT1, hb1⟩
    case round =>
      obtain ⟨k, ln, tl, tv, hk, htl, hln, hRk, hst, hA, hT, hb⟩ := hrel
      have hat := hA.at
      have hov := over_any n 162 [tv] wr s k ln hA
      by_cases hend : k = s.size
      · rw [decide_eq_true hend] at hov
        have hRe : R = (tl.map asTok, 0, 0) := by
          rw [hRk, hend, drop_end, Pl.tok_nil]
          simp [Pl.preT]
        go_wp2_with fail
        refine hov.mono ?_
        rintro e w2 ⟨rfl, m, rfl⟩
        have c3 : wr.cell? ⟨n, 3, none⟩ = some tv := by rw [cell_of_row wr n 3 _ 162 (0, 0) hA]; rfl
        obtain ⟨ad, cp, rfl⟩ := hT.shape
        go_wp2
        go_returns
        rw [← HN.out, hRe]
        exact ⟨_, tl, rfl, hT.below (below_drewN (Below.refl _ _) m), rfl, below_drewN hb m⟩
      · rw [decide_eq_false hend] at hov
        obtain ⟨kk, m, er, hN⟩ : ∃ kk m er, Pl.nextP ((bl s).drop k) = (kk, m, er) := ⟨_, _, _, rfl⟩
        have hlen := Pl.next_len ((bl s).drop k)
        have hne : (bl s).drop k ≠ [] := by rw [drop_at s k (by omega)]; simp
        have hnt := Pl.next_tok ((bl s).drop k) ln hst hne
        rw [hN] at hnt hlen
        simp only [List.length_drop, bl_length] at hlen
        obtain ⟨hlm, hl0⟩ := hlen
        have hkm : k + m ≤ s.size := by omega
        go_wp2_with fail
        refine hov.mono ?_
        rintro e w2 ⟨rfl, m2, rfl⟩
        have hA2 := hA.drew m2
        have hT2 := hT.below (below_drewN (Below.refl _ _) m2)
        have hb2 := below_drewN hb m2
        generalize wr.drewN m2 = w2 at hA2 hT2 hb2 ⊢
        have hrd := read_any n n w2 s k ln tv tl hA2 hT2 (Nat.le_refl _) hk hsz (by omega) kk m er hN hkm
        by_cases her : er = 0
        · subst her
          have hRn : R = Pl.preT ((tl ++ [(kk, s.extract k (k + m), ln)]).map asTok) (Pl.tok ((bl s).drop (k + m)) ln) := by
            rw [hRk, hnt]
            simp only [Pl.nextT, if_true]
            rw [Pl.preT_cons, List.map_append, List.drop_drop]
            simp only [List.map_cons, List.map_nil, asTok]
            rw [bl_extract s k m hkm]
          specialize hl0 rfl
          rw [if_pos rfl] at hrd
          generalize hq : tl ++ [(kk, s.extract k (k + m), ln)] = tl2 at hrd hRn
          have htl2 : tl2.length ≤ k + m := by rw [← hq, List.length_append]; simp; omega
          clear hq hnt hN hA hT hb hov hRk
          go_wp2_with fail
          refine hrd.mono ?_
          rintro e w3 ⟨rfl, ⟨tv3, hA3, hT3⟩, hb3⟩
          have hb3' := hb2.trans hb3
          clear hA2 hT2 hb2 hb3 hrd
          go_wp2_with fail
          refine (skip_any n 162 _ w3 s (k + m) ln hA3 hkm hsz (by omega)).mono ?_
          rintro e w4 ⟨rfl, k4, l4, hk41, hk42, hl41, hl42, htk4, hst4, hA4, hg4⟩
          have hT4 := hT3.grown hg4 hA3 (by decide)
          have hb4 : Below n w w4 := below_grown hb3' hg4 (by have := hA3.facts.2.2.2.2; omega) (fun j hj => by cases hj; exact Nat.le_refl _)
          go_wp2_with fail
          refine ⟨⟨k4, l4, tl2, tv3, hk42, by omega, by omega, by rw [hRn, htk4], hst4, hA4, hT4, hb4⟩, ?_⟩
          rw [hA4.at, hat]
          omega
        · have hRn : R = ([], ln, er) := by
            rw [hRk, hnt]
            simp only [Pl.nextT, if_neg her, Pl.preT]
          have hbe : (er != 0) = true := by simp; exact her
          clear hnt hN hRk
          go_wp2_with fail
          refine hrd.mono ?_
          rintro e w3 ⟨rfl, ⟨tv3, hA3, hT3⟩, hb3⟩
          have hb3' := hb2.trans hb3
          obtain ⟨c0, c1, c2, hf, hlt⟩ := hA3.facts
          go_wp2_with fail
          go_quiet (fail)
          go_wp2
          go_returns
          rw [← HN.out, hRn]
          exact ⟨_, [], rfl, ⟨rfl, .inl ⟨rfl, rfl⟩⟩, rfl, below_drewN hb3' nq⟩
end Go.Proofs.YtdbgncdnffbhkaaGreatDoor

