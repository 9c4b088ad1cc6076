/- parse: take, takeOneMore, takeName. -/
import Derived.Test.YthdooemgnpiomaaQE
namespace Go.Proofs.Ythdooemgnpiomaa
open Go.RowKit

theorem ret_tok47 {W : World} {tmps : Array Value} {b : Nat} {x y z : Value} (ht : tmps.getD 4 undef = .pointer (some ⟨b, 0, none⟩)) (h0 : W.cell? ⟨b, 0, none⟩ = some x) (h1 : W.cell? ⟨b, 1, none⟩ = some y) (h2 : W.cell? ⟨b, 2, none⟩ = some z) :
    (results Try.f47 tmps).run Try.prog W = .ok (.agg #[x, y, z]) W := by
  have ht' : tmps[4]?.getD undef = .pointer (some ⟨b, 0, none⟩) := by rw [← Array.getD_eq_getD_getElem?]; exact ht
  simp [results, Try.results47]
  go_simp
theorem ret_tok28 {W : World} {tmps : Array Value} {b : Nat} {x y z : Value} (ht : tmps.getD 8 undef = .pointer (some ⟨b, 0, none⟩)) (h0 : W.cell? ⟨b, 0, none⟩ = some x) (h1 : W.cell? ⟨b, 1, none⟩ = some y) (h2 : W.cell? ⟨b, 2, none⟩ = some z) :
    (results Try.f28 tmps).run Try.prog W = .ok (.agg #[x, y, z]) W := by
  have ht' : tmps[8]?.getD undef = .pointer (some ⟨b, 0, none⟩) := by rw [← Array.getD_eq_getD_getElem?]; exact ht
  simp [results, Try.results28]
  go_simp

theorem Ch.new {X : Nat → TypeId → Prop} {w w' : World} (h : Ch X w w') {b k : Nat} (hb : w.heap.size ≤ b) (u : Value) : Ch X w (w'.setCell ⟨b, k, none⟩ u) :=
  ⟨h.os, h.tape, h.output, by simp [h.size], fun g o ho hn => (heap_setCell_other w' ⟨b, k, none⟩ g u (by have := lt_of_some ho; simp; omega)).trans (h.block g o ho hn)⟩
theorem Ch.al {X : Nat → TypeId → Prop} {w w' : World} (h : Ch X w w') (o : Obj) : Ch X w (w'.alloc o) := h.trans (Ch.alloc w' o)
theorem Ch.bel {X : Nat → TypeId → Prop} {w w' w'' : World} (h : Ch X w w') (hb : Below w'.heap.size w' w'') : Ch X w w'' := h.trans (Ch.below hb)
theorem Pos.set {X : Nat → TypeId → Prop} {n : Nat} {sv : Value} {rest : List Value} {w w' : World} {i : Nat} (h : Ch X w w') (hP : Pos n sv rest w' i) (hX : X n 59) (k : Nat) (u : Value) : Ch X w (w'.setCell ⟨n, k, none⟩ u) := h.trans (Ch.set hP hX u)

/-- A call that goes over tokens from place i on, as it does on lists: what is told, and where it is then; or the fault. -/
def Runs {α : Type} (l : List T3) (n : Nat) (sv : Value) (rest : List Value) (w : World) (res : Pl.Res α) (V : α → Value → World → Prop) (e : Ending) (w' : World) : Prop :=
  match res with
  | .ok a r => ∃ v i', e = .returned v ∧ i' ≤ l.length ∧ r = (l.drop i').map kt3 ∧ Pos n sv rest w' i' ∧ V a v w' ∧ Ch (Xp n) w w'
  | .bad r er => ∃ i', e = .panicked (fault (lineAt l i') er) ∧ i' ≤ l.length ∧ r = (l.drop i').map kt3 ∧ Ch (Xp n) w w'

theorem Pos.other {n : Nat} {sv : Value} {rest : List Value} {w : World} {i : Nat} (h : Pos n sv rest w i) {c k : Nat} (hc : n ≠ c) (u : Value) : Pos n sv rest (w.setCell ⟨c, k, none⟩ u) i := Bx.other h hc u

set_option maxHeartbeats 4000000 in
set_option maxRecDepth 4000 in
theorem ptake_ok (n : Nat) (sv : Value) (l : List T3) (rest : List Value) (w : World) (i : Nat) (h : Pos n sv rest w i) (hS : TSeg w sv (l.map toZ)) (hbig : l.length ≤ 1000000) (t : T3) (ht : l[i]? = some t) (fv : Value) (p : Pl.Kt → Bool) (hF : FitsT w fv p) (hp : p (kt3 t) = true) :
    Calls Try.prog 47 #[.pointer (some ⟨n, 0, none⟩), fv] w fun e w' => e = .returned (tokV t) ∧ Pos n sv rest w' (i + 1) ∧ Ch (Xp n) w w' := by
  have hb0 := below_alloc w (.cells #[.int .i64 0, .string ⟨#[]⟩, .int .i64 0] 36)
  have hB0 := Bx.new w [.int .i64 0, .string ⟨#[]⟩, .int .i64 0] 36
  have hil := (List.getElem?_eq_some_iff.1 ht).1
  have hnx := pnext_ok n sv l rest _ i (h.below hb0) (hS.below hb0) t ht fv p (hF.ch (Ch.below hb0)) hp
  have hlt : n < w.heap.size := h.facts.2.2.2
  obtain ⟨fk, cap, rfl, _, _⟩ := id hF
  obtain ⟨b, hbe⟩ : ∃ b, b = w.heap.size := ⟨_, rfl⟩
  have hi6 : i ≤ 1000000 := by omega
  clear hS ht hil hbig
  go_enter Try.func47, Try.ntmps47
  go_wp2_with fail
  rw [← hbe] at hB0 ⊢
  have hnb : n ≠ b := by omega
  change Bx (w.alloc (.cells #[.int .i64 0, .string ⟨#[]⟩, .int .i64 0] 36)) b _ _ at hB0
  have HB : Hid (b = w.heap.size) := hbe
  clear hbe
  generalize w.alloc (.cells #[.int .i64 0, .string ⟨#[]⟩, .int .i64 0] 36) = w0 at *
  refine hnx.mono ?_
  rintro e w1 ⟨rfl, hb1⟩
  have hb1' := below_next hb0 hb1
  have hB1 := hB0.below hb1
  have hP1 := h.below hb1'
  have hlt1 := hP1.facts.2.2.2
  have hbl1 := hB1.lt
  clear hb0 hB0 hb1 hnx hF
  unfold tokV
  obtain ⟨c0, c1, hf, _⟩ := hP1.facts
  have d0 := hB1.cell 0 rfl
  have d1 := hB1.cell 1 rfl
  have d2 := hB1.cell 2 rfl
  have hfb := hB1.frozen
  go_wp2
  have hge : w.heap.size ≤ b := by rw [HB.out]; exact Nat.le_refl _
  have hC1 : Ch (Xp n) w (w1.setCell ⟨n, 1, none⟩ (.int .i64 ((i : Int) + 1))) := Pos.set (Ch.below hb1') hP1 ⟨rfl, rfl⟩ 1 _
  have hB3 := (((hB1.other (c := n) (k := 1) (Ne.symm hnb) (.int .i64 ((i : Int) + 1))).set 0 (.int .i64 (t.1 : Int))).set 1 (.string t.2.1)).set 2 (.int .i64 (t.2.2 : Int))
  have hB4 := hB3.alloc (.cells #[.int .i64 (t.1 : Int), .string t.2.1, .int .i64 (t.2.2 : Int)] 36)
  refine bodyPost_ret (ret_tok47 rfl (hB4.cell 0 rfl) (hB4.cell 1 rfl) (hB4.cell 2 rfl)) rfl ?_
  exact ⟨rfl, (((hP1.step.other hnb _).other hnb _).other hnb _).below (below_alloc _ _), (((hC1.new hge _).new hge _).new hge _).al _⟩

set_option maxHeartbeats 4000000 in
set_option maxRecDepth 4000 in
theorem ptake_bad (n : Nat) (sv : Value) (l : List T3) (rest : List Value) (w : World) (i : Nat) (h : Pos n sv rest w i) (hS : TSeg w sv (l.map toZ)) (hl : 0 < l.length) (hi : i ≤ l.length) (fv : Value) (p : Pl.Kt → Bool) (hF : FitsT w fv p) (r : List Pl.Kt) (er : Nat) (hp : Pl.takeP p ((l.drop i).map kt3) = .bad r er) :
    Calls Try.prog 47 #[.pointer (some ⟨n, 0, none⟩), fv] w fun e w' => e = .panicked (fault (lineAt l i) er) ∧ Below w.heap.size w w' := by
  have hb0 := below_alloc w (.cells #[.int .i64 0, .string ⟨#[]⟩, .int .i64 0] 36)
  have hnx := pnext_bad n sv l rest _ i (h.below hb0) (hS.below hb0) hl hi fv p (hF.ch (Ch.below hb0)) r er hp
  obtain ⟨fk, cap, rfl, _, _⟩ := id hF
  clear hS hp
  go_enter Try.func47, Try.ntmps47
  go_wp2_with fail
  refine hnx.mono ?_
  rintro e w1 ⟨rfl, hb1⟩
  exact ⟨rfl, rfl, below_next hb0 hb1⟩

/-- take, as it does on lists. -/
theorem ptake_any (n : Nat) (sv : Value) (l : List T3) (rest : List Value) (w : World) (i : Nat) (h : Pos n sv rest w i) (hS : TSeg w sv (l.map toZ)) (hl : 0 < l.length) (hbig : l.length ≤ 1000000) (hi : i ≤ l.length) (fv : Value) (p : Pl.Kt → Bool) (hF : FitsT w fv p) :
    Calls Try.prog 47 #[.pointer (some ⟨n, 0, none⟩), fv] w (Runs l n sv rest w (Pl.takeP p ((l.drop i).map kt3)) (fun k v _ => ∃ t, t ∈ l ∧ k = kt3 t ∧ v = tokV t)) := by
  cases hp : Pl.takeP p ((l.drop i).map kt3) with
  | ok k r =>
    obtain ⟨t, ht, hpt, rfl, rfl⟩ := take_ok hp
    refine (ptake_ok n sv l rest w i h hS hbig t ht fv p hF hpt).mono ?_
    rintro e w' ⟨rfl, h1, h2⟩
    exact ⟨_, i + 1, rfl, (List.getElem?_eq_some_iff.1 ht).1, rfl, h1, ⟨t, List.mem_of_getElem? ht, rfl, rfl⟩, h2⟩
  | bad r er =>
    refine (ptake_bad n sv l rest w i h hS hl hi fv p hF r er hp).mono ?_
    rintro e w' ⟨rfl, h1⟩
    refine ⟨i, rfl, hi, ?_, Ch.below h1⟩
    rcases take_bad hp hi with ⟨_, _, hr⟩ | ⟨_, _, _, _, hr⟩ <;> exact hr

/-- One more of which there are m already, of at most k. -/
def moreP (p : Pl.Kt → Bool) (m k : Nat) (x : List Pl.Kt) : Pl.Res Pl.Kt := (Pl.takeP p x).bind fun t r => if m = k then .bad x 3 else .ok t r

set_option maxHeartbeats 4000000 in
set_option maxRecDepth 4000 in
theorem pmore_any (n : Nat) (sv : Value) (l : List T3) (rest : List Value) (w : World) (i : Nat) (h : Pos n sv rest w i) (hS : TSeg w sv (l.map toZ)) (hl : 0 < l.length) (hbig : l.length ≤ 1000000) (hi : i ≤ l.length) (fv : Value) (p : Pl.Kt → Bool) (hF : FitsT w fv p) (m k : Nat) :
    Calls Try.prog 28 #[.pointer (some ⟨n, 0, none⟩), .int .i64 (m : Int), .int .i64 (k : Int), fv] w (Runs l n sv rest w (moreP p m k ((l.drop i).map kt3)) (fun k v _ => ∃ t, t ∈ l ∧ k = kt3 t ∧ v = tokV t)) := by
  have hb0 := below_alloc w (.cells #[.int .i64 0, .string ⟨#[]⟩, .int .i64 0] 36)
  have hB0 := Bx.new w [.int .i64 0, .string ⟨#[]⟩, .int .i64 0] 36
  have hlt : n < w.heap.size := h.facts.2.2.2
  unfold moreP
  cases hp : Pl.takeP p ((l.drop i).map kt3) with
  | bad r er =>
    have hnx := pnext_bad n sv l rest _ i (h.below hb0) (hS.below hb0) hl hi fv p (hF.ch (Ch.below hb0)) r er hp
    have hr : r = (l.drop i).map kt3 := by rcases take_bad hp hi with ⟨_, _, hr⟩ | ⟨_, _, _, _, hr⟩ <;> exact hr
    have HR : Hid (r = (l.drop i).map kt3) := hr
    obtain ⟨fk, cap, rfl, _, _⟩ := id hF
    clear hS hp hF hr
    go_enter Try.func28, Try.ntmps28
    go_wp2_with fail
    refine hnx.mono ?_
    rintro e w1 ⟨rfl, hb1⟩
    exact ⟨rfl, i, rfl, hi, HR.out, Ch.below (below_next hb0 hb1)⟩
  | ok kk r =>
    obtain ⟨t, ht, hpt, rfl, rfl⟩ := take_ok hp
    have hnx := pnext_ok n sv l rest _ i (h.below hb0) (hS.below hb0) t ht fv p (hF.ch (Ch.below hb0)) hpt
    have hil := (List.getElem?_eq_some_iff.1 ht).1
    simp only [Pl.Res.bind]
    by_cases hmk : m = k
    · have hq : ((m : Int) == (k : Int)) = true := by simp [hmk]
      rw [if_pos hmk]
      have hfl := fun W (hb : Below w.heap.size w W) => pfail_any n sv l rest W i (h.below hb) (hS.below hb) hl 3
      obtain ⟨fk, cap, rfl, _, _⟩ := id hF
      clear hS hp hF ht hpt hmk
      go_enter Try.func28, Try.ntmps28
      go_wp2_with fail
      refine hnx.mono ?_
      rintro e w1 ⟨rfl, hb1⟩
      have hb1' := below_next hb0 hb1
      unfold tokV
      go_wp2_with fail
      refine (hfl _ hb1').mono ?_
      rintro e w2 ⟨rfl, q, rfl⟩
      exact ⟨rfl, i, rfl, hi, rfl, Ch.below (below_drewN hb1' q)⟩
    · have hq : ((m : Int) == (k : Int)) = false := by simp; omega
      rw [if_neg hmk]
      have htk := fun W (hb : Below w.heap.size w W) => ptake_ok n sv l rest W i (h.below hb) (hS.below hb) hbig t ht fv p (hF.ch (Ch.below hb)) hpt
      obtain ⟨fk, cap, rfl, _, _⟩ := id hF
      obtain ⟨b, hbe⟩ : ∃ b, b = w.heap.size := ⟨_, rfl⟩
      have hmem : t ∈ l := List.mem_of_getElem? ht
      clear hS hp hF ht hpt
      go_enter Try.func28, Try.ntmps28
      go_wp2_with fail
      rw [← hbe] at hB0 ⊢
      have hnb : b ≠ n := by omega
      change Bx (w.alloc (.cells #[.int .i64 0, .string ⟨#[]⟩, .int .i64 0] 36)) b _ _ at hB0
      have HB : Hid (b = w.heap.size) := hbe
      clear hbe
      generalize w.alloc (.cells #[.int .i64 0, .string ⟨#[]⟩, .int .i64 0] 36) = w0 at *
      refine hnx.mono ?_
      rintro e w1 ⟨rfl, hb1⟩
      have hb1' := below_next hb0 hb1
      have hB1 := hB0.below hb1
      have hT1 := htk _ hb1'
      clear hnx htk hb0 hB0 hb1
      unfold tokV at hT1 ⊢
      go_wp2_with fail
      refine hT1.mono ?_
      rintro e w2 ⟨rfl, hP2, hC2⟩
      have hB2 := hB1.ch hC2 (fun hx => hnb hx.1)
      have d0 := hB2.cell 0 rfl
      have d1 := hB2.cell 1 rfl
      have d2 := hB2.cell 2 rfl
      have hfb := hB2.frozen
      go_wp2
      have hge : w.heap.size ≤ b := by rw [HB.out]; exact Nat.le_refl _
      have hB3 := ((hB2.set 0 (.int .i64 (t.1 : Int))).set 1 (.string t.2.1)).set 2 (.int .i64 (t.2.2 : Int))
      refine bodyPost_ret (ret_tok28 rfl (hB3.cell 0 rfl) (hB3.cell 1 rfl) (hB3.cell 2 rfl)) rfl ?_
      exact ⟨_, i + 1, rfl, hil, rfl, ((hP2.other (Ne.symm hnb) _).other (Ne.symm hnb) _).other (Ne.symm hnb) _, ⟨t, hmem, rfl, rfl⟩, ((((Ch.below hb1').trans hC2).new hge _).new hge _).new hge _⟩
end Go.Proofs.Ythdooemgnpiomaa
