/- parse: next, take. -/
import Derived.Test.YthdooemgnpiomaaQD
namespace Go.Proofs.Ythdooemgnpiomaa
open Go.RowKit

theorem ret_tok45 {W : World} {tmps : Array Value} {b : Nat} {x y z : Value} (ht : tmps.getD 4 undef = .pointer (some ⟨b, 0, none⟩)) (h0 : W.cell? ⟨b, 0, none⟩ = some x) (h1 : W.cell? ⟨b, 1, none⟩ = some y) (h2 : W.cell? ⟨b, 2, none⟩ = some z) :
    (results Try.f45 tmps).run Try.prog W = .ok (.agg #[x, y, z]) W := by
  have ht' : tmps[4]?.getD undef = .pointer (some ⟨b, 0, none⟩) := by rw [← Array.getD_eq_getD_getElem?]; exact ht
  simp [results, Try.results45]
  go_simp

set_option maxHeartbeats 4000000 in
set_option maxRecDepth 4000 in
theorem pnext_ok (n : Nat) (sv : Value) (l : List T3) (rest : List Value) (w : World) (i : Nat) (h : Pos n sv rest w i) (hS : TSeg w sv (l.map toZ)) (t : T3) (ht : l[i]? = some t) (fv : Value) (p : Pl.Kt → Bool) (hF : FitsT w fv p) (hp : p (kt3 t) = true) :
    Calls Try.prog 45 #[.pointer (some ⟨n, 0, none⟩), fv] w fun e w' => e = .returned (tokV t) ∧ Below w.heap.size w w' := by
  have hil := (List.getElem?_eq_some_iff.1 ht).1
  obtain ⟨a, cp, hsv, h1, h2, _⟩ := id hS
  rw [List.length_map] at hsv h1
  subst hsv
  obtain ⟨g, off, rfl, hg, -, q1, q2, q3⟩ := hS.token i t ht
  have hsees : ∀ W, Below w.heap.size w W → Calls Try.prog 73 #[.pointer (some ⟨n, 0, none⟩), fv] W fun e w' => e = .returned (.bool true) ∧ Below W.heap.size W w' := by
    intro W hb
    have := psees_any n _ l rest W i (h.below hb) (hS.below hb) (by omega) fv p (hF.ch (Ch.below hb))
    rw [drop_token l i t ht] at this
    simp only [seesT, hp] at this
    exact this
  have hov : ∀ W, Below w.heap.size w W → Calls Try.prog 27 #[.pointer (some ⟨n, 0, none⟩)] W fun e w' => e = .returned (.bool false) ∧ ∃ m, w' = W.drewN m := by
    intro W hb
    have := pover_any n _ l.length cp rest W i (h.below hb)
    rw [decide_eq_false (by omega)] at this
    exact this
  obtain ⟨fk, cap, rfl, _, _⟩ := id hF
  generalize l.length = L at *
  have hlt : n < w.heap.size := h.facts.2.2.2
  clear hS
  go_enter Try.func45, Try.ntmps45
  go_wp2_with fail
  have hb0 := below_alloc w (.cells #[.int .i64 0, .string ⟨#[]⟩, .int .i64 0] 36)
  have hB0 := Bx.new w [.int .i64 0, .string ⟨#[]⟩, .int .i64 0] 36
  obtain ⟨b, hbe⟩ : ∃ b, b = w.heap.size := ⟨_, rfl⟩
  rw [← hbe] at hB0 ⊢
  change Bx (w.alloc (.cells #[.int .i64 0, .string ⟨#[]⟩, .int .i64 0] 36)) b _ _ at hB0
  have HB : Hid (b = w.heap.size) := hbe
  clear hbe
  generalize w.alloc (.cells #[.int .i64 0, .string ⟨#[]⟩, .int .i64 0] 36) = w0 at *
  refine (hov w0 hb0).mono ?_
  rintro e w1 ⟨rfl, m, rfl⟩
  have hb1 := below_drewN hb0 m
  have hB1 := hB0.below (below_drewN (Below.refl _ _) m)
  generalize w0.drewN m = w1 at *
  go_wp2_with fail
  refine (hsees w1 hb1).mono ?_
  rintro e w2 ⟨rfl, hb2⟩
  have hb2' := hb1.trans (hb2.mono hb1.size)
  have hB2 := hB1.below hb2
  have hP2 := h.below hb2'
  have Q1 := (hb2'.cell hg).trans q1
  have Q2 := (hb2'.cell hg).trans q2
  have Q3 := (hb2'.cell hg).trans q3
  obtain ⟨c0, c1, hf, hlt2⟩ := hP2.facts
  have d0 := hB2.cell 0 rfl
  have d1 := hB2.cell 1 rfl
  have d2 := hB2.cell 2 rfl
  have hfb := hB2.frozen
  have hbl := hB2.lt
  have hiL : (0 : Int) ≤ (i : Int) ∧ (i : Int) < (L : Int) := by omega
  clear hb0 hB0 hb1 hB1 hb2 q1 q2 q3 hov hsees
  go_wp2_with fail
  go_region
  go_wp2
  have hB3 : Bx (((w2.setCell ⟨b, 0, none⟩ (.int .i64 (t.1 : Int))).setCell ⟨b, 1, none⟩ (.string t.2.1)).setCell ⟨b, 2, none⟩ (.int .i64 (t.2.2 : Int))).drew b [.int .i64 (t.1 : Int), .string t.2.1, .int .i64 (t.2.2 : Int)] 36 := (((hB2.set 0 _).set 1 _).set 2 _).below (Below.refl _ _).drew
  refine bodyPost_ret (ret_tok45 rfl (hB3.cell 0 rfl) (hB3.cell 1 rfl) (hB3.cell 2 rfl)) rfl ?_
  refine ⟨rfl, ?_⟩
  have hge : w.heap.size ≤ b := by rw [HB.out]; exact Nat.le_refl _
  exact (((hb2'.setCell hge _).setCell hge _).setCell hge _).drew

/-- What is told where another token stands, or none. -/
theorem take_bad {p : Pl.Kt → Bool} {l : List T3} {i : Nat} {r : List Pl.Kt} {e : Nat} (h : Pl.takeP p ((l.drop i).map kt3) = .bad r e) (hi : i ≤ l.length) :
    (i = l.length ∧ e = 8 ∧ r = (l.drop i).map kt3) ∨ (∃ t, l[i]? = some t ∧ p (kt3 t) = false ∧ e = 33 ∧ r = (l.drop i).map kt3) := by
  by_cases he : i = l.length
  · left
    rw [List.drop_of_length_le (by omega)] at h ⊢
    simp only [List.map_nil, Pl.takeP, Pl.Res.bad.injEq] at h
    exact ⟨he, h.2.symm, h.1.symm⟩
  · right
    have ht : l[i]? = some (l[i]'(by omega)) := by simp
    refine ⟨_, ht, ?_⟩
    rw [drop_token l i _ ht] at h ⊢
    simp only [List.map_cons, Pl.takeP] at h
    split at h
    · cases h
    · rename_i hp
      simp only [Pl.Res.bad.injEq] at h
      exact ⟨by simpa using hp, h.2.symm, by rw [← h.1]; rfl⟩
theorem take_ok {p : Pl.Kt → Bool} {l : List T3} {i : Nat} {k : Pl.Kt} {r : List Pl.Kt} (h : Pl.takeP p ((l.drop i).map kt3) = .ok k r) : ∃ t, l[i]? = some t ∧ p (kt3 t) = true ∧ k = kt3 t ∧ r = (l.drop (i + 1)).map kt3 := by
  cases hd : l.drop i with
  | nil =>
    rw [hd] at h
    simp [Pl.takeP] at h
  | cons t r' =>
    have ht : l[i]? = some t := by
      have := congrArg (fun x => x[0]?) hd
      simpa using this
    rw [drop_token l i t ht] at h
    simp only [List.map_cons, Pl.takeP] at h
    split at h
    · rename_i hp
      simp only [Pl.Res.ok.injEq] at h
      exact ⟨t, ht, hp, h.1.symm, h.2.symm⟩
    · cases h

set_option maxHeartbeats 4000000 in
set_option maxRecDepth 4000 in
theorem pnext_bad (n : Nat) (sv : Value) (l : List T3) (rest : List Value) (w : World) (i : Nat) (h : Pos n sv rest w i) (hS : TSeg w sv (l.map toZ)) (hl : 0 < l.length) (hi : i ≤ l.length) (fv : Value) (p : Pl.Kt → Bool) (hF : FitsT w fv p) (r : List Pl.Kt) (er : Nat) (hp : Pl.takeP p ((l.drop i).map kt3) = .bad r er) :
    Calls Try.prog 45 #[.pointer (some ⟨n, 0, none⟩), fv] w fun e w' => e = .panicked (fault (lineAt l i) er) ∧ Below w.heap.size w w' := by
  have hfail : ∀ W (x : Int), Below w.heap.size w W → Calls Try.prog 46 #[.pointer (some ⟨n, 0, none⟩), .int .i64 x] W fun e w' => e = .panicked (fault (lineAt l i) x) ∧ ∃ m, w' = W.drewN m := fun W x hb => pfail_any n sv l rest W i (h.below hb) (hS.below hb) hl x
  have hsees : ∀ W, Below w.heap.size w W → Calls Try.prog 73 #[.pointer (some ⟨n, 0, none⟩), fv] W fun e w' => e = .returned (.bool (seesT p (l.drop i))) ∧ Below W.heap.size W w' := fun W hb => psees_any n _ l rest W i (h.below hb) (hS.below hb) hi fv p (hF.ch (Ch.below hb))
  obtain ⟨a, cp, hsv, -⟩ := id hS
  rw [List.length_map] at hsv
  have hov : ∀ W, Below w.heap.size w W → Calls Try.prog 27 #[.pointer (some ⟨n, 0, none⟩)] W fun e w' => e = .returned (.bool (decide (i = l.length))) ∧ ∃ m, w' = W.drewN m := by
    intro W hb
    have hP := h.below hb
    rw [hsv] at hP
    exact pover_any n _ l.length cp rest W i hP
  obtain ⟨fk, cap, rfl, _, _⟩ := id hF
  have hcase := take_bad hp hi
  have hb0 := below_alloc w (.cells #[.int .i64 0, .string ⟨#[]⟩, .int .i64 0] 36)
  generalize lineAt l i = ln at *
  rcases hcase with ⟨he, rfl, -⟩ | ⟨t, ht, hpt, rfl, -⟩
  · rw [decide_eq_true he] at hov
    clear hsees hS hF hsv hp
    go_enter Try.func45, Try.ntmps45
    go_wp2_with fail
    refine (hov _ hb0).mono ?_
    rintro e w1 ⟨rfl, m, rfl⟩
    have hb1 := below_drewN hb0 m
    go_wp2_with fail
    refine (hfail _ _ hb1).mono ?_
    rintro e w2 ⟨rfl, m2, rfl⟩
    exact ⟨rfl, rfl, below_drewN hb1 m2⟩
  · have hne : i ≠ l.length := by have := (List.getElem?_eq_some_iff.1 ht).1; omega
    have hse : seesT p (l.drop i) = false := by rw [drop_token l i t ht]; exact hpt
    rw [decide_eq_false hne] at hov
    rw [hse] at hsees
    clear hS hF hsv hp hse ht hpt
    go_enter Try.func45, Try.ntmps45
    go_wp2_with fail
    refine (hov _ hb0).mono ?_
    rintro e w1 ⟨rfl, m, rfl⟩
    have hb1 := below_drewN hb0 m
    go_wp2_with fail
    refine (hsees _ hb1).mono ?_
    rintro e w2 ⟨rfl, hb2⟩
    have hb2' := hb1.trans (hb2.mono hb1.size)
    go_wp2_with fail
    refine (hfail _ _ hb2').mono ?_
    rintro e w3 ⟨rfl, m2, rfl⟩
    exact ⟨rfl, rfl, below_drewN hb2' m2⟩
end Go.Proofs.Ythdooemgnpiomaa
