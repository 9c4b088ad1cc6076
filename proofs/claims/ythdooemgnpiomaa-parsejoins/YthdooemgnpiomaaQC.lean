/- parse: what is looked for, as functions. -/
import Derived.Test.YthdooemgnpiomaaQB
namespace Go.Proofs.Ythdooemgnpiomaa
open Go.RowKit

/-- What is looked for is told by a function of a token; it makes memory, and turns none. -/
def FitsT (w : World) (fv : Value) (p : Pl.Kt → Bool) : Prop :=
  ∃ fk cap, fv = .func (.func fk) #[] cap ∧ (∀ (args : Array Value) (w' : World), (callFunc fk args).run Try.prog w' = .ok (.enter fk args) w') ∧
    ∀ w', Ch Xs w w' → ∀ t : T3, Calls Try.prog fk (#[tokV t] ++ cap) w' fun e w2 => e = .returned (.bool (p (kt3 t))) ∧ Below w'.heap.size w' w2
theorem FitsT.ch {w w' : World} {fv : Value} {p : Pl.Kt → Bool} (h : FitsT w fv p) (hc : Ch Xs w w') : FitsT w' fv p := by
  obtain ⟨fk, cap, h1, h2, h3⟩ := h
  exact ⟨fk, cap, h1, h2, fun w2 hw2 => h3 w2 (hc.trans hw2)⟩

theorem below_alloc (w : World) (o : Obj) : Below w.heap.size w (w.alloc o) := (Below.refl _ w).alloc (Nat.le_refl _) o
theorem below_next {a b c : World} (h : Below a.heap.size a b) (k : Below b.heap.size b c) : Below a.heap.size a c := h.trans (k.mono h.size)

set_option maxHeartbeats 1000000 in
theorem isNumber_any (t : T3) (w : World) : Calls Try.prog 52 #[tokV t] w fun e w' => e = .returned (.bool (Pl.numT (kt3 t))) ∧ Below w.heap.size w w' := by
  obtain ⟨k, x, ln⟩ := t
  unfold tokV kt3 Pl.numT
  simp only
  have hq : ((k : Int) == 2) = decide (k = 2) := by
    by_cases h : k = 2
    · simp [h]
    · rw [decide_eq_false h]
      simp
      omega
  go_enter Try.func52, Try.ntmps52
  go_wp2
  go_ret
  exact ⟨rfl, below_alloc w _⟩

set_option maxHeartbeats 2000000 in
set_option maxRecDepth 4000 in
theorem isName_any (t : T3) (w : World) : Calls Try.prog 75 #[tokV t] w fun e w' => e = .returned (.bool (Pl.nameT (kt3 t))) ∧ Below w.heap.size w w' := by
  obtain ⟨k, x, ln⟩ := t
  unfold tokV kt3 Pl.nameT
  simp only
  have hpk := fun w => plainKind_any x w
  have hgr := fun w => isGrammar_any x w
  by_cases hk : k = 1
  · subst hk
    simp only [decide_true, Bool.true_and]
    by_cases hp : Pl.plainK (bl x) = 0
    · simp only [hp, decide_true, Bool.true_and] at hpk ⊢
      generalize Pl.isGram (bl x) = b at *
      go_enter Try.func75, Try.ntmps75
      go_wp2_with fail
      refine (hpk _).mono ?_
      rintro e w1 ⟨rfl, hb1⟩
      have hB := below_next (below_alloc w _) hb1
      have hc := (Bx.new w [.int .i64 1, .string x, .int .i64 (ln : Int)] 36).below hb1
      have hc1 := hc.cell 1 rfl
      go_wp2_with fail
      refine (hgr _).mono ?_
      rintro e w2 ⟨rfl, hb2⟩
      go_wp2
      go_ret
      exact ⟨rfl, below_next hB hb2⟩
    · have hpi : ((Pl.plainK (bl x) : Int) == 0) = false := by simp; omega
      rw [decide_eq_false hp, Bool.false_and]
      generalize Pl.plainK (bl x) = z at *
      go_enter Try.func75, Try.ntmps75
      go_wp2_with fail
      refine (hpk _).mono ?_
      rintro e w1 ⟨rfl, hb1⟩
      have hB := below_next (below_alloc w _) hb1
      go_wp2
      go_ret
      exact ⟨rfl, hB⟩
  · have hki : ((k : Int) == 1) = false := by simp; omega
    rw [decide_eq_false hk, Bool.false_and, Bool.false_and]
    go_enter Try.func75, Try.ntmps75
    go_wp2
    go_ret
    exact ⟨rfl, below_alloc w _⟩

set_option maxHeartbeats 2000000 in
set_option maxRecDepth 4000 in
theorem beginsType_any (t : T3) (w : World) : Calls Try.prog 89 #[tokV t] w fun e w' => e = .returned (.bool (Pl.begT (kt3 t))) ∧ Below w.heap.size w w' := by
  obtain ⟨k, x, ln⟩ := t
  unfold tokV kt3 Pl.begT
  simp only
  have hgr := fun w => isGrammar_any x w
  by_cases h1 : x = ⟨#[91]⟩
  · have hb1 : bl x = [91] := by rw [h1]; rfl
    rw [decide_eq_true hb1, Bool.true_or, Bool.true_or]
    subst h1
    go_enter Try.func89, Try.ntmps89
    go_wp2
    go_ret
    exact ⟨rfl, below_alloc w _⟩
  · have hb1 : ¬ bl x = [91] := fun e => h1 (bl_inj e)
    have hs1 : (x.toList == [91]) = false := by simpa [ByteArray.toList_eq] using str_no h1
    rw [decide_eq_false hb1, Bool.false_or]
    by_cases h2 : x = ⟨#[63]⟩
    · have hb2 : bl x = [63] := by rw [h2]; rfl
      rw [decide_eq_true hb2, Bool.true_or]
      subst h2
      go_enter Try.func89, Try.ntmps89
      go_wp2
      go_ret
      exact ⟨rfl, below_alloc w _⟩
    · have hb2 : ¬ bl x = [63] := fun e => h2 (bl_inj e)
      have hs2 : (x.toList == [63]) = false := by simpa [ByteArray.toList_eq] using str_no h2
      rw [decide_eq_false hb2, Bool.false_or]
      clear hb1 hb2 h1 h2
      by_cases hk : k = 1
      · subst hk
        simp only [decide_true, Bool.true_and]
        generalize Pl.isGram (bl x) = b at *
        go_enter Try.func89, Try.ntmps89
        go_wp2_with fail
        refine (hgr _).mono ?_
        rintro e w1 ⟨rfl, hb1⟩
        have hB := below_next (below_alloc w _) hb1
        go_wp2
        go_ret
        exact ⟨rfl, hB⟩
      · have hki : ((k : Int) == 1) = false := by simp; omega
        rw [decide_eq_false hk, Bool.false_and]
        go_enter Try.func89, Try.ntmps89
        go_wp2
        go_ret
        exact ⟨rfl, below_alloc w _⟩

theorem fits_name (w : World) : FitsT w (.func (.func 75) #[] #[]) Pl.nameT := ⟨_, _, rfl, fun _ _ => rfl, fun w' _ t => isName_any t w'⟩
theorem fits_number (w : World) : FitsT w (.func (.func 52) #[] #[]) Pl.numT := ⟨_, _, rfl, fun _ _ => rfl, fun w' _ t => isNumber_any t w'⟩
theorem fits_type (w : World) : FitsT w (.func (.func 89) #[] #[]) Pl.begT := ⟨_, _, rfl, fun _ _ => rfl, fun w' _ t => beginsType_any t w'⟩

set_option maxHeartbeats 1000000 in
theorem one_of_any (t : T3) (b : Nat) (v : Value) (l : List ByteArray) (hl : l.length ≤ 100) (w : World) (hb : Bx w b [v] 101) (hS : Strs w v l) :
    Calls Try.prog 48 #[tokV t, .pointer (some ⟨b, 0, none⟩)] w fun e w' => e = .returned (.bool (memB l (kt3 t).2)) ∧ Below w.heap.size w w' := by
  obtain ⟨k, x, ln⟩ := t
  unfold tokV kt3
  simp only
  have hbl := hb.lt
  have hcx := fun w' v' h => contains_any w' v' l x h hl
  generalize memB l (bl x) = r at *
  obtain ⟨g, rfl, hg⟩ := hS
  have hc0 := (hb.alloc (.cells #[.int .i64 (k : Int), .string x, .int .i64 (ln : Int)] 36)).cell 0 rfl
  have hS1 : Strs (w.alloc (.cells #[.int .i64 (k : Int), .string x, .int .i64 (ln : Int)] 36)) (.slice (some ⟨g, 0, none⟩) l.length l.length) l := ⟨g, rfl, hg.alloc _⟩
  have hx1 := hcx _ _ hS1
  have hbw := below_alloc w (.cells #[.int .i64 (k : Int), .string x, .int .i64 (ln : Int)] 36)
  have hcc := (Bx.new w [.int .i64 (k : Int), .string x, .int .i64 (ln : Int)] 36).cell 1 rfl
  go_enter Try.func48, Try.ntmps48
  go_wp2_with fail
  refine hx1.mono ?_
  rintro e w1 ⟨rfl, rfl⟩
  go_wp2
  go_ret
  exact ⟨rfl, hbw⟩

theorem poneOf_any (v : Value) (l : List ByteArray) (hl : l.length ≤ 100) (w : World) (hS : Strs w v l) :
    Calls Try.prog 29 #[v] w fun e w' => ∃ fv, e = .returned fv ∧ FitsT w' fv (fun t => memB l t.2) ∧ Below w.heap.size w w' := by
  obtain ⟨g, rfl, hg⟩ := id hS
  have hmf : ∀ (fn : Fn) (first cap : Array Value) (w : World), (Instr.makeFunc fn first cap).run Try.prog w = .ok (.func fn first cap) w := fun _ _ _ _ => rfl
  go_enter Try.func29, Try.ntmps29
  go_wp2
  go_ret
  refine ⟨_, rfl, ⟨_, _, rfl, fun _ _ => rfl, fun w' hc t => ?_⟩, below_alloc w _⟩
  have hb0 := Bx.new w [.slice (some ⟨g, 0, none⟩) l.length l.length] 101
  have hb1 := hb0.ch hc (by simp [Xs])
  have hg1 := (hg.alloc (.cells #[.slice (some ⟨g, 0, none⟩) l.length l.length] 101)).ch hc (by simp [Xs])
  exact one_of_any t _ _ l hl w' hb1 ⟨g, rfl, hg1⟩
end Go.Proofs.Ythdooemgnpiomaa
