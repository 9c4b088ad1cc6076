/- A region that draws its order, whose operations leave known values: what stands behind it begins with these values in their slots, whatever order was drawn. parse: sees, next, take. parse: next, take. parse: take, takeOneMore, takeName. Tokens that may be: of a text, and alone. The text of declarations, its tokens, and the declarations of these. parse: takeName, count. parse: takeType. parse: takeCase, takeField, takeMethod. A region that draws its order, by what each of its operations leaves: stores too. -/
import Derived.Test.YtdbgncdnffbhkaaGreatDoorCutPut12
import Derived.Shelf.Abstract
import Derived.WalkKit
import Derived.Test.YtdbgncdnffbhkaaGreatDoorCutPut11
import Derived.Test.YtdbgncdnffbhkaaGreatDoorCutPut09
namespace Go.Proofs.YtdbgncdnffbhkaaGreatDoor
open Go.RowKit
set_option maxRecDepth 20000

/-- Each operation's value in its slot. -/
def putL (val : Nat → Value) : List Oper → Nat → Act → Act
  | [], _, a => a
  | o :: r, i, a => putL val r (i + 1) (a.put o.dst (val i))

theorem put_size (a : Act) (d : Option Nat) (v : Value) : (a.put d v).tmps.size = a.tmps.size := by
  cases d <;> simp [Act.put]
theorem put_defers (a : Act) (d : Option Nat) (v : Value) : (a.put d v).defers = a.defers := by
  cases d <;> simp [Act.put]
theorem put_other (a : Act) (d : Option Nat) (v : Value) (t : Nat) (h : d ≠ some t) : (a.put d v).tmps.getD t undef = a.tmps.getD t undef := by
  cases d with
  | none => simp [Act.put]
  | some d =>
    have hne : d ≠ t := fun e => h (by rw [e])
    simp only [Act.put]
    rw [Array.getD_eq_getD_getElem?, Array.getD_eq_getD_getElem?, Array.getElem?_setIfInBounds_ne hne]
theorem put_self (a : Act) (t : Nat) (v : Value) (h : t < a.tmps.size) : (a.put (some t) v).tmps.getD t undef = v := by
  simp only [Act.put]
  rw [Array.getD_eq_getD_getElem?, Array.getElem?_setIfInBounds_self_of_lt h]
  rfl
theorem putL_size (val : Nat → Value) (L : List Oper) : ∀ (i : Nat) (a : Act), (putL val L i a).tmps.size = a.tmps.size ∧ (putL val L i a).defers = a.defers := by
  induction L with
  | nil => intro i a; exact ⟨rfl, rfl⟩
  | cons o r ih =>
    intro i a
    simp only [putL]
    rw [(ih _ _).1, (ih _ _).2, put_size, put_defers]
    exact ⟨rfl, rfl⟩
theorem putL_none (val : Nat → Value) (L : List Oper) : ∀ (i : Nat) (a : Act) (t : Nat), (∀ o ∈ L, o.dst ≠ some t) → (putL val L i a).tmps.getD t undef = a.tmps.getD t undef := by
  induction L with
  | nil => intro i a t _; rfl
  | cons o r ih =>
    intro i a t h
    simp only [putL]
    rw [ih _ _ _ (fun o' ho' => h o' (by simp [ho'])), put_other _ _ _ _ (h o (by simp))]
theorem putL_some (val : Nat → Value) (L : List Oper) : ∀ (i : Nat) (a : Act) (t j : Nat) (o : Oper), L[j]? = some o → o.dst = some t → (∀ j' o', L[j']? = some o' → o'.dst = some t → j' = j) → t < a.tmps.size → (putL val L i a).tmps.getD t undef = val (i + j) := by
  induction L with
  | nil => intro i a t j o h; simp at h
  | cons x r ih =>
    intro i a t j o h hd hu ht
    simp only [putL]
    cases j with
    | zero =>
      simp at h
      subst h
      rw [putL_none, hd, put_self _ _ _ ht]
      · rfl
      · intro o' ho' hd'
        obtain ⟨j', hj'⟩ := List.getElem?_of_mem ho'
        have := hu (j' + 1) o' (by simpa using hj') hd'
        omega
    | succ j =>
      rw [List.getElem?_cons_succ] at h
      rw [ih (i + 1) _ t j o h hd (fun j' o' hj' hd' => by have := hu (j' + 1) o' (by simpa using hj') hd'; omega) (by rw [put_size]; exact ht)]
      congr 1
      omega

section
variable {P : Program} {ops : Array Oper} {Q : Exit → Act → World → Prop}

/-- The region, by known values. -/
theorem wp_region_fixed {id : Nat} {a0 : Act} {w0 : World} {R : World → Prop} (val : Nat → Value) (hm : P.follows .mixedOrders = true) (hb : Region.backwards ops = true) (hd : Region.apartDst a0.tmps.size ops = true) (hR0 : R w0.drew)
    (hstep : ∀ (i : Nat) (o : Oper), ops[i]? = some o → ∀ (a : Act) (w : World), a.tmps.size = a0.tmps.size → a.defers = a0.defers → (∀ (t : Nat), (∀ (j : Nat) (o : Oper), ops[j]? = some o → o.dst ≠ some t) → a.tmps.getD t undef = a0.tmps.getD t undef) →
      (∀ e ∈ o.after, Region.binds .any e = true → ∀ (o' : Oper) (d' : Nat), ops[e.on]? = some o' → o'.dst = some d' → a.tmps.getD d' undef = val e.on) → R w →
      wpOp P ops Q i (fun a' w' => ∃ v, a' = a.put o.dst v ∧ v = val i ∧ Below w.heap.size w w' ∧ R w') a w)
    (hdone : ∀ (w : World), R w → Q .normal (putL val ops.toList 0 a0) w) :
    (Code.region id ops true).wp P Q a0 w0 := by
  refine wp_region_drawn (pred := fun i v _ => v = val i) (R := R) hm hb hd (fun _ _ _ _ h _ => h) hR0 hstep ?_
  intro a w hsz hdf hfr hcome hR
  have key : a = putL val ops.toList 0 a0 := by
    obtain ⟨s1, s2⟩ := putL_size val ops.toList 0 a0
    have ht : a.tmps = (putL val ops.toList 0 a0).tmps := by
      have hall : ∀ t, a.tmps.getD t undef = (putL val ops.toList 0 a0).tmps.getD t undef := by
        intro t
        by_cases hex : ∃ (j : Nat) (o : Oper), ops[j]? = some o ∧ o.dst = some t
        · obtain ⟨j, o, ho, hdt⟩ := hex
          obtain ⟨d, hdd, hdn, huniq⟩ := apartDst_spec hd ho
          have hdt' : d = t := by rw [hdd] at hdt; exact Option.some.inj hdt
          subst hdt'
          rw [hcome j o d ho hdd, putL_some val ops.toList 0 a0 d j o (by simpa using ho) hdd (fun j' o' hj' hd' => huniq j' o' (by simpa using hj') hd') hdn]
          congr 1
          omega
        · have hno : ∀ (j : Nat) (o : Oper), ops[j]? = some o → o.dst ≠ some t := fun j o ho hdt => hex ⟨j, o, ho, hdt⟩
          rw [hfr t hno, putL_none]
          intro o ho hdt
          obtain ⟨j, hj⟩ := List.getElem?_of_mem ho
          exact hno j o (by simpa using hj) hdt
      apply Array.ext
      · rw [hsz, s1]
      · intro i h1 h2
        have := hall i
        rw [Array.getD_eq_getD_getElem?, Array.getD_eq_getD_getElem?, Array.getElem?_eq_getElem h1, Array.getElem?_eq_getElem h2] at this
        exact this
    have hdf' : a.defers = (putL val ops.toList 0 a0).defers := hdf.trans s2.symm
    generalize putL val ops.toList 0 a0 = b at ht hdf' ⊢
    cases a
    cases b
    simp only at ht hdf'
    subst ht hdf'
    rfl
  rw [key]
  exact hdone w hR
end
section
variable {ops : Array Oper} {Q : Exit → Act → World → Prop} {i : Nat} {o : Oper} {a : Act} {w w' : World} {v : Value} {K : Act → World → Prop}
theorem wanted_plain (hg : o.guard = none) : Region.wanted o (yielded ops a.tmps) = true := by simp [Region.wanted, hg]
theorem slot_some {d : Nat} {b : Bool} (h3 : a.tmps.getD d undef = .bool b) : a.tmps[d]? = some (.bool b) := by
  rw [Array.getD_eq_getD_getElem?] at h3
  cases h : a.tmps[d]? with
  | none => rw [h] at h3; simp [undef] at h3
  | some x => rw [h] at h3; simp at h3; rw [h3]
theorem wanted_on (b : Bool) (g d : Nat) (og : Oper) (hg : o.guard = some (g, b)) (h1 : ops[g]? = some og) (h2 : og.dst = some d) (h3 : a.tmps.getD d undef = .bool b) : Region.wanted o (yielded ops a.tmps) = true := by
  cases b <;> simp [Region.wanted, hg, yielded, h1, h2, slot_some h3]
theorem unwanted (b : Bool) (g d : Nat) (og : Oper) (hg : o.guard = some (g, b)) (h1 : ops[g]? = some og) (h2 : og.dst = some d) (h3 : a.tmps.getD d undef = .bool (!b)) : Region.wanted o (yielded ops a.tmps) = false := by
  cases b <;> simp [Region.wanted, hg, yielded, h1, h2, slot_some h3]
theorem gOp_ok {P : Program} (ho : ops[i]? = some o) (hw : Region.wanted o (yielded ops a.tmps) = true) (hrun : (execOp a.eval o).run P w = .ok (.value v) w') (h : K (a.put o.dst v) w') : wpOp P ops Q i K a w := by
  unfold wpOp
  simp only [ho, hw, if_true]
  refine .inl ?_
  unfold Oper.wp
  rw [hrun]
  exact h
theorem gOp_skip {P : Program} (ho : ops[i]? = some o) (hw : Region.wanted o (yielded ops a.tmps) = false) (h : K (a.put o.dst undef) w) : wpOp P ops Q i K a w := by
  unfold wpOp
  simp only [ho, hw, Bool.false_eq_true, if_false]
  exact h
theorem gOp_enter {P : Program} (ho : ops[i]? = some o) (hw : Region.wanted o (yielded ops a.tmps) = true) (f : Nat) (args : Array Value) (hrun : (execOp a.eval o).run P w = .ok (.enter f args) w)
    (h : Calls P f args w fun e w' => ∃ u, e = .returned u ∧ K (a.put o.dst u) w') : wpOp P ops Q i K a w := by
  unfold wpOp
  simp only [ho, hw, if_true]
  refine .inl ?_
  unfold Oper.wp
  rw [hrun]
  refine h.mono ?_
  rintro e w' ⟨u, rfl, hk⟩
  exact hk
theorem run_call {P : Program} (f : Nat) (eg : ∀ args w, (callFunc f args).run P w = .ok (.enter f args) w) (args : Array Operand) (ts : Array TypeId) (hop : o.op = .call { callee := .value (.func f), args := args, argTypes := ts }) (vs : Array Value) (hs : args.map a.eval = vs) : (execOp a.eval o).run P w = .ok (.enter f vs) w := by
  subst hs
  simp [execOp, hop, resolve, invoke, show a.eval (.func f) = .func (.func f) #[] #[] from rfl, Deferred.ofValue, eg]
theorem run_callT {P : Program} (f : Nat) (cap : Array Value) (eg : ∀ args w, (callFunc f args).run P w = .ok (.enter f args) w) (s : Nat) (args : Array Operand) (ts : Array TypeId) (hop : o.op = .call { callee := .value (.tmp s), args := args, argTypes := ts }) (hf : a.eval (.tmp s) = .func (.func f) #[] cap) (vs : Array Value) (hs : args.map a.eval = vs) : (execOp a.eval o).run P w = .ok (.enter f (vs ++ cap)) w := by
  subst hs
  simp [execOp, hop, resolve, invoke, hf, Deferred.ofValue, eg]
theorem gOp_mv {P : Program} {x : Operand} (ho : ops[i]? = some o) (hw : Region.wanted o (yielded ops a.tmps) = true) (hop : o.op = .move x ∨ o.op = .assign x) (hs : a.eval x = v) (h : K (a.put o.dst v) w) : wpOp P ops Q i K a w := by
  refine gOp_ok ho hw ?_ h
  subst hs
  rcases hop with hop | hop <;> simp [execOp, hop]
theorem gOp_nil {P : Program} {x : Operand} {ad : Addr} (ho : ops[i]? = some o) (hw : Region.wanted o (yielded ops a.tmps) = true) (hop : o.op = .nilCheck x) (hs : a.eval x = .pointer (some ad)) (h : K (a.put o.dst (.pointer (some ad))) w) : wpOp P ops Q i K a w := by
  refine gOp_ok ho hw ?_ h
  simp [execOp, hop, hs]
theorem gOp_fld {P : Program} {T : TypeId} {x : Operand} {f : Nat} {u : Value} (ho : ops[i]? = some o) (hw : Region.wanted o (yielded ops a.tmps) = true) (hop : o.op = .fieldAddr T x f) (hs : a.eval x = u) (hr : (Instr.fieldAt T u f).run P w = .ok v w) (h : K (a.put o.dst v) w) : wpOp P ops Q i K a w := by
  refine gOp_ok ho hw ?_ h
  simp [execOp, hop, hs, hr]
theorem gOp_ld {P : Program} {T : TypeId} {x : Operand} {u : Value} (ho : ops[i]? = some o) (hw : Region.wanted o (yielded ops a.tmps) = true) (hop : o.op = .load T x) (hs : a.eval x = u) (hr : (Instr.loadAt T u).run P w = .ok v w) (h : K (a.put o.dst v) w) : wpOp P ops Q i K a w := by
  refine gOp_ok ho hw ?_ h
  simp [execOp, hop, hs, hr]
theorem gOp_ix {P : Program} {T : TypeId} {x y : Operand} {u z : Value} (ho : ops[i]? = some o) (hw : Region.wanted o (yielded ops a.tmps) = true) (hop : o.op = .indexAddr T x y) (hs : a.eval x = u) (ht : a.eval y = z) (hr : (Instr.indexAt T u z).run P w = .ok v w) (h : K (a.put o.dst v) w) : wpOp P ops Q i K a w := by
  refine gOp_ok ho hw ?_ h
  simp [execOp, hop, hs, ht, hr]
theorem gOp_not {P : Program} {T : TypeId} {x : Operand} {b : Bool} (ho : ops[i]? = some o) (hw : Region.wanted o (yielded ops a.tmps) = true) (hop : o.op = .unOp .not T x) (hs : a.eval x = .bool b) (h : K (a.put o.dst (.bool (!b))) w) : wpOp P ops Q i K a w := by
  refine gOp_ok (v := .bool (!b)) ho hw ?_ h
  simp only [execOp, hop, hs]
  rfl
theorem gOp_pk {P : Program} {c x y : Operand} {b : Bool} (ho : ops[i]? = some o) (hw : Region.wanted o (yielded ops a.tmps) = true) (hop : o.op = .pick c x y) (hc : a.eval c = .bool b) (hs : (if b then a.eval x else a.eval y) = v) (h : K (a.put o.dst v) w) : wpOp P ops Q i K a w := by
  refine gOp_ok ho hw ?_ h
  subst hs
  cases b <;> simp only [execOp, hop, hc] <;> rfl
end
end Go.Proofs.YtdbgncdnffbhkaaGreatDoor

namespace Go.Proofs.YtdbgncdnffbhkaaGreatDoor
open Go.RowKit
set_option maxRecDepth 20000

/-- The next token is one that is looked for. -/
def seesT (p : Pl.Kt → Bool) (l : List T3) : Bool := match l with | [] => false | t :: _ => p (kt3 t)

theorem drop_token (l : List T3) (i : Nat) (t : T3) (h : l[i]? = some t) : l.drop i = t :: l.drop (i + 1) := by
  obtain ⟨hl, rfl⟩ := List.getElem?_eq_some_iff.1 h
  exact List.drop_eq_getElem_cons hl

/-- The token at a place. -/
theorem TSeg.token {w : World} {a : Option Addr} {L cp : Nat} {l : List T3} (h : TSeg w (.slice a L cp) (l.map toZ)) (i : Nat) (t : T3) (hi : l[i]? = some t) :
    ∃ g off, a = some ⟨g, off, none⟩ ∧ g < w.heap.size ∧ L = l.length ∧ w.cell? ⟨g, off + i * 3, none⟩ = some (.int .i64 (t.1 : Int)) ∧ w.cell? ⟨g, off + i * 3 + 1, none⟩ = some (.string t.2.1) ∧ w.cell? ⟨g, off + i * 3 + 2, none⟩ = some (.int .i64 (t.2.2 : Int)) := by
  obtain ⟨a', cap', he, h1, h2, h3, h4⟩ := h
  injection he with e1 e2 e3
  rw [List.length_map] at e2 h4
  have hl := (List.getElem?_eq_some_iff.1 hi).1
  subst e1
  rcases a with _ | ⟨g, off, ar⟩
  · have := (h3 rfl).1
    simp at this
    subst this
    simp at hl
  obtain ⟨rfl, hg, hc⟩ := h4 g off ar rfl (by omega)
  obtain ⟨q1, q2, q3⟩ := hc i (toZ t) (by rw [List.getElem?_map, hi]; rfl)
  exact ⟨g, off, rfl, hg, e2, q1, q2, q3⟩

set_option maxHeartbeats 4000000 in
set_option maxRecDepth 4000 in
theorem psees_any (n : Nat) (sv : Value) (l : List T3) (rest : List Value) (w : World) (i : Nat) (h : Pos n sv rest w i) (hS : TSeg w sv (l.map toZ)) (hi : i ≤ l.length) (fv : Value) (p : Pl.Kt → Bool) (hF : FitsT w fv p) :
    Calls Tryz.prog 193 #[.pointer (some ⟨n, 0, none⟩), fv] w fun e w' => e = .returned (.bool (seesT p (l.drop i))) ∧ Below w.heap.size w w' := by
  obtain ⟨fk, cap, rfl, hen, hF2⟩ := hF
  obtain ⟨a, cp, hsv, h1, h2, _⟩ := id hS
  rw [List.length_map] at hsv h1
  subst hsv
  obtain ⟨L, hL⟩ : ∃ L, L = l.length := ⟨_, rfl⟩
  have HL : Hid (L = l.length) := hL
  rw [← hL] at h h1 hi hS
  clear hL
  have hov : ∀ W, Below w.heap.size w W → Calls Tryz.prog 144 #[.pointer (some ⟨n, 0, none⟩)] W fun e w' => e = .returned (.bool (decide (i = L))) ∧ ∃ m, w' = W.drewN m := fun W hb => pover_any n a L cp rest W i (h.below hb)
  obtain ⟨c0, c1, hf, hlt⟩ := h.facts
  by_cases he : i = L
  · have hsee : seesT p (l.drop i) = false := by
      rw [List.drop_of_length_le (by have := HL.out; omega)]
      rfl
    rw [hsee]
    rw [decide_eq_true he] at hov
    have hov' : ∀ m, Calls Tryz.prog 144 #[.pointer (some ⟨n, 0, none⟩)] (w.drewN m) fun e w' => e = .returned (.bool true) ∧ ∃ k, w' = (w.drewN m).drewN k := fun m => hov _ (below_drewN (Below.refl _ _) m)
    go_enter Tryz.func193, Tryz.ntmps193
    go_wp2
    go_quiet (first | (go_at_call 144; exact Calls.quiet_of (hov' _)))
    go_wp2
    go_ret
    exact ⟨rfl, below_drewN (Below.refl _ _) nq⟩
  · have hlt2 : i < L := by omega
    obtain ⟨t, ht⟩ : ∃ t, l[i]? = some t := ⟨l[i]'(by have := HL.out; omega), by simp⟩
    have hsee : seesT p (l.drop i) = p (kt3 t) := by rw [drop_token l i t ht]; rfl
    rw [hsee]
    have hcl := fun W (hb : Below w.heap.size w W) => hF2 W (Ch.below hb) t
    generalize p (kt3 t) = b at *
    rw [decide_eq_false he] at hov
    obtain ⟨g, off, rfl, hg, -, q1, q2, q3⟩ := hS.token i t ht
    have hP : ∀ W, Below w.heap.size w W → Pos n (.slice (some ⟨g, off, none⟩) L cp) rest W i := fun W hb => h.below hb
    clear hsee hF2 hS ht c0 c1
    go_enter Tryz.func193, Tryz.ntmps193
    go_wp2_with fail
    obtain ⟨val, hval⟩ : ∃ val : Nat → Value, val = fun jx => match jx with | 0 => .pointer (some ⟨n, 0, none⟩) | 1 => .bool false | 2 => .bool true | 3 => .bool true | 4 => .func (.func fk) #[] cap | 5 => .pointer (some ⟨n, 0, none⟩) | 6 => .pointer (some ⟨n, 0, none⟩) | 7 => .pointer (some ⟨n, 0, none⟩) | 8 => .slice (some ⟨g, off, none⟩) L cp | 9 => .pointer (some ⟨n, 0, none⟩) | 10 => .pointer (some ⟨n, 0, none⟩) | 11 => .pointer (some ⟨n, 1, none⟩) | 12 => .int .i64 (i : Int) | 13 => .pointer (some ⟨g, off + i * 3, none⟩) | 14 => tokV t | 15 => .bool b | 16 => .bool b | 17 => .bool b | _ => undef := ⟨_, rfl⟩
    refine wp_region_fixed (R := fun W => Below w.heap.size w W) val (by kernel_rfl) (by kernel_rfl) (by kernel_rfl) (Below.refl _ _).drew ?step ?done
    case step =>
      subst hval
      intro ix o ho A W hsz hdf hfr hdep hR
      rcases ix with _ | _ | _ | _ | _ | _ | _ | _ | _ | _ | _ | _ | _ | _ | _ | _ | _ | _ | ix
      · injection ho with ho
        subst ho
        have e0 : A.eval (.tmp 0) = .pointer (some ⟨n, 0, none⟩) := (hfr 0 (noDst_spec (by kernel_rfl))).trans rfl
        exact gOp_mv rfl (wanted_plain rfl) (.inl rfl) e0 ⟨_, rfl, rfl, Below.refl _ _, hR⟩
      · injection ho with ho
        subst ho
        have e5 : A.eval (.tmp 5) = .pointer (some ⟨n, 0, none⟩) := hdep ⟨0, .data⟩ (by simp) rfl _ _ rfl rfl
        refine gOp_enter rfl (wanted_plain rfl) 144 #[.pointer (some ⟨n, 0, none⟩)] (run_call _ (fun _ _ => rfl) _ _ rfl _ (by simp [e5])) ?_
        refine (hov W hR).mono ?_
        rintro e w' ⟨rfl, m, rfl⟩
        exact ⟨_, rfl, _, rfl, rfl, below_drewN (Below.refl _ _) m, hR.trans (below_drewN (Below.refl _ _) m)⟩
      · injection ho with ho
        subst ho
        have e6 : A.eval (.tmp 6) = .bool false := hdep ⟨1, .data⟩ (by simp) rfl _ _ rfl rfl
        exact gOp_not rfl (wanted_plain rfl) rfl e6 ⟨_, rfl, rfl, Below.refl _ _, hR⟩
      · injection ho with ho
        subst ho
        have e7 : A.eval (.tmp 7) = .bool true := hdep ⟨2, .data⟩ (by simp) rfl _ _ rfl rfl
        exact gOp_mv rfl (wanted_plain rfl) (.inl rfl) e7 ⟨_, rfl, rfl, Below.refl _ _, hR⟩
      · injection ho with ho
        subst ho
        have e1 : A.eval (.tmp 1) = .func (.func fk) #[] cap := (hfr 1 (noDst_spec (by kernel_rfl))).trans rfl
        exact gOp_mv rfl (wanted_on true 3 8 _ rfl rfl rfl (hdep ⟨3, .guard⟩ (by simp) rfl _ _ rfl rfl)) (.inl rfl) e1 ⟨_, rfl, rfl, Below.refl _ _, hR⟩
      · injection ho with ho
        subst ho
        have e0 : A.eval (.tmp 0) = .pointer (some ⟨n, 0, none⟩) := (hfr 0 (noDst_spec (by kernel_rfl))).trans rfl
        exact gOp_mv rfl (wanted_on true 3 8 _ rfl rfl rfl (hdep ⟨3, .guard⟩ (by simp) rfl _ _ rfl rfl)) (.inl rfl) e0 ⟨_, rfl, rfl, Below.refl _ _, hR⟩
      · injection ho with ho
        subst ho
        have e10 : A.eval (.tmp 10) = .pointer (some ⟨n, 0, none⟩) := hdep ⟨5, .data⟩ (by simp) rfl _ _ rfl rfl
        exact gOp_nil rfl (wanted_on true 3 8 _ rfl rfl rfl (hdep ⟨3, .guard⟩ (by simp) rfl _ _ rfl rfl)) rfl e10 ⟨_, rfl, rfl, Below.refl _ _, hR⟩
      · injection ho with ho
        subst ho
        have e11 : A.eval (.tmp 11) = .pointer (some ⟨n, 0, none⟩) := hdep ⟨6, .data⟩ (by simp) rfl _ _ rfl rfl
        exact gOp_fld (v := .pointer (some ⟨n, 0, none⟩)) rfl (wanted_on true 3 8 _ rfl rfl rfl (hdep ⟨3, .guard⟩ (by simp) rfl _ _ rfl rfl)) rfl e11 (by go_simp) ⟨_, rfl, rfl, Below.refl _ _, hR⟩
      · injection ho with ho
        subst ho
        have e12 : A.eval (.tmp 12) = .pointer (some ⟨n, 0, none⟩) := hdep ⟨7, .data⟩ (by simp) rfl _ _ rfl rfl
        have c0 := (hP W hR).facts.1
        exact gOp_ld (v := .slice (some ⟨g, off, none⟩) L cp) rfl (wanted_on true 3 8 _ rfl rfl rfl (hdep ⟨3, .guard⟩ (by simp) rfl _ _ rfl rfl)) rfl e12 (by go_simp) ⟨_, rfl, rfl, Below.refl _ _, hR⟩
      · injection ho with ho
        subst ho
        have e0 : A.eval (.tmp 0) = .pointer (some ⟨n, 0, none⟩) := (hfr 0 (noDst_spec (by kernel_rfl))).trans rfl
        exact gOp_mv rfl (wanted_on true 3 8 _ rfl rfl rfl (hdep ⟨3, .guard⟩ (by simp) rfl _ _ rfl rfl)) (.inl rfl) e0 ⟨_, rfl, rfl, Below.refl _ _, hR⟩
      · injection ho with ho
        subst ho
        have e14 : A.eval (.tmp 14) = .pointer (some ⟨n, 0, none⟩) := hdep ⟨9, .data⟩ (by simp) rfl _ _ rfl rfl
        exact gOp_nil rfl (wanted_on true 3 8 _ rfl rfl rfl (hdep ⟨3, .guard⟩ (by simp) rfl _ _ rfl rfl)) rfl e14 ⟨_, rfl, rfl, Below.refl _ _, hR⟩
      · injection ho with ho
        subst ho
        have e15 : A.eval (.tmp 15) = .pointer (some ⟨n, 0, none⟩) := hdep ⟨10, .data⟩ (by simp) rfl _ _ rfl rfl
        exact gOp_fld (v := .pointer (some ⟨n, 1, none⟩)) rfl (wanted_on true 3 8 _ rfl rfl rfl (hdep ⟨3, .guard⟩ (by simp) rfl _ _ rfl rfl)) rfl e15 (by go_simp) ⟨_, rfl, rfl, Below.refl _ _, hR⟩
      · injection ho with ho
        subst ho
        have e16 : A.eval (.tmp 16) = .pointer (some ⟨n, 1, none⟩) := hdep ⟨11, .data⟩ (by simp) rfl _ _ rfl rfl
        have c1 := (hP W hR).facts.2.1
        exact gOp_ld (v := .int .i64 (i : Int)) rfl (wanted_on true 3 8 _ rfl rfl rfl (hdep ⟨3, .guard⟩ (by simp) rfl _ _ rfl rfl)) rfl e16 (by go_simp) ⟨_, rfl, rfl, Below.refl _ _, hR⟩
      · injection ho with ho
        subst ho
        have e13 : A.eval (.tmp 13) = .slice (some ⟨g, off, none⟩) L cp := hdep ⟨8, .data⟩ (by simp) rfl _ _ rfl rfl
        have e17 : A.eval (.tmp 17) = .int .i64 (i : Int) := hdep ⟨12, .data⟩ (by simp) rfl _ _ rfl rfl
        have hil : (0 : Int) ≤ (i : Int) ∧ (i : Int) < (L : Int) := by omega
        exact gOp_ix (v := .pointer (some ⟨g, off + i * 3, none⟩)) rfl (wanted_on true 3 8 _ rfl rfl rfl (hdep ⟨3, .guard⟩ (by simp) rfl _ _ rfl rfl)) rfl e13 e17 (by go_simp) ⟨_, rfl, rfl, Below.refl _ _, hR⟩
      · injection ho with ho
        subst ho
        have e18 : A.eval (.tmp 18) = .pointer (some ⟨g, off + i * 3, none⟩) := hdep ⟨13, .data⟩ (by simp) rfl _ _ rfl rfl
        have q1 := (hR.cell hg).trans q1
        have q2 := (hR.cell hg).trans q2
        have q3 := (hR.cell hg).trans q3
        exact gOp_ld (v := tokV t) rfl (wanted_on true 3 8 _ rfl rfl rfl (hdep ⟨3, .guard⟩ (by simp) rfl _ _ rfl rfl)) rfl e18 (by unfold tokV; go_simp) ⟨_, rfl, rfl, Below.refl _ _, hR⟩
      · injection ho with ho
        subst ho
        have e9 : A.eval (.tmp 9) = .func (.func fk) #[] cap := hdep ⟨4, .data⟩ (by simp) rfl _ _ rfl rfl
        have e19 : A.eval (.tmp 19) = tokV t := hdep ⟨14, .data⟩ (by simp) rfl _ _ rfl rfl
        refine gOp_enter rfl (wanted_on true 3 8 _ rfl rfl rfl (hdep ⟨3, .guard⟩ (by simp) rfl _ _ rfl rfl)) fk (#[tokV t] ++ cap) (run_callT fk cap hen 9 _ _ rfl e9 _ (by simp [e19])) ?_
        refine (hcl W hR).mono ?_
        rintro e w' ⟨rfl, hb'⟩
        exact ⟨_, rfl, _, rfl, rfl, hb', hR.trans (hb'.mono hR.size)⟩
      · injection ho with ho
        subst ho
        have e8 : A.eval (.tmp 8) = .bool true := hdep ⟨3, .data⟩ (by simp) rfl _ _ rfl rfl
        have e20 : A.eval (.tmp 20) = .bool b := hdep ⟨15, .data⟩ (by simp) rfl _ _ rfl rfl
        exact gOp_pk (v := .bool b) rfl (wanted_plain rfl) rfl e8 (by first | exact e20 | rfl) ⟨_, rfl, rfl, Below.refl _ _, hR⟩
      · injection ho with ho
        subst ho
        have e21 : A.eval (.tmp 21) = .bool b := hdep ⟨16, .data⟩ (by simp) rfl _ _ rfl rfl
        exact gOp_mv rfl (wanted_plain rfl) (.inr rfl) e21 ⟨_, rfl, rfl, Below.refl _ _, hR⟩
      · simp at ho
    case done =>
      intro W hR
      subst hval
      simp only [putL, Act.put, List.setIfInBounds_toArray, List.set_cons_zero, List.set_cons_succ]
      go_wp2
      go_ret
      exact ⟨rfl, hR⟩
end Go.Proofs.YtdbgncdnffbhkaaGreatDoor

namespace Go.Proofs.YtdbgncdnffbhkaaGreatDoor
open Go.RowKit
set_option maxRecDepth 20000

theorem ret_tok45 {W : World} {tmps : Array Value} {b : Nat} {x y z : Value} (ht : tmps.getD 4 undef = .pointer (some ⟨b, 0, none⟩)) (h0 : W.cell? ⟨b, 0, none⟩ = some x) (h1 : W.cell? ⟨b, 1, none⟩ = some y) (h2 : W.cell? ⟨b, 2, none⟩ = some z) :
    (results Tryz.f170 tmps).run Tryz.prog W = .ok (.agg #[x, y, z]) W := by
  have ht' : tmps[4]?.getD undef = .pointer (some ⟨b, 0, none⟩) := by rw [← Array.getD_eq_getD_getElem?]; exact ht
  simp [results, Tryz.results170]
  go_simp

set_option maxHeartbeats 4000000 in
set_option maxRecDepth 4000 in
theorem pnext_ok (n : Nat) (sv : Value) (l : List T3) (rest : List Value) (w : World) (i : Nat) (h : Pos n sv rest w i) (hS : TSeg w sv (l.map toZ)) (t : T3) (ht : l[i]? = some t) (fv : Value) (p : Pl.Kt → Bool) (hF : FitsT w fv p) (hp : p (kt3 t) = true) :
    Calls Tryz.prog 170 #[.pointer (some ⟨n, 0, none⟩), fv] w fun e w' => e = .returned (tokV t) ∧ Below w.heap.size w w' := by
  have hil := (List.getElem?_eq_some_iff.1 ht).1
  obtain ⟨a, cp, hsv, h1, h2, _⟩ := id hS
  rw [List.length_map] at hsv h1
  subst hsv
  obtain ⟨g, off, rfl, hg, -, q1, q2, q3⟩ := hS.token i t ht
  have hsees : ∀ W, Below w.heap.size w W → Calls Tryz.prog 193 #[.pointer (some ⟨n, 0, none⟩), fv] W fun e w' => e = .returned (.bool true) ∧ Below W.heap.size W w' := by
    intro W hb
    have := psees_any n _ l rest W i (h.below hb) (hS.below hb) (by omega) fv p (hF.ch (Ch.below hb))
    rw [drop_token l i t ht] at this
    simp only [seesT, hp] at this
    exact this
  have hov : ∀ W, Below w.heap.size w W → Calls Tryz.prog 144 #[.pointer (some ⟨n, 0, none⟩)] W fun e w' => e = .returned (.bool false) ∧ ∃ m, w' = W.drewN m := by
    intro W hb
    have := pover_any n _ l.length cp rest W i (h.below hb)
    rw [decide_eq_false (by omega)] at this
    exact this
  obtain ⟨fk, cap, rfl, _, _⟩ := id hF
  generalize l.length = L at *
  have hlt : n < w.heap.size := h.facts.2.2.2
  clear hS
  go_enter Tryz.func170, Tryz.ntmps170
  go_wp2_with fail
  have hb0 := below_alloc w (.cells #[.int .i64 0, .string ⟨#[]⟩, .int .i64 0] 165)
  have hB0 := Bx.new w [.int .i64 0, .string ⟨#[]⟩, .int .i64 0] 165
  obtain ⟨b, hbe⟩ : ∃ b, b = w.heap.size := ⟨_, rfl⟩
  rw [← hbe] at hB0 ⊢
  change Bx (w.alloc (.cells #[.int .i64 0, .string ⟨#[]⟩, .int .i64 0] 165)) b _ _ at hB0
  have HB : Hid (b = w.heap.size) := hbe
  clear hbe
  generalize w.alloc (.cells #[.int .i64 0, .string ⟨#[]⟩, .int .i64 0] 165) = w0 at *
  refine (hov w0 hb0).mono ?_
  rintro e w1 ⟨rfl, m, rfl⟩
  have hb1 := below_drewN hb0 m
  have hB1 := hB0.below (below_drewN (Below.refl _ _) m)
  generalize w0.drewN m = w1 at *
  go_wp2_with fail
  refine (hsees w1 hb1).mono ?_
  rintro e w2 ⟨rfl, hb2⟩
  have hb2' := hb1.trans (hb2.mono hb1.size)
  have hB2 := hB1.below hb2
  have hP2 := h.below hb2'
  have Q1 := (hb2'.cell hg).trans q1
  have Q2 := (hb2'.cell hg).trans q2
  have Q3 := (hb2'.cell hg).trans q3
  obtain ⟨c0, c1, hf, hlt2⟩ := hP2.facts
  have d0 := hB2.cell 0 rfl
  have d1 := hB2.cell 1 rfl
  have d2 := hB2.cell 2 rfl
  have hfb := hB2.frozen
  have hbl := hB2.lt
  have hiL : (0 : Int) ≤ (i : Int) ∧ (i : Int) < (L : Int) := by omega
  clear hb0 hB0 hb1 hB1 hb2 q1 q2 q3 hov hsees
  go_wp2_with fail
  go_region
  go_wp2
  have hB3 : Bx (((w2.setCell ⟨b, 0, none⟩ (.int .i64 (t.1 : Int))).setCell ⟨b, 1, none⟩ (.string t.2.1)).setCell ⟨b, 2, none⟩ (.int .i64 (t.2.2 : Int))).drew b [.int .i64 (t.1 : Int), .string t.2.1, .int .i64 (t.2.2 : Int)] 165 := (((hB2.set 0 _).set 1 _).set 2 _).below (Below.refl _ _).drew
  refine bodyPost_ret (ret_tok45 rfl (hB3.cell 0 rfl) (hB3.cell 1 rfl) (hB3.cell 2 rfl)) rfl ?_
  refine ⟨rfl, ?_⟩
  have hge : w.heap.size ≤ b := by rw [HB.out]; exact Nat.le_refl _
  exact (((hb2'.setCell hge _).setCell hge _).setCell hge _).drew

/-- What is told where another token stands, or none. -/
theorem take_bad {p : Pl.Kt → Bool} {l : List T3} {i : Nat} {r : List Pl.Kt} {e : Nat} (h : Pl.takeP p ((l.drop i).map kt3) = .bad r e) (hi : i ≤ l.length) :
    (i = l.length ∧ e = 8 ∧ r = (l.drop i).map kt3) ∨ (∃ t, l[i]? = some t ∧ p (kt3 t) = false ∧ e = 33 ∧ r = (l.drop i).map kt3) := by
  by_cases he : i = l.length
  · left
    rw [List.drop_of_length_le (by omega)] at h ⊢
    simp only [List.map_nil, Pl.takeP, Pl.Res.bad.injEq] at h
    exact ⟨he, h.2.symm, h.1.symm⟩
  · right
    have ht : l[i]? = some (l[i]'(by omega)) := by simp
    refine ⟨_, ht, ?_⟩
    rw [drop_token l i _ ht] at h ⊢
    simp only [List.map_cons, Pl.takeP] at h
    split at h
    · cases h
    · rename_i hp
      simp only [Pl.Res.bad.injEq] at h
      exact ⟨by simpa using hp, h.2.symm, by rw [← h.1]; rfl⟩
theorem take_ok {p : Pl.Kt → Bool} {l : List T3} {i : Nat} {k : Pl.Kt} {r : List Pl.Kt} (h : Pl.takeP p ((l.drop i).map kt3) = .ok k r) : ∃ t, l[i]? = some t ∧ p (kt3 t) = true ∧ k = kt3 t ∧ r = (l.drop (i + 1)).map kt3 := by
  cases hd : l.drop i with
  | nil =>
    rw [hd] at h
    simp [Pl.takeP] at h
  | cons t r' =>
    have ht : l[i]? = some t := by
      have := congrArg (fun x => x[0]?) hd
      simpa using this
    rw [drop_token l i t ht] at h
    simp only [List.map_cons, Pl.takeP] at h
    split at h
    · rename_i hp
      simp only [Pl.Res.ok.injEq] at h
      exact ⟨t, ht, hp, h.1.symm, h.2.symm⟩
    · cases h

set_option maxHeartbeats 4000000 in
set_option maxRecDepth 4000 in
theorem pnext_bad (n : Nat) (sv : Value) (l : List T3) (rest : List Value) (w : World) (i : Nat) (h : Pos n sv rest w i) (hS : TSeg w sv (l.map toZ)) (hl : 0 < l.length) (hi : i ≤ l.length) (fv : Value) (p : Pl.Kt → Bool) (hF : FitsT w fv p) (r : List Pl.Kt) (er : Nat) (hp : Pl.takeP p ((l.drop i).map kt3) = .bad r er) :
    Calls Tryz.prog 170 #[.pointer (some ⟨n, 0, none⟩), fv] w fun e w' => e = .panicked (fault (lineAt l i) er) ∧ Below w.heap.size w w' := by
  have hfail : ∀ W (x : Int), Below w.heap.size w W → Calls Tryz.prog 171 #[.pointer (some ⟨n, 0, none⟩), .int .i64 x] W fun e w' => e = .panicked (fault (lineAt l i) x) ∧ ∃ m, w' = W.drewN m := fun W x hb => pfail_any n sv l rest W i (h.below hb) (hS.below hb) hl x
  have hsees : ∀ W, Below w.heap.size w W → Calls Tryz.prog 193 #[.pointer (some ⟨n, 0, none⟩), fv] W fun e w' => e = .returned (.bool (seesT p (l.drop i))) ∧ Below W.heap.size W w' := fun W hb => psees_any n _ l rest W i (h.below hb) (hS.below hb) hi fv p (hF.ch (Ch.below hb))
  obtain ⟨a, cp, hsv, -⟩ := id hS
  rw [List.length_map] at hsv
  have hov : ∀ W, Below w.heap.size w W → Calls Tryz.prog 144 #[.pointer (some ⟨n, 0, none⟩)] W fun e w' => e = .returned (.bool (decide (i = l.length))) ∧ ∃ m, w' = W.drewN m := by
    intro W hb
    have hP := h.below hb
    rw [hsv] at hP
    exact pover_any n _ l.length cp rest W i hP
  obtain ⟨fk, cap, rfl, _, _⟩ := id hF
  have hcase := take_bad hp hi
  have hb0 := below_alloc w (.cells #[.int .i64 0, .string ⟨#[]⟩, .int .i64 0] 165)
  generalize lineAt l i = ln at *
  rcases hcase with ⟨he, rfl, -⟩ | ⟨t, ht, hpt, rfl, -⟩
  · rw [decide_eq_true he] at hov
    clear hsees hS hF hsv hp
    go_enter Tryz.func170, Tryz.ntmps170
    go_wp2_with fail
    refine (hov _ hb0).mono ?_
    rintro e w1 ⟨rfl, m, rfl⟩
    have hb1 := below_drewN hb0 m
    go_wp2_with fail
    refine (hfail _ _ hb1).mono ?_
    rintro e w2 ⟨rfl, m2, rfl⟩
    exact ⟨rfl, rfl, below_drewN hb1 m2⟩
  · have hne : i ≠ l.length := by have := (List.getElem?_eq_some_iff.1 ht).1; omega
    have hse : seesT p (l.drop i) = false := by rw [drop_token l i t ht]; exact hpt
    rw [decide_eq_false hne] at hov
    rw [hse] at hsees
    clear hS hF hsv hp hse ht hpt
    go_enter Tryz.func170, Tryz.ntmps170
    go_wp2_with fail
    refine (hov _ hb0).mono ?_
    rintro e w1 ⟨rfl, m, rfl⟩
    have hb1 := below_drewN hb0 m
    go_wp2_with fail
    refine (hsees _ hb1).mono ?_
    rintro e w2 ⟨rfl, hb2⟩
    have hb2' := hb1.trans (hb2.mono hb1.size)
    go_wp2_with fail
    refine (hfail _ _ hb2').mono ?_
    rintro e w3 ⟨rfl, m2, rfl⟩
    exact ⟨rfl, rfl, below_drewN hb2' m2⟩
end Go.Proofs.YtdbgncdnffbhkaaGreatDoor

namespace Go.Proofs.YtdbgncdnffbhkaaGreatDoor
open Go.RowKit
set_option maxRecDepth 20000

theorem ret_tok47 {W : World} {tmps : Array Value} {b : Nat} {x y z : Value} (ht : tmps.getD 4 undef = .pointer (some ⟨b, 0, none⟩)) (h0 : W.cell? ⟨b, 0, none⟩ = some x) (h1 : W.cell? ⟨b, 1, none⟩ = some y) (h2 : W.cell? ⟨b, 2, none⟩ = some z) :
    (results Tryz.f172 tmps).run Tryz.prog W = .ok (.agg #[x, y, z]) W := by
  have ht' : tmps[4]?.getD undef = .pointer (some ⟨b, 0, none⟩) := by rw [← Array.getD_eq_getD_getElem?]; exact ht
  simp [results, Tryz.results172]
  go_simp
theorem ret_tok28 {W : World} {tmps : Array Value} {b : Nat} {x y z : Value} (ht : tmps.getD 8 undef = .pointer (some ⟨b, 0, none⟩)) (h0 : W.cell? ⟨b, 0, none⟩ = some x) (h1 : W.cell? ⟨b, 1, none⟩ = some y) (h2 : W.cell? ⟨b, 2, none⟩ = some z) :
    (results Tryz.f145 tmps).run Tryz.prog W = .ok (.agg #[x, y, z]) W := by
  have ht' : tmps[8]?.getD undef = .pointer (some ⟨b, 0, none⟩) := by rw [← Array.getD_eq_getD_getElem?]; exact ht
  simp [results, Tryz.results145]
  go_simp

theorem Ch.new {X : Nat → TypeId → Prop} {w w' : World} (h : Ch X w w') {b k : Nat} (hb : w.heap.size ≤ b) (u : Value) : Ch X w (w'.setCell ⟨b, k, none⟩ u) :=
  ⟨h.os, h.tape, h.output, by simp [h.size], fun g o ho hn => (heap_setCell_other w' ⟨b, k, none⟩ g u (by have := lt_of_some ho; simp; omega)).trans (h.block g o ho hn)⟩
theorem Ch.al {X : Nat → TypeId → Prop} {w w' : World} (h : Ch X w w') (o : Obj) : Ch X w (w'.alloc o) := h.trans (Ch.alloc w' o)
theorem Ch.bel {X : Nat → TypeId → Prop} {w w' w'' : World} (h : Ch X w w') (hb : Below w'.heap.size w' w'') : Ch X w w'' := h.trans (Ch.below hb)
theorem Pos.set {X : Nat → TypeId → Prop} {n : Nat} {sv : Value} {rest : List Value} {w w' : World} {i : Nat} (h : Ch X w w') (hP : Pos n sv rest w' i) (hX : X n 170) (k : Nat) (u : Value) : Ch X w (w'.setCell ⟨n, k, none⟩ u) := h.trans (Ch.set hP hX u)

/-- A call that goes over tokens from place i on, as it does on lists: what is told, and where it is then; or the fault. -/
def Runs {α : Type} (l : List T3) (n : Nat) (sv : Value) (rest : List Value) (w : World) (res : Pl.Res α) (V : α → Value → World → Prop) (e : Ending) (w' : World) : Prop :=
  match res with
  | .ok a r => ∃ v i', e = .returned v ∧ i' ≤ l.length ∧ r = (l.drop i').map kt3 ∧ Pos n sv rest w' i' ∧ V a v w' ∧ Ch (Xp n) w w'
  | .bad r er => ∃ i', e = .panicked (fault (lineAt l i') er) ∧ i' ≤ l.length ∧ r = (l.drop i').map kt3 ∧ Ch (Xp n) w w'

theorem Pos.other {n : Nat} {sv : Value} {rest : List Value} {w : World} {i : Nat} (h : Pos n sv rest w i) {c k : Nat} (hc : n ≠ c) (u : Value) : Pos n sv rest (w.setCell ⟨c, k, none⟩ u) i := Bx.other h hc u

set_option maxHeartbeats 4000000 in
set_option maxRecDepth 4000 in
theorem ptake_ok (n : Nat) (sv : Value) (l : List T3) (rest : List Value) (w : World) (i : Nat) (h : Pos n sv rest w i) (hS : TSeg w sv (l.map toZ)) (hbig : l.length ≤ 1000000) (t : T3) (ht : l[i]? = some t) (fv : Value) (p : Pl.Kt → Bool) (hF : FitsT w fv p) (hp : p (kt3 t) = true) :
    Calls Tryz.prog 172 #[.pointer (some ⟨n, 0, none⟩), fv] w fun e w' => e = .returned (tokV t) ∧ Pos n sv rest w' (i + 1) ∧ Ch (Xp n) w w' := by
  have hb0 := below_alloc w (.cells #[.int .i64 0, .string ⟨#[]⟩, .int .i64 0] 165)
  have hB0 := Bx.new w [.int .i64 0, .string ⟨#[]⟩, .int .i64 0] 165
  have hil := (List.getElem?_eq_some_iff.1 ht).1
  have hnx := pnext_ok n sv l rest _ i (h.below hb0) (hS.below hb0) t ht fv p (hF.ch (Ch.below hb0)) hp
  have hlt : n < w.heap.size := h.facts.2.2.2
  obtain ⟨fk, cap, rfl, _, _⟩ := id hF
  obtain ⟨b, hbe⟩ : ∃ b, b = w.heap.size := ⟨_, rfl⟩
  have hi6 : i ≤ 1000000 := by omega
  clear hS ht hil hbig
  go_enter Tryz.func172, Tryz.ntmps172
  go_wp2_with fail
  rw [← hbe] at hB0 ⊢
  have hnb : n ≠ b := by omega
  change Bx (w.alloc (.cells #[.int .i64 0, .string ⟨#[]⟩, .int .i64 0] 165)) b _ _ at hB0
  have HB : Hid (b = w.heap.size) := hbe
  clear hbe
  generalize w.alloc (.cells #[.int .i64 0, .string ⟨#[]⟩, .int .i64 0] 165) = w0 at *
  refine hnx.mono ?_
  rintro e w1 ⟨rfl, hb1⟩
  have hb1' := below_next hb0 hb1
  have hB1 := hB0.below hb1
  have hP1 := h.below hb1'
  have hlt1 := hP1.facts.2.2.2
  have hbl1 := hB1.lt
  clear hb0 hB0 hb1 hnx hF
  unfold tokV
  obtain ⟨c0, c1, hf, _⟩ := hP1.facts
  have d0 := hB1.cell 0 rfl
  have d1 := hB1.cell 1 rfl
  have d2 := hB1.cell 2 rfl
  have hfb := hB1.frozen
  go_wp2
  have hge : w.heap.size ≤ b := by rw [HB.out]; exact Nat.le_refl _
  have hC1 : Ch (Xp n) w (w1.setCell ⟨n, 1, none⟩ (.int .i64 ((i : Int) + 1))) := Pos.set (Ch.below hb1') hP1 ⟨rfl, rfl⟩ 1 _
  have hB3 := (((hB1.other (c := n) (k := 1) (Ne.symm hnb) (.int .i64 ((i : Int) + 1))).set 0 (.int .i64 (t.1 : Int))).set 1 (.string t.2.1)).set 2 (.int .i64 (t.2.2 : Int))
  have hB4 := hB3.alloc (.cells #[.int .i64 (t.1 : Int), .string t.2.1, .int .i64 (t.2.2 : Int)] 165)
  refine bodyPost_ret (ret_tok47 rfl (hB4.cell 0 rfl) (hB4.cell 1 rfl) (hB4.cell 2 rfl)) rfl ?_
  exact ⟨rfl, (((hP1.step.other hnb _).other hnb _).other hnb _).below (below_alloc _ _), (((hC1.new hge _).new hge _).new hge _).al _⟩

set_option maxHeartbeats 4000000 in
set_option maxRecDepth 4000 in
theorem ptake_bad (n : Nat) (sv : Value) (l : List T3) (rest : List Value) (w : World) (i : Nat) (h : Pos n sv rest w i) (hS : TSeg w sv (l.map toZ)) (hl : 0 < l.length) (hi : i ≤ l.length) (fv : Value) (p : Pl.Kt → Bool) (hF : FitsT w fv p) (r : List Pl.Kt) (er : Nat) (hp : Pl.takeP p ((l.drop i).map kt3) = .bad r er) :
    Calls Tryz.prog 172 #[.pointer (some ⟨n, 0, none⟩), fv] w fun e w' => e = .panicked (fault (lineAt l i) er) ∧ Below w.heap.size w w' := by
  have hb0 := below_alloc w (.cells #[.int .i64 0, .string ⟨#[]⟩, .int .i64 0] 165)
  have hnx := pnext_bad n sv l rest _ i (h.below hb0) (hS.below hb0) hl hi fv p (hF.ch (Ch.below hb0)) r er hp
  obtain ⟨fk, cap, rfl, _, _⟩ := id hF
  clear hS hp
  go_enter Tryz.func172, Tryz.ntmps172
  go_wp2_with fail
  refine hnx.mono ?_
  rintro e w1 ⟨rfl, hb1⟩
  exact ⟨rfl, rfl, below_next hb0 hb1⟩

/-- take, as it does on lists. -/
theorem ptake_any (n : Nat) (sv : Value) (l : List T3) (rest : List Value) (w : World) (i : Nat) (h : Pos n sv rest w i) (hS : TSeg w sv (l.map toZ)) (hl : 0 < l.length) (hbig : l.length ≤ 1000000) (hi : i ≤ l.length) (fv : Value) (p : Pl.Kt → Bool) (hF : FitsT w fv p) :
    Calls Tryz.prog 172 #[.pointer (some ⟨n, 0, none⟩), fv] w (Runs l n sv rest w (Pl.takeP p ((l.drop i).map kt3)) (fun k v _ => ∃ t, t ∈ l ∧ k = kt3 t ∧ v = tokV t)) := by
  cases hp : Pl.takeP p ((l.drop i).map kt3) with
  | ok k r =>
    obtain ⟨t, ht, hpt, rfl, rfl⟩ := take_ok hp
    refine (ptake_ok n sv l rest w i h hS hbig t ht fv p hF hpt).mono ?_
    rintro e w' ⟨rfl, h1, h2⟩
    exact ⟨_, i + 1, rfl, (List.getElem?_eq_some_iff.1 ht).1, rfl, h1, ⟨t, List.mem_of_getElem? ht, rfl, rfl⟩, h2⟩
  | bad r er =>
    refine (ptake_bad n sv l rest w i h hS hl hi fv p hF r er hp).mono ?_
    rintro e w' ⟨rfl, h1⟩
    refine ⟨i, rfl, hi, ?_, Ch.below h1⟩
    rcases take_bad hp hi with ⟨_, _, hr⟩ | ⟨_, _, _, _, hr⟩ <;> exact hr

/-- One more of which there are m already, of at most k. -/
def moreP (p : Pl.Kt → Bool) (m k : Nat) (x : List Pl.Kt) : Pl.Res Pl.Kt := (Pl.takeP p x).bind fun t r => if m = k then .bad x 3 else .ok t r

set_option maxHeartbeats 4000000 in
set_option maxRecDepth 4000 in
theorem pmore_any (n : Nat) (sv : Value) (l : List T3) (rest : List Value) (w : World) (i : Nat) (h : Pos n sv rest w i) (hS : TSeg w sv (l.map toZ)) (hl : 0 < l.length) (hbig : l.length ≤ 1000000) (hi : i ≤ l.length) (fv : Value) (p : Pl.Kt → Bool) (hF : FitsT w fv p) (m k : Nat) :
    Calls Tryz.prog 145 #[.pointer (some ⟨n, 0, none⟩), .int .i64 (m : Int), .int .i64 (k : Int), fv] w (Runs l n sv rest w (moreP p m k ((l.drop i).map kt3)) (fun k v _ => ∃ t, t ∈ l ∧ k = kt3 t ∧ v = tokV t)) := by
  have hb0 := below_alloc w (.cells #[.int .i64 0, .string ⟨#[]⟩, .int .i64 0] 165)
  have hB0 := Bx.new w [.int .i64 0, .string ⟨#[]⟩, .int .i64 0] 165
  have hlt : n < w.heap.size := h.facts.2.2.2
  unfold moreP
  cases hp : Pl.takeP p ((l.drop i).map kt3) with
  | bad r er =>
    have hnx := pnext_bad n sv l rest _ i (h.below hb0) (hS.below hb0) hl hi fv p (hF.ch (Ch.below hb0)) r er hp
    have hr : r = (l.drop i).map kt3 := by rcases take_bad hp hi with ⟨_, _, hr⟩ | ⟨_, _, _, _, hr⟩ <;> exact hr
    have HR : Hid (r = (l.drop i).map kt3) := hr
    obtain ⟨fk, cap, rfl, _, _⟩ := id hF
    clear hS hp hF hr
    go_enter Tryz.func145, Tryz.ntmps145
    go_wp2_with fail
    refine hnx.mono ?_
    rintro e w1 ⟨rfl, hb1⟩
    exact ⟨rfl, i, rfl, hi, HR.out, Ch.below (below_next hb0 hb1)⟩
  | ok kk r =>
    obtain ⟨t, ht, hpt, rfl, rfl⟩ := take_ok hp
    have hnx := pnext_ok n sv l rest _ i (h.below hb0) (hS.below hb0) t ht fv p (hF.ch (Ch.below hb0)) hpt
    have hil := (List.getElem?_eq_some_iff.1 ht).1
    simp only [Pl.Res.bind]
    by_cases hmk : m = k
    · have hq : ((m : Int) == (k : Int)) = true := by simp [hmk]
      rw [if_pos hmk]
      have hfl := fun W (hb : Below w.heap.size w W) => pfail_any n sv l rest W i (h.below hb) (hS.below hb) hl 3
      obtain ⟨fk, cap, rfl, _, _⟩ := id hF
      clear hS hp hF ht hpt hmk
      go_enter Tryz.func145, Tryz.ntmps145
      go_wp2_with fail
      refine hnx.mono ?_
      rintro e w1 ⟨rfl, hb1⟩
      have hb1' := below_next hb0 hb1
      unfold tokV
      go_wp2_with fail
      refine (hfl _ hb1').mono ?_
      rintro e w2 ⟨rfl, q, rfl⟩
      exact ⟨rfl, i, rfl, hi, rfl, Ch.below (below_drewN hb1' q)⟩
    · have hq : ((m : Int) == (k : Int)) = false := by simp; omega
      rw [if_neg hmk]
      have htk := fun W (hb : Below w.heap.size w W) => ptake_ok n sv l rest W i (h.below hb) (hS.below hb) hbig t ht fv p (hF.ch (Ch.below hb)) hpt
      obtain ⟨fk, cap, rfl, _, _⟩ := id hF
      obtain ⟨b, hbe⟩ : ∃ b, b = w.heap.size := ⟨_, rfl⟩
      have hmem : t ∈ l := List.mem_of_getElem? ht
      clear hS hp hF ht hpt
      go_enter Tryz.func145, Tryz.ntmps145
      go_wp2_with fail
      rw [← hbe] at hB0 ⊢
      have hnb : b ≠ n := by omega
      change Bx (w.alloc (.cells #[.int .i64 0, .string ⟨#[]⟩, .int .i64 0] 165)) b _ _ at hB0
      have HB : Hid (b = w.heap.size) := hbe
      clear hbe
      generalize w.alloc (.cells #[.int .i64 0, .string ⟨#[]⟩, .int .i64 0] 165) = w0 at *
      refine hnx.mono ?_
      rintro e w1 ⟨rfl, hb1⟩
      have hb1' := below_next hb0 hb1
      have hB1 := hB0.below hb1
      have hT1 := htk _ hb1'
      clear hnx htk hb0 hB0 hb1
      unfold tokV at hT1 ⊢
      go_wp2_with fail
      refine hT1.mono ?_
      rintro e w2 ⟨rfl, hP2, hC2⟩
      have hB2 := hB1.ch hC2 (fun hx => hnb hx.1)
      have d0 := hB2.cell 0 rfl
      have d1 := hB2.cell 1 rfl
      have d2 := hB2.cell 2 rfl
      have hfb := hB2.frozen
      go_wp2
      have hge : w.heap.size ≤ b := by rw [HB.out]; exact Nat.le_refl _
      have hB3 := ((hB2.set 0 (.int .i64 (t.1 : Int))).set 1 (.string t.2.1)).set 2 (.int .i64 (t.2.2 : Int))
      refine bodyPost_ret (ret_tok28 rfl (hB3.cell 0 rfl) (hB3.cell 1 rfl) (hB3.cell 2 rfl)) rfl ?_
      exact ⟨_, i + 1, rfl, hil, rfl, ((hP2.other (Ne.symm hnb) _).other (Ne.symm hnb) _).other (Ne.symm hnb) _, ⟨t, hmem, rfl, rfl⟩, ((((Ch.below hb1').trans hC2).new hge _).new hge _).new hge _⟩
end Go.Proofs.YtdbgncdnffbhkaaGreatDoor

namespace Go.Proofs.YtdbgncdnffbhkaaGreatDoor.Pl

theorem takeWhile_all (p : Nat → Bool) (l : List Nat) (h : ∀ c ∈ l, p c = true) : l.takeWhile p = l ∧ l.dropWhile p = [] := by
  induction l with
  | nil => exact ⟨rfl, rfl⟩
  | cons c l ih =>
    have h1 := ih (fun d hd => h d (by simp [hd]))
    rw [List.takeWhile_cons, if_pos (h c (by simp)), List.dropWhile_cons, if_pos (h c (by simp)), h1.1, h1.2]
    exact ⟨rfl, rfl⟩
theorem all_of_length (p : Nat → Bool) (l : List Nat) (h : (l.takeWhile p).length = l.length) : l.takeWhile p = l ∧ ∀ c ∈ l, p c = true := by
  induction l with
  | nil => exact ⟨rfl, fun c hc => by cases hc⟩
  | cons c l ih =>
    rw [List.takeWhile_cons] at h ⊢
    by_cases hp : p c = true
    · rw [if_pos hp] at h ⊢
      simp only [List.length_cons, Nat.add_right_cancel_iff] at h
      obtain ⟨h1, h2⟩ := ih h
      rw [h1]
      refine ⟨rfl, fun d hd => ?_⟩
      rcases List.mem_cons.1 hd with rfl | hd
      · exact hp
      · exact h2 d hd
    · rw [if_neg hp] at h
      simp at h

theorem sign_kind (c : Nat) (h : isSign c = true) : isLetter c = false ∧ isDigit c = false := by
  simp only [isSign, List.contains_eq_mem, List.mem_cons, List.not_mem_nil, or_false, decide_eq_true_eq] at h
  refine ⟨?_, ?_⟩
  · simp only [isLetter, Bool.or_eq_false_iff, Bool.and_eq_false_iff, decide_eq_false_iff_not]
    omega
  · simp only [isDigit, Bool.and_eq_false_iff, decide_eq_false_iff_not]
    omega

theorem ok_next (t : Tok) (h : okTok t) : nextP t.text = (t.kind, t.text.length, 0) := by
  obtain ⟨k, x, ln⟩ := t
  rcases h with ⟨h1, c, h2, h3⟩ | ⟨h1, h2, h3⟩
  · simp only at h1 h2
    subst h1 h2
    obtain ⟨q1, q2⟩ := sign_kind c h3
    simp [nextP, q1, q2, h3]
  · simp only at h1 h2 h3
    cases x with
    | nil => exact absurd rfl h1
    | cons c r =>
      obtain ⟨p1, p2⟩ := takeWhile_all isPart (c :: r) h2
      simp only [wordE] at h3
      simp only [nextP]
      by_cases hl : isLetter c = true
      · rw [if_pos hl] at h3 ⊢
        rw [p1]
        by_cases h32 : 32 < (c :: r).length
        · rw [if_pos h32] at h3
          simp at h3
        · rw [if_neg h32] at h3 ⊢
          simp only [Prod.mk.injEq] at h3
          rw [h3.1]
      · rw [if_neg hl] at h3 ⊢
        by_cases hd : isDigit c = true
        · rw [if_neg (by simp [hd])] at h3
          rw [if_pos hd]
          by_cases ha : (c :: r).all isDigit = true
          · rw [if_neg (by simp [ha])] at h3
            obtain ⟨d1, d2⟩ := takeWhile_all isDigit (c :: r) (by simpa using ha)
            rw [d1, d2]
            by_cases h9 : 9 < (c :: r).length ∨ (c = 48 ∧ 1 < (c :: r).length)
            · rw [if_pos h9] at h3
              simp at h3
            · rw [if_neg h9] at h3
              simp only [Prod.mk.injEq] at h3
              rw [if_neg (by
                rintro (h | h | h)
                · exact h9 (.inl h)
                · exact h9 (.inr ⟨h.2, h.1⟩)
                · simp [seesB] at h), h3.1]
          · rw [if_pos (by cases hq : (c :: r).all isDigit; rfl; exact absurd hq ha)] at h3
            simp at h3
        · rw [if_pos (by simpa using hd)] at h3
          simp at h3

theorem next_ok (x : List Nat) (k ln : Nat) (h : nextP x = (k, x.length, 0)) : okTok ⟨k, x, ln⟩ := by
  cases x with
  | nil => simp [nextP] at h
  | cons c r =>
    simp only [nextP] at h
    by_cases hl : isLetter c = true
    · rw [if_pos hl] at h
      by_cases h32 : 32 < ((c :: r).takeWhile isPart).length
      · rw [if_pos h32] at h
        simp at h
      · rw [if_neg h32] at h
        simp only [Prod.mk.injEq] at h
        obtain ⟨rfl, h2, _⟩ := h
        obtain ⟨p1, p2⟩ := all_of_length isPart (c :: r) h2
        refine .inr ⟨by simp, p2, ?_⟩
        rw [p1] at h32
        simp only [wordE]
        rw [if_pos hl, if_neg h32]
    · rw [if_neg hl] at h
      by_cases hd : isDigit c = true
      · rw [if_pos hd] at h
        by_cases hb : 9 < ((c :: r).takeWhile isDigit).length ∨ (1 < ((c :: r).takeWhile isDigit).length ∧ c = 48) ∨ seesB isJoin ((c :: r).dropWhile isDigit) = true
        · rw [if_pos hb] at h
          simp at h
        · rw [if_neg hb] at h
          simp only [Prod.mk.injEq] at h
          obtain ⟨rfl, h2, _⟩ := h
          obtain ⟨p1, p2⟩ := all_of_length isDigit (c :: r) h2
          refine .inr ⟨by simp, fun d hd' => ?_, ?_⟩
          · rw [part_split, p2 d hd']
            rfl
          · rw [p1] at hb
            have ha : (c :: r).all isDigit = true := List.all_eq_true.2 p2
            simp only [wordE]
            rw [if_neg hl, if_neg (by simp [hd]), if_neg (by rw [ha]; simp), if_neg (by
              rintro (h | h)
              · exact hb (.inl h)
              · exact hb (.inr (.inl ⟨h.2, h.1⟩)))]
      · rw [if_neg hd] at h
        by_cases hs : isSign c = true
        · rw [if_pos hs] at h
          simp only [Prod.mk.injEq, List.length_cons] at h
          obtain ⟨rfl, h2, _⟩ := h
          have : r = [] := List.length_eq_zero_iff.1 (by omega)
          subst this
          exact .inl ⟨rfl, c, rfl, hs⟩
        · rw [if_neg hs] at h
          simp at h

theorem ok_kind (t : Tok) (h : okTok t) : 1 ≤ t.kind ∧ t.kind ≤ 3 ∧ 1 ≤ t.text.length ∧ t.text.length ≤ 32 := by
  have hn := ok_next t h
  obtain ⟨k, x, ln⟩ := t
  simp only at hn ⊢
  cases x with
  | nil => simp [nextP] at hn
  | cons c r =>
    refine ⟨?_, ?_, by simp, ?_⟩
    all_goals
      simp only [nextP] at hn
      split at hn
      · split at hn
        · simp at hn
        · simp only [Prod.mk.injEq] at hn
          omega
      · split at hn
        · split at hn
          · simp at hn
          · rename_i hb
            simp only [Prod.mk.injEq] at hn
            have : ¬ 9 < ((c :: r).takeWhile isDigit).length := fun h => hb (.inl h)
            omega
        · split at hn
          · simp only [Prod.mk.injEq] at hn
            omega
          · simp at hn

theorem mem_cons {t u : Tok} {x : List Tok × Nat × Int} (h : u ∈ (tokCons t x).1) : u = t ∨ u ∈ x.1 := by
  unfold tokCons at h
  split at h
  · simpa using h
  · cases h

theorem part_take (c : Nat) (r : List Nat) (h : isPart c = true) : (c :: r).takeWhile isPart ≠ [] ∧ ∀ d ∈ (c :: r).takeWhile isPart, isPart d = true := by
  refine ⟨?_, ?_⟩
  · rw [List.takeWhile_cons, if_pos h]
    simp
  · generalize c :: r = l
    induction l with
    | nil => intro d hd; cases hd
    | cons e l ih =>
      intro d hd
      rw [List.takeWhile_cons] at hd
      split at hd
      · rcases List.mem_cons.1 hd with rfl | hd
        · assumption
        · exact ih d hd
      · cases hd

/-- The tokens of a text may be. -/
theorem tok_ok (f : Nat) : ∀ (l : List Nat) (ln : Nat), ∀ t ∈ (tokS f l ln).1, okTok t := by
  induction f with
  | zero => intro l ln t ht; cases ht
  | succ f ih =>
    intro l ln t ht
    cases l with
    | nil => cases ht
    | cons c r =>
      simp only [tokS] at ht
      split at ht
      · exact ih _ _ t ht
      · split at ht
        · exact ih _ _ t ht
        · split at ht
          · exact ih _ _ t ht
          · split at ht
            · rename_i hs
              rcases mem_cons ht with rfl | ht
              · exact .inl ⟨rfl, c, rfl, hs⟩
              · exact ih _ _ t ht
            · split at ht
              · rename_i hp
                split at ht
                · rename_i hw
                  rcases mem_cons ht with rfl | ht
                  · obtain ⟨q1, q2⟩ := part_take c r hp
                    exact .inr ⟨q1, q2, by ext <;> simp [hw]⟩
                  · exact ih _ _ t ht
                · cases ht
              · cases ht

end Go.Proofs.YtdbgncdnffbhkaaGreatDoor.Pl

namespace Go.Proofs.YtdbgncdnffbhkaaGreatDoor.Pl

def plainW (k : Nat) : List Nat := if k = 1 then wBool else if k = 2 then wInt else if k = 3 then wUint else if k = 4 then wText else wBytes

/-- A type's text. -/
def tyX : Ty → List Nat
  | .plain k => plainW k
  | .list t => 91 :: tyX t ++ [93]
  | .opt t => 63 :: tyX t
  | .named n => n
def tyK : Ty → List Kt
  | .plain k => [(1, plainW k)]
  | .list t => (3, [91]) :: tyK t ++ [(3, [93])]
  | .opt t => (3, [63]) :: tyK t
  | .named n => [(1, n)]
def tyD : Ty → Nat
  | .plain _ => 1
  | .list t => tyD t + 1
  | .opt t => tyD t + 1
  | .named _ => 1

/-- A name that may be. -/
def okName (n : List Nat) : Prop := okKt (1, n) ∧ nameT (1, n) = true
def okTy : Ty → Prop
  | .plain k => 1 ≤ k ∧ k ≤ 5
  | .list t => okTy t
  | .opt t => okTy t
  | .named n => okName n

theorem name_word {n : List Nat} (h : okName n) : n ≠ [91] ∧ n ≠ [63] ∧ begT (1, n) = true ∧ isGram n = false ∧ plainK n = 0 := by
  obtain ⟨h1, h2⟩ := h
  simp only [nameT, Bool.and_eq_true, decide_eq_true_eq, Bool.not_eq_true'] at h2
  have h3 : ∀ c, isSign c = true → n ≠ [c] := by
    rintro c hc rfl
    rcases h1 with ⟨h1, _⟩ | ⟨_, h4, _⟩
    · cases h1
    · have := (part_not c (h4 c (by simp))).2.2.2
      rw [hc] at this
      cases this
  exact ⟨h3 91 (by decide), h3 63 (by decide), by simp [begT, h2.2], h2.2, h2.1.2⟩

theorem type_back (t : Ty) : ∀ d, okTy t → tyD t ≤ d → ∀ m, typeP d (tyK t ++ m) = .ok t m := by
  induction t with
  | plain k =>
    intro d hk hd m
    cases d with
    | zero => simp [tyD] at hd
    | succ d =>
      have h1 : k = 1 ∨ k = 2 ∨ k = 3 ∨ k = 4 ∨ k = 5 := by have := hk.1; have := hk.2; omega
      have hb : begT (1, plainW k) = true ∧ plainW k ≠ [91] ∧ plainW k ≠ [63] ∧ nameT (1, plainW k) = false ∧ plainK (plainW k) = k := by
        rcases h1 with rfl | rfl | rfl | rfl | rfl <;> decide
      obtain ⟨b1, b2, b3, b4, b5⟩ := hb
      simp only [tyK, List.cons_append, List.nil_append, typeP, takeP, b1, if_true, Res.bind, if_neg b2, if_neg b3, b4, b5]
      simp
  | list t ih =>
    intro d hk hd m
    cases d with
    | zero => simp [tyD] at hd
    | succ d =>
      simp only [tyD] at hd
      have e : tyK (.list t) ++ m = (3, [91]) :: (tyK t ++ ((3, [93]) :: m)) := by simp [tyK]
      rw [e]
      simp only [typeP, takeP, show begT (3, [91]) = true from by decide, if_true, Res.bind, ih d hk (by omega), show isT [93] (3, [93]) = true from by decide]
  | opt t ih =>
    intro d hk hd m
    cases d with
    | zero => simp [tyD] at hd
    | succ d =>
      simp only [tyD] at hd
      have e : tyK (.opt t) ++ m = (3, [63]) :: (tyK t ++ m) := by simp [tyK]
      rw [e]
      simp only [typeP, takeP, show begT (3, [63]) = true from by decide, if_true, Res.bind, ih d hk (by omega), show ¬ ((63 : Nat) = 91) from by decide, List.cons.injEq, false_and, if_false]
  | named n =>
    intro d hk hd m
    cases d with
    | zero => simp [tyD] at hd
    | succ d =>
      obtain ⟨n1, n2, n3, n4, n5⟩ := name_word hk
      have hnm : nameT (1, n) = true := hk.2
      simp only [tyK, List.cons_append, List.nil_append, typeP, takeP, n3, if_true, Res.bind, if_neg n1, if_neg n2, hnm]

/-- A number's digits. -/
def decS : Nat → Nat → List Nat
  | 0, _ => []
  | f + 1, n => if n < 10 then [48 + n] else decS f (n / 10) ++ [48 + n % 10]
def dec (n : Nat) : List Nat := decS 20 n

theorem valN_append (x : List Nat) (c : Nat) : valN (x ++ [c]) = valN x * 10 + (c - 48) := by
  unfold valN
  rw [List.foldl_append]
  rfl
theorem decS_val (f : Nat) : ∀ n, n < 10 ^ f → valN (decS f n) = n := by
  induction f with
  | zero => intro n h; simp at h; subst h; rfl
  | succ f ih =>
    intro n h
    unfold decS
    by_cases hn : n < 10
    · rw [if_pos hn]
      simp [valN]
    · rw [if_neg hn, valN_append, ih (n / 10) (by rw [Nat.pow_succ] at h; omega)]
      omega
theorem decS_digits (f : Nat) : ∀ n, ∀ c ∈ decS f n, isDigit c = true := by
  induction f with
  | zero => intro n c hc; cases hc
  | succ f ih =>
    intro n c hc
    unfold decS at hc
    split at hc
    · simp at hc
      subst hc
      simp [isDigit]
      omega
    · rcases List.mem_append.1 hc with hc | hc
      · exact ih _ c hc
      · simp at hc
        subst hc
        simp [isDigit]
        omega
theorem decS_len (f : Nat) : ∀ n m, n < 10 ^ m → 1 ≤ m → (decS f n).length ≤ m := by
  induction f with
  | zero => intro n m _ _; simp [decS]
  | succ f ih =>
    intro n m hn hm
    unfold decS
    split
    · simpa using hm
    · rename_i h10
      cases m with
      | zero => omega
      | succ m =>
        cases m with
        | zero => simp at hn; omega
        | succ m =>
          have := ih (n / 10) (m + 1) (by rw [Nat.pow_succ] at hn; omega) (by omega)
          rw [List.length_append]
          simp
          omega
theorem decS_head (f : Nat) : ∀ n, n < 10 ^ f → 1 ≤ n → ∃ c r, decS f n = c :: r ∧ c ≠ 48 := by
  induction f with
  | zero => intro n h h1; simp at h; omega
  | succ f ih =>
    intro n h h1
    unfold decS
    by_cases hn : n < 10
    · rw [if_pos hn]
      exact ⟨_, _, rfl, by omega⟩
    · rw [if_neg hn]
      obtain ⟨c, r, h2, h3⟩ := ih (n / 10) (by rw [Nat.pow_succ] at h; omega) (by omega)
      rw [h2]
      exact ⟨c, r ++ [48 + n % 10], rfl, h3⟩

theorem dec_ok (n : Nat) (h : n ≤ 999999999) : okKt (2, dec n) ∧ valN (dec n) = n := by
  have hv := decS_val 20 n (by omega)
  have hd := decS_digits 20 n
  have hl := decS_len 20 n 9 (by omega) (by omega)
  refine ⟨.inr ?_, hv⟩
  by_cases h0 : n = 0
  · subst h0
    decide
  · obtain ⟨c, r, h1, h2⟩ := decS_head 20 n (by omega) (by omega)
    have e : dec n = c :: r := h1
    simp only [e]
    unfold dec at e
    rw [e] at hd hl
    have hc := hd c (by simp)
    refine ⟨by simp, fun d hd' => by simp [isPart, hd d hd'], ?_⟩
    have hnl : isLetter c = false := by
      simp only [isDigit, Bool.and_eq_true, decide_eq_true_eq] at hc
      simp only [isLetter, Bool.or_eq_false_iff, Bool.and_eq_false_iff, decide_eq_false_iff_not]
      omega
    have hall : (c :: r).all isDigit = true := List.all_eq_true.2 hd
    simp only [wordE]
    rw [if_neg (by simp [hnl]), if_neg (by simp [hc]), if_neg (by rw [hall]; simp), if_neg (by
      rintro (h | h)
      · omega
      · exact h2 h.1)]

def fldK (f : Fld) : List Kt := (2, dec f.num) :: ((1, f.name) :: (3, [58]) :: tyK f.ty ++ [(3, [59])])
def casK (c : Cas) : List Kt := [(2, dec c.num), (1, c.name), (3, [59])]
def mthK (m : Mth) : List Kt := (1, if m.once then wOnce else wRead) :: ((1, m.name) :: (3, [40]) :: tyK m.arg ++ (3, [41]) :: tyK m.res ++ [(3, [59])])
def bodyK (w name : List Nat) (ps : List (List Kt)) : List Kt := (1, w) :: ((1, name) :: (3, [123]) :: ps.flatten ++ [(3, [125])])
def declK : Decl → List Kt
  | .st n l => bodyK wStruct n (l.map fldK)
  | .en n l => bodyK wEnum n (l.map casK)
  | .sv n l => bodyK wService n (l.map mthK)

def okFld (f : Fld) : Prop := f.num ≤ 999999999 ∧ okName f.name ∧ okTy f.ty ∧ tyD f.ty ≤ 8
def okCas (c : Cas) : Prop := c.num ≤ 999999999 ∧ okName c.name
def okMth (m : Mth) : Prop := okName m.name ∧ okTy m.arg ∧ tyD m.arg ≤ 8 ∧ okTy m.res ∧ tyD m.res ≤ 8
def okDecl : Decl → Prop
  | .st n l => okName n ∧ l.length ≤ 32 ∧ ∀ f ∈ l, okFld f
  | .en n l => okName n ∧ l.length ≤ 32 ∧ ∀ f ∈ l, okCas f
  | .sv n l => okName n ∧ l.length ≤ 32 ∧ ∀ f ∈ l, okMth f

theorem parts_back {α : Type} (beg : Kt → Bool) (part : Kt → List Kt → Res α) (K : α → List Kt) (l : List α)
    (h : ∀ a ∈ l, ∃ t c, K a = t :: c ∧ t.2 ≠ [125] ∧ beg t = true ∧ ∀ m, part t (c ++ m) = .ok a m) : ∀ k m, l.length ≤ k → partsP beg part k ((l.map K).flatten ++ (3, [125]) :: m) = .ok l m := by
  induction l with
  | nil => intro k m _; cases k <;> simp [partsP]
  | cons a l ih =>
    intro k m hk
    cases k with
    | zero => simp at hk
    | succ k =>
      obtain ⟨t, c, h1, h2, h3, h4⟩ := h a (by simp)
      have e : ((a :: l).map K).flatten ++ (3, [125]) :: m = t :: (c ++ ((l.map K).flatten ++ (3, [125]) :: m)) := by simp [h1]
      rw [e]
      simp only [partsP, if_neg h2, if_pos h3, h4, Res.bind]
      rw [ih (fun b hb => h b (by simp [hb])) k m (by simp at hk; omega)]

theorem body_back {α : Type} (beg : Kt → Bool) (part : Kt → List Kt → Res α) (K : α → List Kt) (n : List Nat) (l : List α) (hn : okName n) (hl : l.length ≤ 32)
    (h : ∀ a ∈ l, ∃ t c, K a = t :: c ∧ t.2 ≠ [125] ∧ beg t = true ∧ ∀ m, part t (c ++ m) = .ok a m) (m : List Kt) : bodyP beg part ((1, n) :: (3, [123]) :: ((l.map K).flatten ++ (3, [125]) :: m)) = .ok (n, l) m := by
  simp only [bodyP, takeP, hn.2, if_true, Res.bind, show isT [123] (3, [123]) = true from by decide]
  rw [parts_back beg part K l h 32 m hl]

theorem dec_brace' (n : Nat) : dec n ≠ [125] := by
  intro he
  have := decS_digits 20 n 125 (by unfold dec at he; rw [he]; simp)
  simp [isDigit] at this

theorem field_back (f : Fld) (h : okFld f) : ∃ t c, fldK f = t :: c ∧ t.2 ≠ [125] ∧ numT t = true ∧ ∀ m, fieldP t (c ++ m) = .ok f m := by
  obtain ⟨h1, h2, h3, h4⟩ := h
  refine ⟨_, _, rfl, dec_brace' _, rfl, fun m => ?_⟩
  have e : (1, f.name) :: (3, [58]) :: tyK f.ty ++ [(3, [59])] ++ m = (1, f.name) :: (3, [58]) :: (tyK f.ty ++ (3, [59]) :: m) := by simp
  rw [e]
  simp only [fieldP, takeP, h2.2, if_true, Res.bind, show isT [58] (3, [58]) = true from by decide, type_back f.ty 8 h3 h4, show isT [59] (3, [59]) = true from by decide, (dec_ok f.num h1).2]
theorem case_back (f : Cas) (h : okCas f) : ∃ t c, casK f = t :: c ∧ t.2 ≠ [125] ∧ numT t = true ∧ ∀ m, caseP t (c ++ m) = .ok f m := by
  obtain ⟨h1, h2⟩ := h
  refine ⟨_, _, rfl, dec_brace' _, rfl, fun m => ?_⟩
  simp only [List.cons_append, List.nil_append, caseP, takeP, h2.2, if_true, Res.bind, show isT [59] (3, [59]) = true from by decide, (dec_ok f.num h1).2]
theorem method_back (f : Mth) (h : okMth f) : ∃ t c, mthK f = t :: c ∧ t.2 ≠ [125] ∧ onrT t = true ∧ ∀ m, methodP t (c ++ m) = .ok f m := by
  obtain ⟨h1, h2, h3, h4, h5⟩ := h
  refine ⟨_, _, rfl, by cases f.once <;> decide, by cases f.once <;> decide, fun m => ?_⟩
  have e : (1, f.name) :: (3, [40]) :: tyK f.arg ++ (3, [41]) :: tyK f.res ++ [(3, [59])] ++ m = (1, f.name) :: (3, [40]) :: (tyK f.arg ++ (3, [41]) :: (tyK f.res ++ (3, [59]) :: m)) := by simp
  rw [e]
  have ho : decide ((if f.once = true then wOnce else wRead) = wOnce) = f.once := by cases f.once <;> decide
  simp only [methodP, takeP, h1.2, if_true, Res.bind, show isT [40] (3, [40]) = true from by decide, type_back f.arg 8 h2 h3, show isT [41] (3, [41]) = true from by decide, type_back f.res 8 h4 h5, show isT [59] (3, [59]) = true from by decide, ho]

theorem decl_back (d : Decl) (h : okDecl d) : ∃ t c, declK d = t :: c ∧ decT t = true ∧ ∀ m, declP t (c ++ m) = .ok d m := by
  cases d with
  | st n l =>
    refine ⟨_, _, rfl, by decide, fun m => ?_⟩
    have e : (1, n) :: (3, [123]) :: (l.map fldK).flatten ++ [(3, [125])] ++ m = (1, n) :: (3, [123]) :: ((l.map fldK).flatten ++ (3, [125]) :: m) := by simp
    rw [e]
    simp only [declP, if_true]
    rw [body_back numT fieldP fldK n l h.1 h.2.1 (fun a ha => field_back a (h.2.2 a ha)) m]
    rfl
  | en n l =>
    refine ⟨_, _, rfl, by decide, fun m => ?_⟩
    have e : (1, n) :: (3, [123]) :: (l.map casK).flatten ++ [(3, [125])] ++ m = (1, n) :: (3, [123]) :: ((l.map casK).flatten ++ (3, [125]) :: m) := by simp
    rw [e]
    simp only [declP, if_true, if_neg (show ¬ wEnum = wStruct from by decide)]
    rw [body_back numT caseP casK n l h.1 h.2.1 (fun a ha => case_back a (h.2.2 a ha)) m]
    rfl
  | sv n l =>
    refine ⟨_, _, rfl, by decide, fun m => ?_⟩
    have e : (1, n) :: (3, [123]) :: (l.map mthK).flatten ++ [(3, [125])] ++ m = (1, n) :: (3, [123]) :: ((l.map mthK).flatten ++ (3, [125]) :: m) := by simp
    rw [e]
    simp only [declP, if_neg (show ¬ wService = wStruct from by decide), if_neg (show ¬ wService = wEnum from by decide)]
    rw [body_back onrT methodP mthK n l h.1 h.2.1 (fun a ha => method_back a (h.2.2 a ha)) m]
    rfl

theorem decls_back (ds : List Decl) : ∀ k, ds.length ≤ k → (∀ d ∈ ds, okDecl d) → declsP k (ds.map declK).flatten = .ok ds [] := by
  induction ds with
  | nil => intro k _ _; cases k <;> rfl
  | cons d ds ih =>
    intro k hk h
    cases k with
    | zero => simp at hk
    | succ k =>
      obtain ⟨t, c, h1, h2, h3⟩ := decl_back d (h d (by simp))
      have e : ((d :: ds).map declK).flatten = t :: (c ++ (ds.map declK).flatten) := by simp [h1]
      rw [e]
      simp only [declsP, if_pos h2, h3, Res.bind]
      rw [ih k (by simp at hk; omega) (fun x hx => h x (by simp [hx]))]
end Go.Proofs.YtdbgncdnffbhkaaGreatDoor.Pl

namespace Go.Proofs.YtdbgncdnffbhkaaGreatDoor
open Go.RowKit
set_option maxRecDepth 20000

theorem check_kt {t : T3} (h : checkZ (toZ t) = 0) : Pl.okKt (kt3 t) ∧ 1 ≤ t.2.1.size ∧ t.2.1.size ≤ 32 ∧ 1 ≤ t.2.2 := by
  obtain ⟨k, x, ln⟩ := t
  unfold checkZ toZ at h
  simp only at h
  by_cases h1 : (k : Int) < 1 ∨ 3 < (k : Int)
  · rw [if_pos h1] at h
    simp at h
  · rw [if_neg h1] at h
    cases hj : just (k : Int) x with
    | false =>
      rw [hj, if_pos rfl] at h
      simp at h
    | true =>
      rw [hj, if_neg (by simp)] at h
      by_cases hl : (ln : Int) < 1
      · rw [if_pos hl] at h
        simp at h
      · unfold just at hj
        simp only [Bool.and_eq_true, decide_eq_true_eq] at hj
        obtain ⟨⟨j1, j2⟩, j3⟩ := hj
        have hn : Pl.nextP (bl x) = (k, (bl x).length, 0) := by
          rw [bl_length]
          ext
          · simp only; omega
          · simp only; exact j3
          · simp only; exact j1
        have hok : Pl.okKt (kt3 (k, x, ln)) := Pl.next_ok (bl x) k 0 hn
        have hlen := Pl.ok_kind _ hok
        have : (bl x).length = x.size := bl_length x
        simp only [kt3] at hlen
        refine ⟨hok, by simp only; omega, by simp only; omega, by simp only; omega⟩

/-- Tokens that may be. -/
def GoodT (l : List T3) : Prop := ∀ t ∈ l, checkZ (toZ t) = 0

/-- A number's token: digits. -/
theorem num_digits {t : T3} (h : Pl.okKt (kt3 t)) (hk : t.1 = 2) : (∀ c ∈ bl t.2.1, 48 ≤ c ∧ c ≤ 57) ∧ t.2.1.size ≤ 9 := by
  rcases h with ⟨h1, _⟩ | ⟨h1, h2, h3⟩
  · simp only [kt3] at h1
    omega
  · simp only [kt3, hk] at h1 h2 h3
    have hl : (bl t.2.1).length = t.2.1.size := bl_length _
    generalize bl t.2.1 = x at *
    cases x with
    | nil => exact absurd rfl h1
    | cons c r =>
      simp only [Pl.wordE] at h3
      split at h3
      · split at h3 <;> simp at h3
      · split at h3
        · simp at h3
        · split at h3
          · simp at h3
          · rename_i ha
            split at h3
            · simp at h3
            · rename_i h9
              simp only [Bool.not_eq_true', Bool.not_eq_false] at ha
              refine ⟨fun d hd => ?_, ?_⟩
              · have := List.all_eq_true.1 ha d hd
                simp only [Pl.isDigit, Bool.and_eq_true, decide_eq_true_eq] at this
                exact this
              · rw [← hl]
                omega

theorem valN_take (x : List Nat) (k c : Nat) (h : x[k]? = some c) : Pl.valN (x.take (k + 1)) = Pl.valN (x.take k) * 10 + (c - 48) := by
  rw [List.take_add_one, h]
  exact Pl.valN_append _ _
theorem valN_bound (x : List Nat) (hx : ∀ c ∈ x, 48 ≤ c ∧ c ≤ 57) : ∀ k, Pl.valN (x.take k) < 10 ^ k := by
  intro k
  induction k with
  | zero => simp [Pl.valN]
  | succ k ih =>
    cases hk : x[k]? with
    | none =>
      rw [List.take_add_one, hk]
      simp only [Option.toList_none, List.append_nil]
      rw [Nat.pow_succ]
      omega
    | some c =>
      rw [valN_take x k c hk, Nat.pow_succ]
      have := hx c (List.mem_of_getElem? hk)
      omega

set_option maxHeartbeats 2000000 in
set_option maxRecDepth 4000 in
theorem number_any (t : T3) (h : checkZ (toZ t) = 0) (hk : t.1 = 2) (w : World) : Calls Tryz.prog 206 #[tokV t] w fun e w' => e = .returned (.tuple #[.int .i64 (Pl.valN (bl t.2.1) : Int), .int .i64 0]) ∧ Below w.heap.size w w' := by
  obtain ⟨ho, h1, h32, _⟩ := check_kt h
  obtain ⟨hd, h9⟩ := num_digits ho hk
  obtain ⟨k, x, ln⟩ := t
  simp only at hk hd h9 h1 h32
  subst hk
  have hvb := valN_bound (bl x) hd
  have hck := fun w => check_any (toZ (2, x, ln)) (by show x.size ≤ maxLen; unfold maxLen; omega) w
  rw [h] at hck
  simp only [toZ] at hck
  unfold tokV
  simp only
  have hb0 := below_alloc w (.cells #[.int .i64 ((2 : Nat) : Int), .string x, .int .i64 (ln : Int)] 165)
  have hB0 := Bx.new w [.int .i64 ((2 : Nat) : Int), .string x, .int .i64 (ln : Int)] 165
  have hck1 := hck (w.alloc (.cells #[.int .i64 ((2 : Nat) : Int), .string x, .int .i64 (ln : Int)] 165))
  obtain ⟨Z, hZ⟩ : ∃ Z, Z = Pl.valN (bl x) := ⟨_, rfl⟩
  rw [← hZ]
  have HZ : Hid (Z = Pl.valN (bl x)) := hZ
  have HV : Hid (∀ k, Pl.valN ((bl x).take k) < 10 ^ k) := hvb
  have HD : Hid (∀ c ∈ bl x, 48 ≤ c ∧ c ≤ 57) := hd
  obtain ⟨b, hbe⟩ : ∃ b, b = w.heap.size := ⟨_, rfl⟩
  clear hZ hvb hd hck h ho
  go_enter Tryz.func206, Tryz.ntmps206
  go_wp2_with fail
  rw [← hbe] at hB0 ⊢
  change Bx (w.alloc (.cells #[.int .i64 ((2 : Nat) : Int), .string x, .int .i64 (ln : Int)] 165)) b _ _ at hB0
  clear hbe
  generalize w.alloc (.cells #[.int .i64 ((2 : Nat) : Int), .string x, .int .i64 (ln : Int)] 165) = w0 at *
  refine hck1.mono ?_
  rintro e w1 ⟨rfl, hb1⟩
  have hB1 := hB0.below hb1
  have hbb := below_next hb0 hb1
  have d0 := hB1.cell 0 rfl
  have d1 := hB1.cell 1 rfl
  have hbl := hB1.lt
  go_wp2_with fail
  go_loopw [5, 18] (fun a i wr => ∃ k : Nat, k ≤ x.size ∧ i = .int .i64 k ∧ a = .int .i64 (Pl.valN ((bl x).take k) : Int) ∧ wr = w1) (fun _ i _ => x.size - (intOf i).toNat)
  case atStart => exact ⟨0, Nat.zero_le _, rfl, rfl, rfl⟩
  case round =>
    obtain ⟨k, hk, rfl, rfl, rfl⟩ := hrel
    by_cases hlt : k < x.size
    · have hx : (bl x)[k]? = some x[k].toNat := by
        have := congrArg (fun l => l[0]?) (drop_at x k hlt)
        simpa using this
      have hv := valN_take (bl x) k _ hx
      have hb := HV.out k
      have hb1 := HV.out (k + 1)
      obtain ⟨hc1, hc2⟩ := HD.out _ (List.mem_of_getElem? hx)
      have hp9 : (10 : Nat) ^ k ≤ 10 ^ 9 := Nat.pow_le_pow_right (by omega) (by omega)
      have hidx : (0 : Int) ≤ (k : Int) ∧ (k : Int) < (x.size : Int) := by omega
      generalize hV : Pl.valN ((bl x).take k) = V at *
      generalize hV1 : Pl.valN ((bl x).take (k + 1)) = V1 at *
      generalize hC : x[k].toNat = C at *
      clear hx hb1
      go_wp2
      exact ⟨⟨k + 1, by omega, by go_num, by rw [hV1]; congr 1; omega, trivial⟩, by simp [intOf]; omega⟩
    · have hke : k = x.size := by omega
      have hz : Pl.valN ((bl x).take k) = Z := by rw [HZ.out, hke, List.take_of_length_le (by rw [bl_length]; exact Nat.le_refl _)]
      rw [hz]
      clear hz
      go_wp2
      go_returns
      exact ⟨rfl, hbb⟩

set_option maxHeartbeats 1000000 in
theorem count_any (t : T3) (h : checkZ (toZ t) = 0) (hk : t.1 = 2) (w : World) : Calls Tryz.prog 196 #[tokV t] w fun e w' => e = .returned (.int .i64 (Pl.valN (bl t.2.1) : Int)) ∧ Below w.heap.size w w' := by
  have hn := fun w => number_any t h hk w
  obtain ⟨k, x, ln⟩ := t
  unfold tokV at hn ⊢
  simp only at hn ⊢
  clear h hk
  generalize Pl.valN (bl x) = Z at *
  have hb0 := below_alloc w (.cells #[.int .i64 (k : Int), .string x, .int .i64 (ln : Int)] 165)
  go_enter Tryz.func196, Tryz.ntmps196
  go_wp2_with fail
  refine (hn _).mono ?_
  rintro e w1 ⟨rfl, hb1⟩
  go_wp2
  go_ret
  exact ⟨rfl, below_next hb0 hb1⟩

theorem run_text (x y z : Value) (w : World) : (Instr.field 165 (.agg #[x, y, z]) 1).run Tryz.prog w = .ok y w := by kernel_rfl
theorem name_of {k : Pl.Kt} {v : Value} {l : List T3} (hG : GoodT l) (h : ∃ t, t ∈ l ∧ k = kt3 t ∧ v = tokV t) : ∃ x ln kk, v = .agg #[.int .i64 kk, .string x, .int .i64 ln] ∧ bl x = k.2 ∧ x.size ≤ 70000 := by
  obtain ⟨t, ht, rfl, rfl⟩ := h
  have := (check_kt (hG t ht)).2.2.1
  exact ⟨t.2.1, _, _, rfl, rfl, by omega⟩

/-- A name. -/
def NameV (k : Pl.Kt) (v : Value) (_ : World) : Prop := ∃ s, v = .string s ∧ bl s = k.2

set_option maxHeartbeats 1000000 in
set_option maxRecDepth 4000 in
theorem ptakeName_any (n : Nat) (sv : Value) (l : List T3) (rest : List Value) (w : World) (i : Nat) (h : Pos n sv rest w i) (hS : TSeg w sv (l.map toZ)) (hl : 0 < l.length) (hbig : l.length ≤ 1000000) (hi : i ≤ l.length) (hG : GoodT l) :
    Calls Tryz.prog 175 #[.pointer (some ⟨n, 0, none⟩)] w (Runs l n sv rest w (Pl.takeP Pl.nameT ((l.drop i).map kt3)) NameV) := by
  have htk := ptake_any n sv l rest w i h hS hl hbig hi _ _ (fits_name w)
  generalize Pl.takeP Pl.nameT ((l.drop i).map kt3) = res at *
  cases res with
  | bad r er =>
    go_enter Tryz.func175, Tryz.ntmps175
    go_wp2_with fail
    refine htk.mono ?_
    rintro e w1 ⟨i', rfl, hi', hr, hC⟩
    exact ⟨rfl, i', rfl, hi', hr, hC⟩
  | ok k r =>
    have hfd := run_text
    go_enter Tryz.func175, Tryz.ntmps175
    go_wp2_with fail
    refine htk.mono ?_
    rintro e w1 ⟨v, i', rfl, hi', hr, hP, hV, hC⟩
    obtain ⟨x, ln, kk, rfl, hx, hxs⟩ := name_of hG hV
    have HR : Hid (r = (l.drop i').map kt3) := hr
    have HX : Hid (bl x = k.2) := hx
    clear htk hV hr hx hG hS
    go_wp2_with fail
    refine (clone_any x _ hxs).mono ?_
    rintro e w2 ⟨rfl, hb2⟩
    go_wp2
    go_ret
    exact ⟨_, i', rfl, hi', HR.out, hP.below hb2, ⟨x, rfl, HX.out⟩, hC.bel hb2⟩
end Go.Proofs.YtdbgncdnffbhkaaGreatDoor

namespace Go.Proofs.YtdbgncdnffbhkaaGreatDoor
open Go.RowKit
set_option maxRecDepth 20000

/-- A type's three cells: kind, name, what it is of; its blocks are from B on. -/
def TyC (B : Nat) : Pl.Ty → World → Value → Value → Value → Prop
  | .plain k, _, a, b, c => a = .int .i64 (k : Int) ∧ b = .string ⟨#[]⟩ ∧ c = .slice none 0 0
  | .named x, _, a, b, c => a = .int .i64 8 ∧ (∃ s, b = .string s ∧ bl s = x) ∧ c = .slice none 0 0
  | .list t, w, a, b, c => a = .int .i64 6 ∧ b = .string ⟨#[]⟩ ∧ ∃ g x y z, c = .slice (some ⟨g, 0, none⟩) 1 1 ∧ B ≤ g ∧ Bx w g [x, y, z] 34 ∧ TyC B t w x y z
  | .opt t, w, a, b, c => a = .int .i64 7 ∧ b = .string ⟨#[]⟩ ∧ ∃ g x y z, c = .slice (some ⟨g, 0, none⟩) 1 1 ∧ B ≤ g ∧ Bx w g [x, y, z] 34 ∧ TyC B t w x y z
def TyV (B : Nat) (t : Pl.Ty) (v : Value) (w : World) : Prop := ∃ a b c, v = .agg #[a, b, c] ∧ TyC B t w a b c

theorem ok_bind {α β : Type} (a : α) (r : List Pl.Kt) (f : α → List Pl.Kt → Pl.Res β) : (Pl.Res.ok a r).bind f = f a r := rfl

theorem TyC.ch {B : Nat} {X : Nat → TypeId → Prop} {w w' : World} (hc : Ch X w w') (hX : ∀ g, B ≤ g → ¬ X g 34) : ∀ (t : Pl.Ty) (a b c : Value), TyC B t w a b c → TyC B t w' a b c := by
  intro t
  induction t with
  | plain k => intro a b c h; exact h
  | named x => intro a b c h; exact h
  | list t ih =>
    rintro a b c ⟨h1, h2, g, x, y, z, h3, hB, h4, h5⟩
    exact ⟨h1, h2, g, x, y, z, h3, hB, h4.ch hc (hX g hB), ih _ _ _ h5⟩
  | opt t ih =>
    rintro a b c ⟨h1, h2, g, x, y, z, h3, hB, h4, h5⟩
    exact ⟨h1, h2, g, x, y, z, h3, hB, h4.ch hc (hX g hB), ih _ _ _ h5⟩
theorem TyC.mono {B B' : Nat} (hBB : B' ≤ B) {w : World} : ∀ (t : Pl.Ty) (a b c : Value), TyC B t w a b c → TyC B' t w a b c := by
  intro t
  induction t with
  | plain k => intro a b c h; exact h
  | named x => intro a b c h; exact h
  | list t ih =>
    rintro a b c ⟨h1, h2, g, x, y, z, h3, hB, h4, h5⟩
    exact ⟨h1, h2, g, x, y, z, h3, Nat.le_trans hBB hB, h4, ih _ _ _ h5⟩
  | opt t ih =>
    rintro a b c ⟨h1, h2, g, x, y, z, h3, hB, h4, h5⟩
    exact ⟨h1, h2, g, x, y, z, h3, Nat.le_trans hBB hB, h4, ih _ _ _ h5⟩
theorem TyC.shape {B : Nat} {w : World} (t : Pl.Ty) {a b c : Value} (h : TyC B t w a b c) : ∃ k s ad m cp, a = .int .i64 k ∧ b = .string s ∧ c = .slice ad m cp := by
  cases t with
  | plain k => obtain ⟨rfl, rfl, rfl⟩ := h; exact ⟨_, _, _, _, _, rfl, rfl, rfl⟩
  | named x => obtain ⟨rfl, ⟨s, rfl, _⟩, rfl⟩ := h; exact ⟨_, _, _, _, _, rfl, rfl, rfl⟩
  | list t => obtain ⟨rfl, rfl, g, x, y, z, rfl, _⟩ := h; exact ⟨_, _, _, _, _, rfl, rfl, rfl⟩
  | opt t => obtain ⟨rfl, rfl, g, x, y, z, rfl, _⟩ := h; exact ⟨_, _, _, _, _, rfl, rfl, rfl⟩
theorem TyC.set {B : Nat} {w : World} {t : Pl.Ty} {x y z : Value} (h : TyC B t w x y z) {b k : Nat} (hb : b < B) (u : Value) : TyC B t (w.setCell ⟨b, k, none⟩ u) x y z := by
  have hc : Ch (fun g _ => g = b) w (w.setCell ⟨b, k, none⟩ u) := by
    refine ⟨rfl, rfl, rfl, by simp, fun g o ho hn => ?_⟩
    by_cases hg : g = b
    · cases o with
      | cells cs T r => exact absurd hg (hn cs T r rfl)
      | _ =>
        subst hg
        simp only [World.setCell, Array.getElem?_modify, if_true, ho]
        rfl
    · exact (heap_setCell_other w ⟨b, k, none⟩ g u hg).trans ho
  exact TyC.ch hc (fun g hg he => by omega) _ _ _ _ h
theorem Bx.newAt {w : World} {g : Nat} (hg : g = w.heap.size) (cs : List Value) (T : TypeId) : Bx (w.alloc (.cells ⟨cs⟩ T)) g cs T := by
  subst hg
  exact heap_alloc_new w _
theorem Xp.ty {n : Nat} {B : Nat} : ∀ g, B ≤ g → ¬ Xp n g 34 := fun _ _ h => by have := h.2; revert this; decide

theorem ret_ty77 {W : World} {tmps : Array Value} {b : Nat} {x y z : Value} (ht : tmps.getD 4 undef = .pointer (some ⟨b, 0, none⟩)) (h0 : W.cell? ⟨b, 0, none⟩ = some x) (h1 : W.cell? ⟨b, 1, none⟩ = some y) (h2 : W.cell? ⟨b, 2, none⟩ = some z) :
    (results Tryz.f197 tmps).run Tryz.prog W = .ok (.agg #[x, y, z]) W := by
  have ht' : tmps[4]?.getD undef = .pointer (some ⟨b, 0, none⟩) := by rw [← Array.getD_eq_getD_getElem?]; exact ht
  simp [results, Tryz.results197]
  go_simp

set_option maxHeartbeats 4000000 in
set_option maxRecDepth 4000 in
theorem ptype_zero (n : Nat) (sv : Value) (l : List T3) (rest : List Value) (w : World) (i : Nat) (h : Pos n sv rest w i) (hS : TSeg w sv (l.map toZ)) (hl : 0 < l.length) (hi : i ≤ l.length) :
    Calls Tryz.prog 197 #[.pointer (some ⟨n, 0, none⟩), .int .i64 9] w (Runs l n sv rest w (Pl.typeP 0 ((l.drop i).map kt3)) (TyV w.heap.size)) := by
  have hb0 := below_alloc w (.cells #[.int .i64 0, .string ⟨#[]⟩, .slice none 0 0] 34)
  have hF := fits_type (w.alloc (.cells #[.int .i64 0, .string ⟨#[]⟩, .slice none 0 0] 34))
  simp only [Pl.typeP]
  cases hp : Pl.takeP Pl.begT ((l.drop i).map kt3) with
  | bad r er =>
    have hnx := pnext_bad n sv l rest _ i (h.below hb0) (hS.below hb0) hl hi _ _ hF r er hp
    have hr : r = (l.drop i).map kt3 := by rcases take_bad hp hi with ⟨_, _, hr⟩ | ⟨_, _, _, _, hr⟩ <;> exact hr
    have HR : Hid (r = (l.drop i).map kt3) := hr
    clear hS hp hF hr
    go_enter Tryz.func197, Tryz.ntmps197
    go_wp2_with fail
    refine hnx.mono ?_
    rintro e w1 ⟨rfl, hb1⟩
    exact ⟨rfl, i, rfl, hi, HR.out, Ch.below (below_next hb0 hb1)⟩
  | ok kk r =>
    obtain ⟨t, ht, hpt, rfl, rfl⟩ := take_ok hp
    have hnx := pnext_ok n sv l rest _ i (h.below hb0) (hS.below hb0) t ht _ _ hF hpt
    simp only [Pl.Res.bind]
    have hfl := fun W (hb : Below w.heap.size w W) => pfail_any n sv l rest W i (h.below hb) (hS.below hb) hl 42
    clear hS hp hF ht hpt
    go_enter Tryz.func197, Tryz.ntmps197
    go_wp2_with fail
    refine hnx.mono ?_
    rintro e w1 ⟨rfl, hb1⟩
    have hb1' := below_next hb0 hb1
    unfold tokV
    go_wp2_with fail
    refine (hfl _ hb1').mono ?_
    rintro e w2 ⟨rfl, q, rfl⟩
    exact ⟨rfl, i, rfl, hi, by simp [List.map_drop], Ch.below (below_drewN hb1' q)⟩

theorem TSeg.ch {X : Nat → TypeId → Prop} {w w' : World} {v : Value} {l : List Z3} (h : TSeg w v l) (hc : Ch X w w') (hX : ∀ g, v.ownBlock = some g → ∀ T, ¬ X g T) : TSeg w' v l := by
  obtain ⟨a, cap, h1, h2, h3, h4, h5⟩ := h
  refine ⟨a, cap, h1, h2, h3, h4, fun g off ar ha h0 => ?_⟩
  obtain ⟨k1, k2, k3⟩ := h5 g off ar ha h0
  refine ⟨k1, Nat.lt_of_lt_of_le k2 hc.size, fun i t ht => ?_⟩
  obtain ⟨q1, q2, q3⟩ := k3 i t ht
  have hb : w'.heap[g]? = w.heap[g]? := by
    have ho : w.heap[g]? = some w.heap[g] := by simp [k2]
    rw [ho]
    exact hc.block g _ ho (fun cs T r _ => hX g (by rw [h1, ha]; rfl) T)
  exact ⟨(World.cell?_of_block hb).trans q1, (World.cell?_of_block hb).trans q2, (World.cell?_of_block hb).trans q3⟩
theorem TSeg.pos {n : Nat} {w w' : World} {v : Value} {l : List Z3} (h : TSeg w v l) (hc : Ch (Xp n) w w') (hn : ∀ g, v.ownBlock = some g → g ≠ n) : TSeg w' v l := h.ch hc (fun g hg _ hx => hn g hg hx.1)

/-- One sign is looked for. -/
theorem psign_any (s : ByteArray) (x : List Nat) (hx : bl s = x) (w : World) (g : Nat) (hg : g = w.heap.size) : Calls Tryz.prog 146 #[.slice (some ⟨g, 0, none⟩) 1 1] (w.alloc (.cells #[.string s] 9)) fun e w' => ∃ fk cap, e = .returned (.func (.func fk) #[] cap) ∧ FitsT w' (.func (.func fk) #[] cap) (Pl.isT x) ∧ Below w.heap.size w w' := by
  subst hg
  refine (poneOf_any _ [s] (by simp) _ ⟨_, rfl, heap_alloc_new w _⟩).mono ?_
  rintro e w' ⟨fv, rfl, hF, hb⟩
  obtain ⟨fk, cap, rfl, _, _⟩ := id hF
  refine ⟨fk, cap, rfl, ?_, below_next (below_alloc w _) hb⟩
  have e : (fun t : Pl.Kt => memB [s] t.2) = Pl.isT x := by
    funext t
    simp [memB, Pl.isT, hx]
  rw [← e]
  exact hF

set_option maxHeartbeats 8000000 in
set_option maxRecDepth 4000 in
theorem ptype_any (n : Nat) (sv : Value) (l : List T3) (rest : List Value) (hl : 0 < l.length) (hbig : l.length ≤ 1000000) (hG : GoodT l) (d : Nat) : ∀ (w : World) (i : Nat), d ≤ 8 → Pos n sv rest w i → TSeg w sv (l.map toZ) → i ≤ l.length → (∀ g, sv.ownBlock = some g → g ≠ n) →
    Calls Tryz.prog 197 #[.pointer (some ⟨n, 0, none⟩), .int .i64 (9 - (d : Int))] w (Runs l n sv rest w (Pl.typeP d ((l.drop i).map kt3)) (TyV w.heap.size)) := by
  induction d with
  | zero => intro w i _ h hS hi _; exact ptype_zero n sv l rest w i h hS hl hi
  | succ d ih =>
    intro w i hd h hS hi hsn
    have hb0 := below_alloc w (.cells #[.int .i64 0, .string ⟨#[]⟩, .slice none 0 0] 34)
    have hB0 := Bx.new w [.int .i64 0, .string ⟨#[]⟩, .slice none 0 0] 34
    have hF := fits_type (w.alloc (.cells #[.int .i64 0, .string ⟨#[]⟩, .slice none 0 0] 34))
    have hlt : n < w.heap.size := h.facts.2.2.2
    simp only [Pl.typeP]
    cases hp : Pl.takeP Pl.begT ((l.drop i).map kt3) with
    | bad r er =>
      have hnx := pnext_bad n sv l rest _ i (h.below hb0) (hS.below hb0) hl hi _ _ hF r er hp
      have hr : r = (l.drop i).map kt3 := by rcases take_bad hp hi with ⟨_, _, hr⟩ | ⟨_, _, _, _, hr⟩ <;> exact hr
      have HR : Hid (r = (l.drop i).map kt3) := hr
      clear hS hp hF hr ih
      go_enter Tryz.func197, Tryz.ntmps197
      go_wp2_with fail
      refine hnx.mono ?_
      rintro e w1 ⟨rfl, hb1⟩
      exact ⟨rfl, i, rfl, hi, HR.out, Ch.below (below_next hb0 hb1)⟩
    | ok kk r =>
      obtain ⟨t, ht, hpt, rfl, rfl⟩ := take_ok hp
      have hnx := pnext_ok n sv l rest _ i (h.below hb0) (hS.below hb0) t ht _ _ hF hpt
      simp only [ok_bind]
      have htk := fun W (hb : Below w.heap.size w W) => ptake_ok n sv l rest W i (h.below hb) (hS.below hb) hbig t ht _ _ (fits_type W) hpt
      have hil := (List.getElem?_eq_some_iff.1 ht).1
      have hxs := (check_kt (hG t (List.mem_of_getElem? ht))).2.2.1
      obtain ⟨b, hbe⟩ : ∃ b, b = w.heap.size := ⟨_, rfl⟩
      have hdl : (9 : Int) - ((d + 1 : Nat) : Int) = 8 - (d : Int) := by omega
      rw [hdl]
      have hd8 : ¬ (8 : Int) < 8 - (d : Int) := by omega
      obtain ⟨k, x, ln⟩ := t
      have HH : Hid (∀ (w : World) (i : Nat), d ≤ 8 → Pos n sv rest w i → TSeg w sv (l.map toZ) → i ≤ l.length → (∀ g, sv.ownBlock = some g → g ≠ n) →
        Calls Tryz.prog 197 #[.pointer (some ⟨n, 0, none⟩), .int .i64 (9 - (d : Int))] w (Runs l n sv rest w (Pl.typeP d ((l.drop i).map kt3)) (TyV w.heap.size))) := ih
      have HS : Hid (TSeg w sv (l.map toZ)) := hS
      have HG : Hid (GoodT l) := hG
      have HN : Hid (∀ g, sv.ownBlock = some g → g ≠ n) := hsn
      simp only at hxs
      clear ih hp hF ht hpt hS hG hsn hi
      have hkx : (kt3 (k, x, ln)).2 = bl x := rfl
      rw [hkx]
      generalize hRES : (if bl x = [91] then (Pl.typeP d ((l.drop (i + 1)).map kt3)).bind fun x r1 => (Pl.takeP (Pl.isT [93]) r1).bind fun _ r2 => Pl.Res.ok (Pl.Ty.list x) r2
        else if bl x = [63] then (Pl.typeP d ((l.drop (i + 1)).map kt3)).bind fun x r1 => Pl.Res.ok (Pl.Ty.opt x) r1
        else if Pl.nameT (kt3 (k, x, ln)) = true then Pl.Res.ok (Pl.Ty.named (bl x)) ((l.drop (i + 1)).map kt3)
        else Pl.Res.ok (Pl.Ty.plain (Pl.plainK (bl x))) ((l.drop (i + 1)).map kt3)) = RES
      have HRES : Hid ((if bl x = [91] then (Pl.typeP d ((l.drop (i + 1)).map kt3)).bind fun x r1 => (Pl.takeP (Pl.isT [93]) r1).bind fun _ r2 => Pl.Res.ok (Pl.Ty.list x) r2
        else if bl x = [63] then (Pl.typeP d ((l.drop (i + 1)).map kt3)).bind fun x r1 => Pl.Res.ok (Pl.Ty.opt x) r1
        else if Pl.nameT (kt3 (k, x, ln)) = true then Pl.Res.ok (Pl.Ty.named (bl x)) ((l.drop (i + 1)).map kt3)
        else Pl.Res.ok (Pl.Ty.plain (Pl.plainK (bl x))) ((l.drop (i + 1)).map kt3)) = RES) := hRES
      clear hRES hkx
      go_enter Tryz.func197, Tryz.ntmps197
      go_wp2_with fail
      rw [← hbe] at hB0 ⊢
      have hnb : b ≠ n := by omega
      change Bx (w.alloc (.cells #[.int .i64 0, .string ⟨#[]⟩, .slice none 0 0] 34)) b _ _ at hB0
      have HB : Hid (b = w.heap.size) := hbe
      clear hbe
      generalize w.alloc (.cells #[.int .i64 0, .string ⟨#[]⟩, .slice none 0 0] 34) = w0 at *
      refine hnx.mono ?_
      rintro e w1 ⟨rfl, hb1'⟩
      have hbw1 := below_next hb0 hb1'
      have hB1 := hB0.below hb1'
      have hT1 := htk _ hbw1
      clear hnx htk hb0 hB0 hb1'
      unfold tokV at hT1 ⊢
      go_wp2_with fail
      refine hT1.mono ?_
      rintro e w2 ⟨rfl, hP2, hC2⟩
      have hB2 := hB1.ch hC2 (fun hx => hnb hx.1)
      have hC2' : Ch (Xp n) w w2 := (Ch.below hbw1).trans hC2
      clear hB1 hT1 hC2
      have hS2 := HS.out.pos hC2' HN.out
      have hb3 := below_alloc w2 (.cells #[.int .i64 (k : Int), .string x, .int .i64 (ln : Int)] 165)
      have hX3 := Bx.new w2 [.int .i64 (k : Int), .string x, .int .i64 (ln : Int)] 165
      have hC3 := hC2'.bel hb3
      have hB3 := hB2.below hb3
      have hS3 := hS2.below hb3
      have hP3 := hP2.below hb3
      have hlb : b < w2.heap.size := hB2.lt
      by_cases h1 : x = ⟨#[91]⟩
      · have hb1 : bl x = [91] := by rw [h1]; rfl
        have HR3 := HRES.out
        rw [if_pos hb1] at HR3
        have HRES : Hid (((Pl.typeP d ((l.drop (i + 1)).map kt3)).bind fun x r1 => (Pl.takeP (Pl.isT [93]) r1).bind fun _ r2 => Pl.Res.ok (Pl.Ty.list x) r2) = RES) := HR3
        subst h1
        clear HR3 hb1
        go_wp2_with fail
        have e9 : (8 : Int) - (d : Int) + 1 = 9 - (d : Int) := by omega
        rw [e9]
        have hrec := HH.out _ (i + 1) (by omega) hP3 hS3 hil HN.out
        have HB3 : Hid (b < (w2.alloc (.cells #[.int .i64 (k : Int), .string ⟨#[91]⟩, .int .i64 (ln : Int)] 165)).heap.size) := hB3.lt
        generalize (w2.alloc (.cells #[.int .i64 (k : Int), .string ⟨#[91]⟩, .int .i64 (ln : Int)] 165)) = w3 at *
        clear hB2 hP2 hC2' hS2 hb3 e9 hd8 hdl hX3 hP3 hlb
        have HR4 := HRES.out
        refine hrec.mono ?_
        generalize Pl.typeP d ((l.drop (i + 1)).map kt3) = R4 at *
        cases R4 with
        | bad r er =>
          rintro e w4 ⟨i4, rfl, hi4, hr4, hC4⟩
          subst HR4
          exact ⟨rfl, i4, rfl, hi4, hr4, hC3.trans hC4⟩
        | ok ty r =>
          rintro e w4 ⟨v4, i4, rfl, hi4, rfl, hP4, ⟨a4, b4, c4, rfl, hty⟩, hC4⟩
          have HR4' : Hid (((Pl.takeP (Pl.isT [93]) ((l.drop i4).map kt3)).bind fun _ r2 => Pl.Res.ok (Pl.Ty.list ty) r2) = RES) := HR4
          obtain ⟨k4, s4, ad4, m4, cp4, rfl, rfl, rfl⟩ := hty.shape
          have hC4' := hC3.trans hC4
          have hB4 := hB3.ch hC4 (fun hx => hnb hx.1)
          have hS4 := hS3.pos hC4 HN.out
          clear hrec hC3 hC4 hB3 hS3 HR4 HRES
          go_wp2_with fail
          refine (psign_any _ [93] rfl _ _ (by simp)).mono ?_
          rintro e w5 ⟨fk, cap, rfl, hF5, hb5⟩
          have hba := below_alloc w4 (.cells #[.int .i64 k4, .string s4, .slice ad4 m4 cp4] 34)
          have hbx := Bx.new w4 [.int .i64 k4, .string s4, .slice ad4 m4 cp4] 34
          have hb45 := below_next hba hb5
          have hX5 := hbx.below hb5
          have hB5 := hB4.below hb45
          have hP5 := hP4.below hb45
          have hC5 := hC4'.bel hb45
          have hty5 := TyC.ch (X := Xp n) (Ch.below hb45) Xp.ty _ _ _ _ hty
          have hnx4 : n ≠ w4.heap.size := by have := hP4.facts.2.2.2; omega
          have hbx4 : b ≠ w4.heap.size := by have := hB4.lt; omega
          obtain ⟨g4, hg4⟩ : ∃ g4, g4 = w4.heap.size := ⟨_, rfl⟩
          rw [← hg4] at hX5 hnx4 hbx4 ⊢
          have htk5 := ptake_any n sv l rest w5 i4 hP5 (hS4.below hb45) hl hbig hi4 _ _ hF5
          have hgw : w.heap.size ≤ g4 := by rw [hg4]; exact hC4'.size
          clear hg4 hb45 hba hbx hb5 hB4 hP4 hC4' hty hF5 hS4
          go_wp2_with fail
          have HR5 := HR4'.out
          refine htk5.mono ?_
          generalize Pl.takeP (Pl.isT [93]) ((l.drop i4).map kt3) = R5 at *
          cases R5 with
          | bad r er =>
            rintro e w6 ⟨i6, rfl, hi6, hr6, hC6⟩
            subst HR5
            exact ⟨rfl, i6, rfl, hi6, hr6, hC5.trans hC6⟩
          | ok kt5 r5 =>
            rintro e w6 ⟨v6, i6, rfl, hi6, rfl, hP6, ⟨t6, -, -, rfl⟩, hC6⟩
            have hC6' := hC5.trans hC6
            have hB6 := hB5.ch hC6 (fun hx => hnb hx.1)
            have hX6 := hX5.ch hC6 (fun hx => hnx4 hx.1.symm)
            have hty6 := TyC.ch hC6 Xp.ty _ _ _ _ hty5
            have x0 := hX6.cell 0 rfl
            have x1 := hX6.cell 1 rfl
            have x2 := hX6.cell 2 rfl
            have d0 := hB6.cell 0 rfl
            have d1 := hB6.cell 1 rfl
            have d2 := hB6.cell 2 rfl
            have hfb := hB6.frozen
            have hlt6 := hX6.lt
            have hlb6 := hB6.lt
            unfold tokV
            have HR6 : Hid (Pl.Res.ok (Pl.Ty.list ty) ((l.drop i6).map kt3) = RES) := HR5
            clear htk5 hC5 hC6 hB5 hX5 hty5 hP5 HR5 HR4'
            go_wp2
            have hge : w.heap.size ≤ b := by rw [HB.out]; exact Nat.le_refl _
            have hB7 := (((hB6.set 0 (.int .i64 6)).set 1 (.string ⟨#[]⟩)).set 2 (.slice (some ⟨w6.heap.size, 0, none⟩) 1 1)).alloc (.cells #[.int .i64 k4, .string s4, .slice ad4 m4 cp4] 34)
            refine bodyPost_ret (ret_ty77 rfl (hB7.cell 0 rfl) (hB7.cell 1 rfl) (hB7.cell 2 rfl)) rfl ?_
            rw [← HR6.out]
            have hb3 := HB3.out
            have hty7 := TyC.ch (X := Xp n) (Ch.alloc _ (.cells #[.int .i64 k4, .string s4, .slice ad4 m4 cp4] 34)) Xp.ty _ _ _ _ (((hty6.set (k := 0) hb3 (.int .i64 6)).set (k := 1) hb3 (.string ⟨#[]⟩)).set (k := 2) hb3 (.slice (some ⟨w6.heap.size, 0, none⟩) 1 1))
            refine ⟨_, i6, rfl, hi6, rfl, (((hP6.other (Ne.symm hnb) _).other (Ne.symm hnb) _).other (Ne.symm hnb) _).below (below_alloc _ _), ⟨_, _, _, rfl, rfl, rfl, w6.heap.size, _, _, _, rfl, ?_, ?_, TyC.mono ?_ _ _ _ _ hty7⟩, (((hC6'.new hge _).new hge _).new hge _).al _⟩
            · exact hC6'.size
            · exact Bx.newAt (by simp) _ _
            · omega
      · have hs1 : (x.toList == [91]) = false := by simpa [ByteArray.toList_eq] using str_no h1
        have hb1 : ¬ bl x = [91] := fun e => h1 (bl_inj e)
        have HR3 := HRES.out
        rw [if_neg hb1] at HR3
        by_cases h2 : x = ⟨#[63]⟩
        · have hb2 : bl x = [63] := by rw [h2]; rfl
          rw [if_pos hb2] at HR3
          have HRES : Hid (((Pl.typeP d ((l.drop (i + 1)).map kt3)).bind fun x r1 => Pl.Res.ok (Pl.Ty.opt x) r1) = RES) := HR3
          subst h2
          clear HR3 hb1 hb2 h1 hs1
          go_wp2_with fail
          have e9 : (8 : Int) - (d : Int) + 1 = 9 - (d : Int) := by omega
          rw [e9]
          have hrec := HH.out _ (i + 1) (by omega) hP3 hS3 hil HN.out
          have HB3 : Hid (b < (w2.alloc (.cells #[.int .i64 (k : Int), .string ⟨#[63]⟩, .int .i64 (ln : Int)] 165)).heap.size) := hB3.lt
          generalize (w2.alloc (.cells #[.int .i64 (k : Int), .string ⟨#[63]⟩, .int .i64 (ln : Int)] 165)) = w3 at *
          clear hB2 hP2 hC2' hS2 hb3 e9 hd8 hdl hX3 hP3 hlb
          have HR4 := HRES.out
          refine hrec.mono ?_
          generalize Pl.typeP d ((l.drop (i + 1)).map kt3) = R4 at *
          cases R4 with
          | bad r er =>
            rintro e w4 ⟨i4, rfl, hi4, hr4, hC4⟩
            subst HR4
            exact ⟨rfl, i4, rfl, hi4, hr4, hC3.trans hC4⟩
          | ok ty r =>
            rintro e w6 ⟨v4, i6, rfl, hi6, rfl, hP6, ⟨a4, b4, c4, rfl, hty⟩, hC4⟩
            have HR6 : Hid (Pl.Res.ok (Pl.Ty.opt ty) ((l.drop i6).map kt3) = RES) := HR4
            obtain ⟨k4, s4, ad4, m4, cp4, rfl, rfl, rfl⟩ := hty.shape
            have hC6' := hC3.trans hC4
            have hB6 := hB3.ch hC4 (fun hx => hnb hx.1)
            have d0 := hB6.cell 0 rfl
            have d1 := hB6.cell 1 rfl
            have d2 := hB6.cell 2 rfl
            have hfb := hB6.frozen
            have hlb6 := hB6.lt
            clear hrec hC3 hC4 hB3 hS3 HR4 HRES
            go_wp2
            have hge : w.heap.size ≤ b := by rw [HB.out]; exact Nat.le_refl _
            have hB7 := ((((hB6.set 0 (.int .i64 7)).set 1 (.string ⟨#[]⟩)).set 2 (.slice (some ⟨w6.heap.size + 1, 0, none⟩) 1 1)).alloc (.cells #[.int .i64 k4, .string s4, .slice ad4 m4 cp4] 34)).alloc (.cells #[.int .i64 k4, .string s4, .slice ad4 m4 cp4] 34)
            refine bodyPost_ret (ret_ty77 rfl (hB7.cell 0 rfl) (hB7.cell 1 rfl) (hB7.cell 2 rfl)) rfl ?_
            rw [← HR6.out]
            have hb3 := HB3.out
            have hty7 := TyC.ch (X := Xp n) (Ch.al (Ch.alloc _ (.cells #[.int .i64 k4, .string s4, .slice ad4 m4 cp4] 34)) (.cells #[.int .i64 k4, .string s4, .slice ad4 m4 cp4] 34)) Xp.ty _ _ _ _ (((hty.set (k := 0) hb3 (.int .i64 7)).set (k := 1) hb3 (.string ⟨#[]⟩)).set (k := 2) hb3 (.slice (some ⟨w6.heap.size + 1, 0, none⟩) 1 1))
            refine ⟨_, i6, rfl, hi6, rfl, ((((hP6.other (Ne.symm hnb) _).other (Ne.symm hnb) _).other (Ne.symm hnb) _).below (below_alloc _ _)).below (below_alloc _ _), ⟨_, _, _, rfl, rfl, rfl, w6.heap.size + 1, _, _, _, rfl, ?_, ?_, TyC.mono ?_ _ _ _ _ hty7⟩, ((((hC6'.new hge _).new hge _).new hge _).al _).al _⟩
            · have := hC6'.size
              omega
            · exact Bx.newAt (by simp) _ _
            · omega
        · have hs2 : (x.toList == [63]) = false := by simpa [ByteArray.toList_eq] using str_no h2
          have hb2 : ¬ bl x = [63] := fun e => h2 (bl_inj e)
          rw [if_neg hb2] at HR3
          have hnm := fun w => isName_any (k, x, ln) w
          unfold tokV at hnm
          have x0 := hX3.cell 0 rfl
          have x1 := hX3.cell 1 rfl
          have x2 := hX3.cell 2 rfl
          by_cases hnt : Pl.nameT (kt3 (k, x, ln)) = true
          · rw [if_pos hnt] at HR3
            rw [hnt] at hnm
            have HR6 : Hid (Pl.Res.ok (Pl.Ty.named (bl x)) ((l.drop (i + 1)).map kt3) = RES) := HR3
            clear HR3 HRES hb1 hb2 h1 h2 hnt
            go_wp2_with fail
            refine (hnm _).mono ?_
            rintro e w4 ⟨rfl, hb4⟩
            have hX4 := hX3.below hb4
            have y1 := hX4.cell 1 rfl
            go_wp2_with fail
            refine (clone_any x _ (by omega)).mono ?_
            rintro e w5 ⟨rfl, hb5⟩
            have hb45 := below_next hb4 hb5
            have hB5 := hB3.below hb45
            have d0 := hB5.cell 0 rfl
            have d1 := hB5.cell 1 rfl
            have d2 := hB5.cell 2 rfl
            have hfb := hB5.frozen
            go_wp2
            have hge : w.heap.size ≤ b := by rw [HB.out]; exact Nat.le_refl _
            have hB7 := ((hB5.set 0 (.int .i64 8)).set 1 (.string x)).set 2 (.slice none 0 0)
            refine bodyPost_ret (ret_ty77 rfl (hB7.cell 0 rfl) (hB7.cell 1 rfl) (hB7.cell 2 rfl)) rfl ?_
            rw [← HR6.out]
            exact ⟨_, i + 1, rfl, hil, rfl, (((hP3.below hb45).other (Ne.symm hnb) _).other (Ne.symm hnb) _).other (Ne.symm hnb) _, ⟨_, _, _, rfl, rfl, ⟨x, rfl, rfl⟩, rfl⟩, (((hC3.bel hb45).new hge _).new hge _).new hge _⟩
          · rw [if_neg hnt] at HR3
            have hpk := fun w => plainKind_any x w
            rw [Bool.eq_false_iff.2 hnt] at hnm
            have HR6 : Hid (Pl.Res.ok (Pl.Ty.plain (Pl.plainK (bl x))) ((l.drop (i + 1)).map kt3) = RES) := HR3
            clear HR3 HRES hb1 hb2 h1 h2 hnt
            generalize Pl.plainK (bl x) = K at *
            go_wp2_with fail
            refine (hnm _).mono ?_
            rintro e w4 ⟨rfl, hb4⟩
            have hX4 := hX3.below hb4
            have y1 := hX4.cell 1 rfl
            go_wp2_with fail
            refine (hpk _).mono ?_
            rintro e w5 ⟨rfl, hb5⟩
            have hb45 := below_next hb4 hb5
            have hB5 := hB3.below hb45
            have d0 := hB5.cell 0 rfl
            have d1 := hB5.cell 1 rfl
            have d2 := hB5.cell 2 rfl
            have hfb := hB5.frozen
            go_wp2
            have hge : w.heap.size ≤ b := by rw [HB.out]; exact Nat.le_refl _
            have hB7 := ((hB5.set 0 (.int .i64 (K : Int))).set 1 (.string ⟨#[]⟩)).set 2 (.slice none 0 0)
            refine bodyPost_ret (ret_ty77 rfl (hB7.cell 0 rfl) (hB7.cell 1 rfl) (hB7.cell 2 rfl)) rfl ?_
            rw [← HR6.out]
            exact ⟨_, i + 1, rfl, hil, rfl, (((hP3.below hb45).other (Ne.symm hnb) _).other (Ne.symm hnb) _).other (Ne.symm hnb) _, ⟨_, _, _, rfl, rfl, rfl, rfl⟩, (((hC3.bel hb45).new hge _).new hge _).new hge _⟩
end Go.Proofs.YtdbgncdnffbhkaaGreatDoor

namespace Go.Proofs.YtdbgncdnffbhkaaGreatDoor
open Go.RowKit
set_option maxRecDepth 20000

theorem hid {p : Prop} (h : p) : Hid p := h

theorem ret_case56 {W : World} {tmps : Array Value} {b : Nat} {x y : Value} (ht : tmps.getD 4 undef = .pointer (some ⟨b, 0, none⟩)) (h0 : W.cell? ⟨b, 0, none⟩ = some x) (h1 : W.cell? ⟨b, 1, none⟩ = some y) :
    (results Tryz.f181 tmps).run Tryz.prog W = .ok (.agg #[x, y]) W := by
  have ht' : tmps[4]?.getD undef = .pointer (some ⟨b, 0, none⟩) := by rw [← Array.getD_eq_getD_getElem?]; exact ht
  simp [results, Tryz.results181]
  go_simp
theorem ret_field54 {W : World} {tmps : Array Value} {b : Nat} {x y p q r : Value} (ht : tmps.getD 4 undef = .pointer (some ⟨b, 0, none⟩)) (h0 : W.cell? ⟨b, 0, none⟩ = some x) (h1 : W.cell? ⟨b, 1, none⟩ = some y) (h2 : W.cell? ⟨b, 2, none⟩ = some p) (h3 : W.cell? ⟨b, 3, none⟩ = some q) (h4 : W.cell? ⟨b, 4, none⟩ = some r) :
    (results Tryz.f179 tmps).run Tryz.prog W = .ok (.agg #[x, y, p, q, r]) W := by
  have ht' : tmps[4]?.getD undef = .pointer (some ⟨b, 0, none⟩) := by rw [← Array.getD_eq_getD_getElem?]; exact ht
  simp [results, Tryz.results179]
  go_simp

def CasV (f : Pl.Cas) (v : Value) (_ : World) : Prop := ∃ s, v = .agg #[.string s, .int .i64 (f.num : Int)] ∧ bl s = f.name
def FldV (B : Nat) (f : Pl.Fld) (v : Value) (w : World) : Prop := ∃ s a b c, v = .agg #[.string s, .int .i64 (f.num : Int), a, b, c] ∧ bl s = f.name ∧ TyC B f.ty w a b c

theorem ptype_one (n : Nat) (sv : Value) (l : List T3) (rest : List Value) (hl : 0 < l.length) (hbig : l.length ≤ 1000000) (hG : GoodT l) (w : World) (i : Nat) (h : Pos n sv rest w i) (hS : TSeg w sv (l.map toZ)) (hi : i ≤ l.length) (hsn : ∀ g, sv.ownBlock = some g → g ≠ n) :
    Calls Tryz.prog 197 #[.pointer (some ⟨n, 0, none⟩), .int .i64 1] w (Runs l n sv rest w (Pl.typeP 8 ((l.drop i).map kt3)) (TyV w.heap.size)) := by
  have := ptype_any n sv l rest hl hbig hG 8 w i (by omega) h hS hi hsn
  exact this

set_option maxHeartbeats 16000000 in
set_option maxRecDepth 4000 in
theorem pcase_any (n : Nat) (sv : Value) (l : List T3) (rest : List Value) (hl : 0 < l.length) (hbig : l.length ≤ 1000000) (hG : GoodT l) (w : World) (i : Nat) (h : Pos n sv rest w i) (hS : TSeg w sv (l.map toZ)) (hi : i ≤ l.length) (hsn : ∀ g, sv.ownBlock = some g → g ≠ n) (t : T3) (ht : t ∈ l) (hk : t.1 = 2) :
    Calls Tryz.prog 181 #[.pointer (some ⟨n, 0, none⟩), tokV t] w (Runs l n sv rest w (Pl.caseP (kt3 t) ((l.drop i).map kt3)) CasV) := by
  have hct := fun w => count_any t (hG t ht) hk w
  obtain ⟨k, x, ln⟩ := t
  have hkx : (kt3 (k, x, ln)).2 = bl x := rfl
  unfold Pl.caseP
  rw [hkx]
  unfold tokV at hct ⊢
  simp only at hct ⊢
  generalize Pl.valN (bl x) = V at *
  generalize hRES : ((Pl.takeP Pl.nameT ((l.drop i).map kt3)).bind fun n r => (Pl.takeP (Pl.isT [59]) r).bind fun _ r => Pl.Res.ok (⟨V, n.2⟩ : Pl.Cas) r) = RES
  have HR := hid hRES
  have HN := hid hsn
  have HG := hid hG
  have HS := hid hS
  have hlt : n < w.heap.size := h.facts.2.2.2
  clear hRES hkx hsn ht hk
  go_enter Tryz.func181, Tryz.ntmps181
  go_wp2_with fail
  refine (hct _).mono ?_
  rintro e w1 ⟨rfl, hb1⟩
  have hba := below_next (below_alloc w (.cells #[.int .i64 (k : Int), .string x, .int .i64 (ln : Int)] 165)) (below_alloc (w.alloc (.cells #[.int .i64 (k : Int), .string x, .int .i64 (ln : Int)] 165)) (.cells #[.string ⟨#[]⟩, .int .i64 0] 86))
  have hBR1 := (Bx.newAt (w := w.alloc (.cells #[.int .i64 (k : Int), .string x, .int .i64 (ln : Int)] 165)) (g := w.heap.size + 1) (by simp) [.string ⟨#[]⟩, .int .i64 0] 86).below hb1
  replace hb1 := below_next hba hb1
  have hneR : w.heap.size + 1 ≠ n := by omega
  have hgeR : w.heap.size ≤ w.heap.size + 1 := by omega
  obtain ⟨bR, hbeR⟩ : ∃ g, g = w.heap.size + 1 := ⟨_, rfl⟩
  rw [← hbeR] at hBR1 hneR hgeR ⊢
  have hC1 : Ch (Xp n) w w1 := Ch.below hb1
  have hP1 := h.below hb1
  clear hbeR hba hb1 hct hS h hG
  have htk1 := ptakeName_any n sv l rest w1 i hP1 (HS.out.pos hC1 HN.out) hl hbig hi HG.out
  go_wp2_with fail
  have HX1 := HR.out
  clear HR
  refine htk1.mono ?_
  clear htk1
  generalize Pl.takeP Pl.nameT ((l.drop i).map kt3) = R1 at *
  cases R1 with
  | bad r er =>
    rintro e wz ⟨iz, rfl, hiz, hrz, hCz⟩
    subst HX1
    exact ⟨rfl, iz, rfl, hiz, hrz, hC1.trans hCz⟩
  | ok kk1 r1 =>
    simp only [ok_bind] at HX1
    rintro e w2 ⟨v1, i2, rfl, hi2, rfl, hP2, ⟨s2, rfl, hs2⟩, hc2⟩
    have HR := hid HX1
    clear HX1
    have hC2 := hC1.trans hc2
    have hBR2 := hBR1.ch hc2 (fun hx => hneR hx.1)
    clear hC1 hP1 hBR1
    clear hc2
    go_wp2_with fail
    refine (psign_any _ [59] rfl _ _ (by simp)).mono ?_
    rintro e w3 ⟨fk3, cap3, rfl, hF3, hb3⟩
    have hba := below_alloc w2 (.cells #[.string s2, .int .i64 (V : Int)] 86)
    have hbn := (Bx.new w2 [.string s2, .int .i64 (V : Int)] 86).below hb3
    replace hb3 := below_next hba hb3
    have hneF : w2.heap.size ≠ n := by have := hP2.facts.2.2.2; omega
    have hnqRF : bR ≠ w2.heap.size := by have := hBR2.lt; omega
    have hgeF : w.heap.size ≤ w2.heap.size := hC2.size
    obtain ⟨bF, hbeF⟩ : ∃ g, g = w2.heap.size := ⟨_, rfl⟩
    rw [← hbeF] at hbn hneF hgeF hnqRF ⊢
    have hC3 := hC2.bel hb3
    have hP3 := hP2.below hb3
    have hBR3 := hBR2.below hb3
    have hBF3 := hbn
    clear hbn hba hbeF
    clear hC2 hP2 hBR2
    clear hb3
    have htk3 := ptake_any n sv l rest w3 i2 hP3 (HS.out.pos hC3 HN.out) hl hbig hi2 _ _ hF3
    go_wp2_with fail
    have HX3 := HR.out
    clear HR
    refine htk3.mono ?_
    clear htk3
    generalize Pl.takeP (Pl.isT [59]) ((l.drop i2).map kt3) = R3 at *
    cases R3 with
    | bad r er =>
      rintro e wz ⟨iz, rfl, hiz, hrz, hCz⟩
      subst HX3
      exact ⟨rfl, iz, rfl, hiz, hrz, hC3.trans hCz⟩
    | ok kk3 r3 =>
      simp only [ok_bind] at HX3
      rintro e w4 ⟨v3, i4, rfl, hi4, rfl, hP4, ⟨t3, -, -, rfl⟩, hc4⟩
      have HR := hid HX3
      clear HX3
      have hC4 := hC3.trans hc4
      have hBR4 := hBR3.ch hc4 (fun hx => hneR hx.1)
      have hBF4 := hBF3.ch hc4 (fun hx => hneF hx.1)
      clear hC3 hP3 hBR3 hBF3
      clear hc4
      unfold tokV
      have x0 := hBF4.cell 0 rfl
      have x1 := hBF4.cell 1 rfl
      have d0 := hBR4.cell 0 rfl
      have d1 := hBR4.cell 1 rfl
      have hfb := hBR4.frozen
      go_wp2
      have hB7 := (hBR4.set 0 (.string s2)).set 1 (.int .i64 (V : Int))
      refine bodyPost_ret (ret_case56 rfl (hB7.cell 0 rfl) (hB7.cell 1 rfl)) rfl ?_
      rw [← HR.out]
      exact ⟨_, i4, rfl, hi4, rfl, (hP4.other (Ne.symm hneR) _).other (Ne.symm hneR) _, ⟨s2, rfl, hs2⟩, (hC4.new hgeR _).new hgeR _⟩

set_option maxHeartbeats 16000000 in
set_option maxRecDepth 4000 in
theorem pfield_any (n : Nat) (sv : Value) (l : List T3) (rest : List Value) (hl : 0 < l.length) (hbig : l.length ≤ 1000000) (hG : GoodT l) (w : World) (i : Nat) (h : Pos n sv rest w i) (hS : TSeg w sv (l.map toZ)) (hi : i ≤ l.length) (hsn : ∀ g, sv.ownBlock = some g → g ≠ n) (t : T3) (ht : t ∈ l) (hk : t.1 = 2) :
    Calls Tryz.prog 179 #[.pointer (some ⟨n, 0, none⟩), tokV t] w (Runs l n sv rest w (Pl.fieldP (kt3 t) ((l.drop i).map kt3)) (FldV w.heap.size)) := by
  have hct := fun w => count_any t (hG t ht) hk w
  obtain ⟨k, x, ln⟩ := t
  have hkx : (kt3 (k, x, ln)).2 = bl x := rfl
  unfold Pl.fieldP
  rw [hkx]
  unfold tokV at hct ⊢
  simp only at hct ⊢
  generalize Pl.valN (bl x) = V at *
  generalize hRES : ((Pl.takeP Pl.nameT ((l.drop i).map kt3)).bind fun n r => (Pl.takeP (Pl.isT [58]) r).bind fun _ r => (Pl.typeP 8 r).bind fun t r => (Pl.takeP (Pl.isT [59]) r).bind fun _ r => Pl.Res.ok (⟨V, n.2, t⟩ : Pl.Fld) r) = RES
  have HR := hid hRES
  have HN := hid hsn
  have HG := hid hG
  have HS := hid hS
  have hlt : n < w.heap.size := h.facts.2.2.2
  clear hRES hkx hsn ht hk
  go_enter Tryz.func179, Tryz.ntmps179
  go_wp2_with fail
  refine (hct _).mono ?_
  rintro e w1 ⟨rfl, hb1⟩
  have hba := below_next (below_alloc w (.cells #[.int .i64 (k : Int), .string x, .int .i64 (ln : Int)] 165)) (below_alloc (w.alloc (.cells #[.int .i64 (k : Int), .string x, .int .i64 (ln : Int)] 165)) (.cells #[.string ⟨#[]⟩, .int .i64 0, .int .i64 0, .string ⟨#[]⟩, .slice none 0 0] 83))
  have hBR1 := (Bx.newAt (w := w.alloc (.cells #[.int .i64 (k : Int), .string x, .int .i64 (ln : Int)] 165)) (g := w.heap.size + 1) (by simp) [.string ⟨#[]⟩, .int .i64 0, .int .i64 0, .string ⟨#[]⟩, .slice none 0 0] 83).below hb1
  replace hb1 := below_next hba hb1
  have hneR : w.heap.size + 1 ≠ n := by omega
  have hgeR : w.heap.size ≤ w.heap.size + 1 := by omega
  obtain ⟨bR, hbeR⟩ : ∃ g, g = w.heap.size + 1 := ⟨_, rfl⟩
  rw [← hbeR] at hBR1 hneR hgeR ⊢
  have hC1 : Ch (Xp n) w w1 := Ch.below hb1
  have hP1 := h.below hb1
  clear hbeR hba hb1 hct hS h hG
  have htk1 := ptakeName_any n sv l rest w1 i hP1 (HS.out.pos hC1 HN.out) hl hbig hi HG.out
  go_wp2_with fail
  have HX1 := HR.out
  clear HR
  refine htk1.mono ?_
  clear htk1
  generalize Pl.takeP Pl.nameT ((l.drop i).map kt3) = R1 at *
  cases R1 with
  | bad r er =>
    rintro e wz ⟨iz, rfl, hiz, hrz, hCz⟩
    subst HX1
    exact ⟨rfl, iz, rfl, hiz, hrz, hC1.trans hCz⟩
  | ok kk1 r1 =>
    simp only [ok_bind] at HX1
    rintro e w2 ⟨v1, i2, rfl, hi2, rfl, hP2, ⟨s2, rfl, hs2⟩, hc2⟩
    have HR := hid HX1
    clear HX1
    have hC2 := hC1.trans hc2
    have hBR2 := hBR1.ch hc2 (fun hx => hneR hx.1)
    clear hC1 hP1 hBR1
    clear hc2
    go_wp2_with fail
    refine (psign_any _ [58] rfl _ _ (by simp)).mono ?_
    rintro e w3 ⟨fk3, cap3, rfl, hF3, hb3⟩
    have hba := below_alloc w2 (.cells #[.string s2, .int .i64 (V : Int), .int .i64 0, .string ⟨#[]⟩, .slice none 0 0] 83)
    have hbn := (Bx.new w2 [.string s2, .int .i64 (V : Int), .int .i64 0, .string ⟨#[]⟩, .slice none 0 0] 83).below hb3
    replace hb3 := below_next hba hb3
    have hneF : w2.heap.size ≠ n := by have := hP2.facts.2.2.2; omega
    have hnqRF : bR ≠ w2.heap.size := by have := hBR2.lt; omega
    have hgeF : w.heap.size ≤ w2.heap.size := hC2.size
    obtain ⟨bF, hbeF⟩ : ∃ g, g = w2.heap.size := ⟨_, rfl⟩
    rw [← hbeF] at hbn hneF hgeF hnqRF ⊢
    have hC3 := hC2.bel hb3
    have hP3 := hP2.below hb3
    have hBR3 := hBR2.below hb3
    have hBF3 := hbn
    clear hbn hba hbeF
    clear hC2 hP2 hBR2
    clear hb3
    have htk3 := ptake_any n sv l rest w3 i2 hP3 (HS.out.pos hC3 HN.out) hl hbig hi2 _ _ hF3
    go_wp2_with fail
    have HX3 := HR.out
    clear HR
    refine htk3.mono ?_
    clear htk3
    generalize Pl.takeP (Pl.isT [58]) ((l.drop i2).map kt3) = R3 at *
    cases R3 with
    | bad r er =>
      rintro e wz ⟨iz, rfl, hiz, hrz, hCz⟩
      subst HX3
      exact ⟨rfl, iz, rfl, hiz, hrz, hC3.trans hCz⟩
    | ok kk3 r3 =>
      simp only [ok_bind] at HX3
      rintro e w4 ⟨v3, i4, rfl, hi4, rfl, hP4, ⟨t3, -, -, rfl⟩, hc4⟩
      have HR := hid HX3
      clear HX3
      have hC4 := hC3.trans hc4
      have hBR4 := hBR3.ch hc4 (fun hx => hneR hx.1)
      have hBF4 := hBF3.ch hc4 (fun hx => hneF hx.1)
      clear hC3 hP3 hBR3 hBF3
      clear hc4
      unfold tokV
      have hlF := hBF4.lt
      have hlR := hBR4.lt
      have hwC := hC4.size
      have htk4 := ptype_one n sv l rest hl hbig HG.out w4 i4 hP4 (HS.out.pos hC4 HN.out) hi4 HN.out
      go_wp2_with fail
      have HX4 := HR.out
      clear HR
      refine htk4.mono ?_
      clear htk4
      generalize Pl.typeP 8 ((l.drop i4).map kt3) = R4 at *
      cases R4 with
      | bad r er =>
        rintro e wz ⟨iz, rfl, hiz, hrz, hCz⟩
        subst HX4
        exact ⟨rfl, iz, rfl, hiz, hrz, hC4.trans hCz⟩
      | ok kk4 r4 =>
        simp only [ok_bind] at HX4
        rintro e w5 ⟨v4, i5, rfl, hi5, rfl, hP5, ⟨a5, b5, c5, rfl, hTt5⟩, hc5⟩
        have HR := hid HX4
        clear HX4
        have hC5 := hC4.trans hc5
        have hBR5 := hBR4.ch hc5 (fun hx => hneR hx.1)
        have hBF5 := hBF4.ch hc5 (fun hx => hneF hx.1)
        clear hC4 hP4 hBR4 hBF4
        clear hc5
        obtain ⟨ka, sa, ada, ma, cpa, rfl, rfl, rfl⟩ := hTt5.shape
        have f0 := hBF5.cell 2 rfl
        have f1 := hBF5.cell 3 rfl
        have f2 := hBF5.cell 4 rfl
        have hff := hBF5.frozen
        go_wp2_with fail
        have hC6 := ((hC5.new (k := 2) hgeF (.int .i64 ka)).new (k := 3) hgeF (.string sa)).new (k := 4) hgeF (.slice ada ma cpa)
        have hP6 := ((hP5.other (k := 2) (Ne.symm hneF) (.int .i64 ka)).other (k := 3) (Ne.symm hneF) (.string sa)).other (k := 4) (Ne.symm hneF) (.slice ada ma cpa)
        have hBF6 := ((hBF5.set 2 (.int .i64 ka)).set 3 (.string sa)).set 4 (.slice ada ma cpa)
        have hBR6 := ((hBR5.other (k := 2) hnqRF (.int .i64 ka)).other (k := 3) hnqRF (.string sa)).other (k := 4) hnqRF (.slice ada ma cpa)
        have hTt6 := ((hTt5.set (k := 2) hlF (.int .i64 ka)).set (k := 3) hlF (.string sa)).set (k := 4) hlF (.slice ada ma cpa)
        have hsz : (((w5.setCell ⟨bF, 2, none⟩ (.int .i64 ka)).setCell ⟨bF, 3, none⟩ (.string sa)).setCell ⟨bF, 4, none⟩ (.slice ada ma cpa)).heap.size = w5.heap.size := by simp
        rw [← hsz]
        clear f0 f1 f2 hff hsz
        clear hC5 hP5 hBR5 hBF5 hTt5
        generalize ((w5.setCell ⟨bF, 2, none⟩ (.int .i64 ka)).setCell ⟨bF, 3, none⟩ (.string sa)).setCell ⟨bF, 4, none⟩ (.slice ada ma cpa) = w6 at *
        simp only [List.set_cons_zero, List.set_cons_succ] at hBF6
        refine (psign_any _ [59] rfl _ _ (by simp)).mono ?_
        rintro e w7 ⟨fk7, cap7, rfl, hF7, hb7⟩
        have hC7 := hC6.bel hb7
        have hP7 := hP6.below hb7
        have hBR7 := hBR6.below hb7
        have hBF7 := hBF6.below hb7
        have hTt7 := TyC.ch (X := Xp n) (Ch.below hb7) Xp.ty _ _ _ _ hTt6
        clear hC6 hP6 hBR6 hBF6 hTt6
        clear hb7
        have htk7 := ptake_any n sv l rest w7 i5 hP7 (HS.out.pos hC7 HN.out) hl hbig hi5 _ _ hF7
        go_wp2_with fail
        have HX7 := HR.out
        clear HR
        refine htk7.mono ?_
        clear htk7
        generalize Pl.takeP (Pl.isT [59]) ((l.drop i5).map kt3) = R7 at *
        cases R7 with
        | bad r er =>
          rintro e wz ⟨iz, rfl, hiz, hrz, hCz⟩
          subst HX7
          exact ⟨rfl, iz, rfl, hiz, hrz, hC7.trans hCz⟩
        | ok kk7 r7 =>
          simp only [ok_bind] at HX7
          rintro e w8 ⟨v7, i8, rfl, hi8, rfl, hP8, ⟨t7, -, -, rfl⟩, hc8⟩
          have HR := hid HX7
          clear HX7
          have hC8 := hC7.trans hc8
          have hBR8 := hBR7.ch hc8 (fun hx => hneR hx.1)
          have hBF8 := hBF7.ch hc8 (fun hx => hneF hx.1)
          have hTt8 := TyC.ch hc8 Xp.ty _ _ _ _ hTt7
          clear hC7 hP7 hBR7 hBF7 hTt7
          clear hc8
          unfold tokV
          have x0 := hBF8.cell 0 rfl
          have x1 := hBF8.cell 1 rfl
          have x2 := hBF8.cell 2 rfl
          have x3 := hBF8.cell 3 rfl
          have x4 := hBF8.cell 4 rfl
          have d0 := hBR8.cell 0 rfl
          have d1 := hBR8.cell 1 rfl
          have d2 := hBR8.cell 2 rfl
          have d3 := hBR8.cell 3 rfl
          have d4 := hBR8.cell 4 rfl
          have hfb := hBR8.frozen
          go_wp2
          have hB7 := (((((hBR8.set 0 (.string s2)).set 1 (.int .i64 (V : Int))).set 2 (.int .i64 ka)).set 3 (.string sa)).set 4 (.slice ada ma cpa))
          refine bodyPost_ret (ret_field54 rfl (hB7.cell 0 rfl) (hB7.cell 1 rfl) (hB7.cell 2 rfl) (hB7.cell 3 rfl) (hB7.cell 4 rfl)) rfl ?_
          rw [← HR.out]
          exact ⟨_, i8, rfl, hi8, rfl, (((((hP8.other (Ne.symm hneR) _).other (Ne.symm hneR) _).other (Ne.symm hneR) _).other (Ne.symm hneR) _).other (Ne.symm hneR) _), ⟨s2, _, _, _, rfl, hs2, TyC.mono hwC _ _ _ _ (((((hTt8.set (k := 0) hlR (.string s2)).set (k := 1) hlR (.int .i64 (V : Int))).set (k := 2) hlR (.int .i64 ka)).set (k := 3) hlR (.string sa)).set (k := 4) hlR (.slice ada ma cpa))⟩, (((((hC8.new hgeR _).new hgeR _).new hgeR _).new hgeR _).new hgeR _)⟩
end Go.Proofs.YtdbgncdnffbhkaaGreatDoor

namespace Go.Proofs.YtdbgncdnffbhkaaGreatDoor
open Go.RowKit
set_option maxRecDepth 20000

def Region.apartDst2 (n : Nat) (ops : Array Oper) : Bool :=
  (List.range ops.size).all fun i => (List.range ops.size).all fun j => match ops[i]?, ops[j]? with | some o, some o' => (match o.dst with | some d => decide (d < n) && (decide (i = j) || decide (o'.dst ≠ some d)) | none => true) | _, _ => true

section
variable {P : Program} {ops : Array Oper} {Q : Exit → Act → World → Prop}
theorem apartDst2_spec {n : Nat} (h : Region.apartDst2 n ops = true) {i : Nat} {o : Oper} (hi : ops[i]? = some o) {d : Nat} (hd : o.dst = some d) :
    d < n ∧ ∀ j o', ops[j]? = some o' → o'.dst = some d → j = i := by
  unfold Region.apartDst2 at h
  rw [List.all_eq_true] at h
  have hl : i < ops.size := (Array.getElem?_eq_some_iff.1 hi).1
  have h1 := h i (List.mem_range.2 hl)
  rw [List.all_eq_true] at h1
  have h2 := h1 i (List.mem_range.2 hl)
  simp only [hi, hd, decide_true, Bool.true_or, Bool.and_true, decide_eq_true_eq] at h2
  refine ⟨h2, fun j o' hj hd' => ?_⟩
  have hlj : j < ops.size := (Array.getElem?_eq_some_iff.1 hj).1
  have h3 := h1 j (List.mem_range.2 hlj)
  simp only [hi, hj, hd, hd'] at h3
  simp at h3
  exact h3.2.symm

theorem wpAny_drawn2 {a0 : Act} {pred : Nat → Value → World → Prop} {R : World → Prop} (hb : Region.backwards ops = true) (hd : Region.apartDst2 a0.tmps.size ops = true)
    (hmono : ∀ i v w w', pred i v w → Below w.heap.size w w' → pred i v w')
    (hstep : ∀ (i : Nat) (o : Oper), ops[i]? = some o → ∀ (a : Act) (w : World), a.tmps.size = a0.tmps.size → a.defers = a0.defers → (∀ (t : Nat), (∀ (j : Nat) (o : Oper), ops[j]? = some o → o.dst ≠ some t) → a.tmps.getD t undef = a0.tmps.getD t undef) →
      (∀ e ∈ o.after, Region.binds .any e = true → ∀ (o' : Oper) (d' : Nat), ops[e.on]? = some o' → o'.dst = some d' → pred e.on (a.tmps.getD d' undef) w) → R w →
      wpOp P ops Q i (fun a' w' => ∃ v, a' = a.put o.dst v ∧ pred i v w' ∧ Below w.heap.size w w' ∧ R w') a w)
    (hdone : ∀ (a : Act) (w : World), a.tmps.size = a0.tmps.size → a.defers = a0.defers → (∀ (t : Nat), (∀ (j : Nat) (o : Oper), ops[j]? = some o → o.dst ≠ some t) → a.tmps.getD t undef = a0.tmps.getD t undef) →
      (∀ (i : Nat) (o : Oper) (d : Nat), ops[i]? = some o → o.dst = some d → pred i (a.tmps.getD d undef) w) → R w → Q .normal a w) :
    ∀ (fuel : Nat) (listed : Array Bool) (a : Act) (w : World), listed.size = ops.size → left ops.size listed ≤ fuel → Drawn ops a0 pred R listed a w → wpAny P .any ops Q fuel listed a w := by
  have fin : ∀ (listed : Array Bool) (a : Act) (w : World), listed.size = ops.size → Drawn ops a0 pred R listed a w → Region.ready .any ops listed = [] → Q .normal a w := by
    intro listed a w hs hD hr
    refine hdone a w hD.size hD.defers hD.frame (fun i o d ho hdd => hD.come i o d ho hdd ?_) hD.world
    exact ready_none hb hr hs i (Array.getElem?_eq_some_iff.1 ho).1
  intro fuel
  induction fuel with
  | zero =>
    intro listed a w hs hl hD
    have hr : Region.ready .any ops listed = [] := by
      cases hc : Region.ready .any ops listed with
      | nil => rfl
      | cons i r =>
        have hi : i ∈ Region.ready .any ops listed := by rw [hc]; exact List.mem_cons_self
        obtain ⟨h0, o, ho, _⟩ := mem_ready.1 hi
        have hlt : i < ops.size := (Array.getElem?_eq_some_iff.1 ho).1
        have : 0 < left ops.size listed := by
          unfold left
          rw [List.countP_pos_iff]
          exact ⟨i, List.mem_range.2 hlt, by rw [h0]; rfl⟩
        omega
    exact ⟨hr, fin listed a w hs hD hr⟩
  | succ fuel ih =>
    intro listed a w hs hl hD
    refine ⟨fin listed a w hs hD, fun i hi => ?_⟩
    obtain ⟨h0, o, ho, hdep⟩ := mem_ready.1 hi
    have hlt : i < ops.size := (Array.getElem?_eq_some_iff.1 ho).1
    refine wpOp_mono ?_ (hstep i o ho a w hD.size hD.defers hD.frame (fun e he hbd o' d' ho' hd' => hD.come _ _ _ ho' hd' (hdep e he hbd)) hD.world)
    rintro a' w' ⟨v, rfl, hp, hB, hR⟩
    refine ih _ _ _ (by simpa using hs) ?_ ?_
    · have : left ops.size (listed.setIfInBounds i true) < left ops.size listed := by
        unfold left
        refine countP_lt _ _ _ ?_ ⟨i, List.mem_range.2 hlt, by rw [h0]; rfl, ?_⟩
        · intro x _ hx
          by_cases hxi : i = x
          · subst hxi
            have : i < listed.size := by omega
            simp [this] at hx
          · rw [getD_set_ne true hxi] at hx
            exact hx
        · have : i < listed.size := by omega
          simp [this]
      omega
    · cases hdd : o.dst with
      | none =>
        refine ⟨hD.size, hD.defers, hD.frame, ?_, hR⟩
        intro j o' d' ho' hd' hl'
        by_cases hji : i = j
        · subst hji
          rw [ho] at ho'
          cases ho'
          rw [hdd] at hd'
          cases hd'
        · rw [getD_set_ne false hji] at hl'
          exact hmono _ _ _ _ (hD.come j o' d' ho' hd' hl') hB
      | some d =>
        obtain ⟨hdn, huniq⟩ := apartDst2_spec hd ho hdd
        refine ⟨?_, ?_, ?_, ?_, hR⟩
        · simp only [Act.put, Array.size_setIfInBounds]
          exact hD.size
        · exact hD.defers
        · intro t ht
          have hne : d ≠ t := fun e => ht i o ho (by rw [hdd, e])
          rw [← hD.frame t ht]
          simp only [Act.put]
          rw [Array.getD_eq_getD_getElem?, Array.getD_eq_getD_getElem?, Array.getElem?_setIfInBounds_ne hne]
        · intro j o' d' ho' hd' hl'
          by_cases hji : i = j
          · subst hji
            have : o' = o := by rw [ho] at ho'; exact (Option.some.inj ho').symm
            subst this
            have : d' = d := by rw [hdd] at hd'; exact (Option.some.inj hd').symm
            subst this
            have hsz : d' < a.tmps.size := by rw [hD.size]; exact hdn
            simp only [Act.put]
            rw [Array.getD_eq_getD_getElem?, Array.getElem?_setIfInBounds_self_of_lt hsz]
            exact hp
          · rw [getD_set_ne false hji] at hl'
            have hne : d ≠ d' := fun e => hji (huniq j o' ho' (by rw [hd', e])).symm
            have := hD.come j o' d' ho' hd' hl'
            simp only [Act.put]
            rw [Array.getD_eq_getD_getElem?, Array.getElem?_setIfInBounds_ne hne, ← Array.getD_eq_getD_getElem?]
            exact hmono _ _ _ _ this hB

/-- The region. -/
theorem wp_region_drawn2 {id : Nat} {a0 : Act} {w0 : World} {pred : Nat → Value → World → Prop} {R : World → Prop} (hm : P.follows .mixedOrders = true) (hb : Region.backwards ops = true) (hd : Region.apartDst2 a0.tmps.size ops = true)
    (hmono : ∀ i v w w', pred i v w → Below w.heap.size w w' → pred i v w') (hR0 : R w0.drew)
    (hstep : ∀ (i : Nat) (o : Oper), ops[i]? = some o → ∀ (a : Act) (w : World), a.tmps.size = a0.tmps.size → a.defers = a0.defers → (∀ (t : Nat), (∀ (j : Nat) (o : Oper), ops[j]? = some o → o.dst ≠ some t) → a.tmps.getD t undef = a0.tmps.getD t undef) →
      (∀ e ∈ o.after, Region.binds .any e = true → ∀ (o' : Oper) (d' : Nat), ops[e.on]? = some o' → o'.dst = some d' → pred e.on (a.tmps.getD d' undef) w) → R w →
      wpOp P ops Q i (fun a' w' => ∃ v, a' = a.put o.dst v ∧ pred i v w' ∧ Below w.heap.size w w' ∧ R w') a w)
    (hdone : ∀ (a : Act) (w : World), a.tmps.size = a0.tmps.size → a.defers = a0.defers → (∀ (t : Nat), (∀ (j : Nat) (o : Oper), ops[j]? = some o → o.dst ≠ some t) → a.tmps.getD t undef = a0.tmps.getD t undef) →
      (∀ (i : Nat) (o : Oper) (d : Nat), ops[i]? = some o → o.dst = some d → pred i (a.tmps.getD d undef) w) → R w → Q .normal a w) :
    (Code.region id ops true).wp P Q a0 w0 := by
  refine wp_region_any hm (wpAny_drawn2 hb hd hmono hstep hdone _ _ _ _ (by simp) ?_ ⟨rfl, rfl, fun _ _ => rfl, ?_, hR0⟩)
  · unfold left
    exact Nat.le_trans List.countP_le_length (by simp)
  · intro i o d ho _ hl
    have hlt : i < ops.size := (Array.getElem?_eq_some_iff.1 ho).1
    simp [hlt] at hl

/-- A call that panics. -/
theorem gOp_dies {i : Nat} {o : Oper} {a : Act} {w : World} {K : Act → World → Prop} (ho : ops[i]? = some o) (hw : Region.wanted o (yielded ops a.tmps) = true) (f : Nat) (args : Array Value) (hrun : (execOp a.eval o).run P w = .ok (.enter f args) w)
    (h : Calls P f args w fun e w' => ∃ ch, e = .panicked ch ∧ Q (.panic ch) a w') : wpOp P ops Q i K a w := by
  unfold wpOp
  simp only [ho, hw, if_true]
  refine .inl ?_
  unfold Oper.wp
  rw [hrun]
  refine h.mono ?_
  rintro e w' ⟨ch, rfl, hk⟩
  exact hk
end
end Go.Proofs.YtdbgncdnffbhkaaGreatDoor

