/- message: what a step leaves as it was; need, caught. -/
import Derived.Test.YtoadcaennlfadaaGC
import Derived.WalkLawsBesides
import Derived.Defers
import Derived.Recover
namespace Go.Proofs.Ytoadcaennlfadaa
open Go.RowKit
set_option maxRecDepth 20000

theorem hid {p : Prop} (h : p) : Hid p := h
/-- Of what was there only blocks of which X speaks (number, type) have turned. -/
structure Ch (X : Nat → TypeId → Prop) (w w' : World) : Prop where
  os : w'.os = w.os
  tape : w'.tape = w.tape
  output : w'.output = w.output
  size : w.heap.size ≤ w'.heap.size
  block : ∀ g o, w.heap[g]? = some o → (∀ cs T r, o = .cells cs T r → ¬ X g T) → w'.heap[g]? = some o

theorem Ch.refl (X : Nat → TypeId → Prop) (w : World) : Ch X w w := ⟨rfl, rfl, rfl, Nat.le_refl _, fun _ _ h _ => h⟩
theorem Ch.trans {X : Nat → TypeId → Prop} {a b c : World} (h : Ch X a b) (k : Ch X b c) : Ch X a c :=
  ⟨k.os.trans h.os, k.tape.trans h.tape, k.output.trans h.output, Nat.le_trans h.size k.size, fun g o ho hx => k.block g o (h.block g o ho hx) hx⟩
theorem Ch.mono {X Y : Nat → TypeId → Prop} {w w' : World} (h : Ch X w w') (hXY : ∀ g T, X g T → Y g T) : Ch Y w w' :=
  ⟨h.os, h.tape, h.output, h.size, fun g o ho hx => h.block g o ho (fun cs T r e hX => hx cs T r e (hXY g T hX))⟩
theorem lt_of_some {w : World} {g : Nat} {o : Obj} (h : w.heap[g]? = some o) : g < w.heap.size := by
  rcases Nat.lt_or_ge g w.heap.size with hlt | hge
  · exact hlt
  · rw [Array.getElem?_eq_none hge] at h; cases h
theorem Ch.below {X : Nat → TypeId → Prop} {w w' : World} (h : Below w.heap.size w w') : Ch X w w' :=
  ⟨h.os, h.tape, h.output, h.size, fun g _ ho _ => (h.block g (lt_of_some ho)).trans ho⟩
theorem Ch.grown {X : Nat → TypeId → Prop} {w w' : World} {row : Option Nat} (h : w.grownBy w' row) (hx : ∀ g cs T r, row = some g → w.heap[g]? = some (.cells cs T r) → X g T) (hno : ∀ g o, row = some g → w.heap[g]? = some o → ∃ cs T r, o = .cells cs T r) : Ch X w w' :=
  ⟨h.os, h.tape, h.output, h.size, fun g o ho hn => by
    by_cases hr : some g = row
    · obtain ⟨cs, T, r, rfl⟩ := hno g o hr.symm ho
      exact absurd (hx g cs T r hr.symm ho) (hn cs T r rfl)
    · exact (h.block g (lt_of_some ho) hr).trans ho⟩
theorem Ch.set {X : Nat → TypeId → Prop} {w : World} {b k : Nat} {cs : Array Value} {T : TypeId} {r : Nat × Nat} (hb : w.heap[b]? = some (.cells cs T r)) (hx : X b T) (u : Value) : Ch X w (w.setCell ⟨b, k, none⟩ u) :=
  ⟨rfl, rfl, rfl, by simp, fun g o ho hn => by
    by_cases hg : g = b
    · subst hg
      rw [hb] at ho
      cases ho
      exact absurd hx (hn _ _ _ rfl)
    · exact (heap_setCell_other w ⟨b, k, none⟩ g u hg).trans ho⟩
theorem Ch.alloc {X : Nat → TypeId → Prop} (w : World) (o : Obj) : Ch X w (w.alloc o) := Ch.below ((Below.refl _ w).alloc (Nat.le_refl _) o)
theorem Ch.drewN {X : Nat → TypeId → Prop} (w : World) (m : Nat) : Ch X w (w.drewN m) := Ch.below (below_drewN (Below.refl _ _) m)

/-- A block of one's own that holds these cells. -/
def Bx (w : World) (b : Nat) (cs : List Value) (T : TypeId) : Prop := w.heap[b]? = some (.cells ⟨cs⟩ T (0, 0))
theorem Bx.ch {X : Nat → TypeId → Prop} {w w' : World} {b : Nat} {cs : List Value} {T : TypeId} (h : Bx w b cs T) (hc : Ch X w w') (hx : ¬ X b T) : Bx w' b cs T :=
  hc.block b _ h (fun _ _ _ e => by cases e; exact hx)
theorem Bx.cell {w : World} {b : Nat} {cs : List Value} {T : TypeId} (h : Bx w b cs T) (k : Nat) {u : Value} (hu : cs[k]? = some u) : w.cell? ⟨b, k, none⟩ = some u := by
  rw [cell_of_row w b k _ T (0, 0) h]
  simpa using hu
theorem Bx.frozen {w : World} {b : Nat} {cs : List Value} {T : TypeId} (h : Bx w b cs T) (k : Nat) : w.frozen? ⟨b, k, none⟩ = false := frozen_of_row w b k _ T h
theorem Bx.lt {w : World} {b : Nat} {cs : List Value} {T : TypeId} (h : Bx w b cs T) : b < w.heap.size := lt_of_some h
theorem Bx.below {w w' : World} {b : Nat} {cs : List Value} {T : TypeId} (h : Bx w b cs T) (hb : Below w.heap.size w w') : Bx w' b cs T := (hb.block b h.lt).trans h
theorem Bx.new (w : World) (cs : List Value) (T : TypeId) : Bx (w.alloc (.cells ⟨cs⟩ T)) w.heap.size cs T := heap_alloc_new w _
theorem Bx.alloc {w : World} {b : Nat} {cs : List Value} {T : TypeId} (h : Bx w b cs T) (o : Obj) : Bx (w.alloc o) b cs T := h.below ((Below.refl _ w).alloc (Nat.le_refl _) o)
theorem Bx.set {w : World} {b : Nat} {cs : List Value} {T : TypeId} (h : Bx w b cs T) (k : Nat) (u : Value) : Bx (w.setCell ⟨b, k, none⟩ u) b (cs.set k u) T := by
  unfold Bx at h ⊢
  rw [heap_setCell_same w b k _ T _ h]
  simp
theorem Bx.other {w : World} {b : Nat} {cs : List Value} {T : TypeId} (h : Bx w b cs T) {c k : Nat} (hc : b ≠ c) (u : Value) : Bx (w.setCell ⟨c, k, none⟩ u) b cs T :=
  (heap_setCell_other w ⟨c, k, none⟩ b u hc).trans h

/-- The error that a check panics with. -/
def errp (e : Int) : List PanicEntry := [{ v := .iface 26 (.int .i64 e), recovered := false }]

theorem run_assertE (x : Value) (w : World) : (Instr.typeAssert (.iface 26 x) 20 26 false).run Try.prog w = .ok x w := by kernel_rfl



set_option maxHeartbeats 1000000 in
theorem mneed_true (e : Int) (w : World) : Calls Try.prog 36 #[.bool true, .int .i64 e] w fun r w' => r = .returned (.tuple #[]) ∧ w' = w := by
  go_enter Try.func36, Try.ntmps36
  go_wp2
  go_end0
  exact ⟨rfl, rfl⟩
set_option maxHeartbeats 1000000 in
theorem mneed_false (e : Int) (w : World) : Calls Try.prog 36 #[.bool false, .int .i64 e] w fun r w' => r = .panicked (errp e) ∧ w' = w := by
  go_enter Try.func36, Try.ntmps36
  go_wp2
  exact ⟨rfl, rfl, rfl⟩
theorem mneed_any (b : Bool) (e : Int) (w : World) : Calls Try.prog 36 #[.bool b, .int .i64 e] w fun r w' => w' = w ∧ r = if b then .returned (.tuple #[]) else .panicked (errp e) := by
  cases b with
  | true => exact (mneed_true e w).mono fun r w' h => ⟨h.2, h.1⟩
  | false => exact (mneed_false e w).mono fun r w' h => ⟨h.2, h.1⟩

theorem mcatch_panicking (b : Nat) (er : Int) (older : List PanicEntry) (w : World) (hB : Bx w b [.int .i64 0] 26) :
    CallsD Try.prog 52 #[.pointer (some ⟨b, 0, none⟩)] (.panicking ({ v := .iface 26 (.int .i64 er), recovered := false } :: older)) w fun e u' w' =>
      e = .returned (.tuple #[]) ∧ u' = .panicking ({ v := .iface 26 (.int .i64 er), recovered := true } :: older) ∧ w' = w.setCell ⟨b, 0, none⟩ (.int .i64 er) := by
  have h0 := hB.cell 0 rfl
  have hf := hB.frozen
  have ha := run_assertE
  refine callsD_of_wpS Try.func52 rfl fun c₀ cs hu => ?_
  apply wpS_seq
  apply wpS_region
  simp [wpOpsS, go_sem, recoverD, hu, Try.ntmps52, Exit.thenS]
  apply wpS_seq
  apply wpS_region
  simp [wpOpsS, go_sem, Exit.thenS]
  refine wpS_cond (t := true) (by simp [Act.eval, Array.replicate]) ?_
  simp only [if_true]
  apply wpS_region
  simp [wpOpsS, go_sem, ha, h0, hf, bodyPostS, results, Try.results52]

set_option maxRecDepth 4000 in
theorem mcatch_idle (b : Nat) (w : World) :
    CallsD Try.prog 52 #[.pointer (some ⟨b, 0, none⟩)] .returning w fun e u' w' => e = .returned (.tuple #[]) ∧ u' = .returning ∧ w' = w := by
  refine callsD_of_wpS Try.func52 rfl fun c₀ cs hu => ?_
  apply wpS_seq
  apply wpS_region
  simp [wpOpsS, go_sem, recoverD, hu, Try.ntmps52, Exit.thenS]
  apply wpS_seq
  apply wpS_region
  simp [wpOpsS, go_sem, Exit.thenS]
  refine wpS_cond (t := false) (by simp [Act.eval, Array.replicate]) ?_
  simp only [Bool.false_eq_true, if_false]
  refine wpS_of_wp (wp_skip ?_)
  cases c₀
  simp_all [bodyPostS, results, Try.results52]

theorem ret_merrno {W : World} {tmps : Array Value} {b : Nat} {x : Value} (ht : tmps.getD 2 undef = .pointer (some ⟨b, 0, none⟩)) (h0 : W.cell? ⟨b, 0, none⟩ = some x) :
    (results Try.f33 tmps).run Try.prog W = .ok x W := by
  have ht' : tmps[2]?.getD undef = .pointer (some ⟨b, 0, none⟩) := by rw [← Array.getD_eq_getD_getElem?]; exact ht
  simp [results, Try.results33]
  go_simp

/-- caught, of a method with its receiver: what the work ends with. -/
theorem mcaught_ok (fr : Nat) (cap : Array Value) (hen : ∀ (args : Array Value) (w' : World), (callFunc fr args).run Try.prog w' = .ok (.enter fr args) w') (w : World) (P : World → Prop) (hP : ∀ W, P W → Bx W w.heap.size [.int .i64 0] 26)
    (hw : Calls Try.prog fr cap (w.alloc (.cells #[.int .i64 0] 26)) fun e w' => e = .returned (.tuple #[]) ∧ P w') :
    Calls Try.prog 33 #[.func (.func fr) #[] cap] w fun e w' => e = .returned (.int .i64 0) ∧ ∃ W, P W ∧ w' = W.setCell ⟨w.heap.size, 0, none⟩ (.int .i64 0) := by
  have hmf : ∀ (fn : Fn) (first cap : Array Value) (w : World), (Instr.makeFunc fn first cap).run Try.prog w = .ok (.func fn first cap) w := fun _ _ _ _ => rfl
  go_enter_defers Try.func33, Try.ntmps33
  go_wp2_with fail
  refine hw.mono ?_
  rintro e W ⟨rfl, hPW⟩
  have hB := hP W hPW
  have HP := hid hPW
  have h0 := hB.cell 0 rfl
  have hf := hB.frozen
  have hB2 := hB.set 0 (.int .i64 0)
  have g0 := hB2.cell 0 rfl
  clear hP hPW hw
  go_wp2
  refine leaves_cons (f := 52) (args := #[.pointer (some ⟨w.heap.size, 0, none⟩)]) (by simp) (by simp [go_sem]) ?_
  refine (mcatch_idle w.heap.size _).mono ?_
  rintro e u' w'' ⟨rfl, rfl, rfl⟩
  exact ⟨_, ret_merrno rfl g0, rfl, W, HP.out, rfl⟩

theorem mcaught_bad (fr : Nat) (cap : Array Value) (hen : ∀ (args : Array Value) (w' : World), (callFunc fr args).run Try.prog w' = .ok (.enter fr args) w') (w : World) (E : Int → Prop) (P : World → Prop) (hP : ∀ W, P W → Bx W w.heap.size [.int .i64 0] 26)
    (hw : Calls Try.prog fr cap (w.alloc (.cells #[.int .i64 0] 26)) fun e w' => ∃ er, E er ∧ e = .panicked (errp er) ∧ P w') :
    Calls Try.prog 33 #[.func (.func fr) #[] cap] w fun e w' => ∃ er, E er ∧ e = .returned (.int .i64 er) ∧ ∃ W, P W ∧ w' = W.setCell ⟨w.heap.size, 0, none⟩ (.int .i64 er) := by
  have hmf : ∀ (fn : Fn) (first cap : Array Value) (w : World), (Instr.makeFunc fn first cap).run Try.prog w = .ok (.func fn first cap) w := fun _ _ _ _ => rfl
  go_enter_defers Try.func33, Try.ntmps33
  go_wp2_with fail
  refine hw.mono ?_
  rintro e W ⟨er, hE, rfl, hPW⟩
  have hB := hP W hPW
  have HP := hid hPW
  have HE := hid hE
  have hB2 := hB.set 0 (.int .i64 er)
  have g0 := hB2.cell 0 rfl
  clear hP hPW hw
  refine leaves_cons (f := 52) (args := #[.pointer (some ⟨w.heap.size, 0, none⟩)]) (by simp) (by simp [go_sem]) ?_
  refine (mcatch_panicking w.heap.size er [] _ hB).mono ?_
  rintro e u' w'' ⟨rfl, rfl, rfl⟩
  exact ⟨_, ret_merrno rfl g0, er, HE.out, rfl, W, HP.out, rfl⟩
end Go.Proofs.Ytoadcaennlfadaa
