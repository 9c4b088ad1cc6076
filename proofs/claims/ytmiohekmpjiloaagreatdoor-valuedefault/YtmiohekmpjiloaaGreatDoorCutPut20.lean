/- schema: need, caught. -/
import Derived.Test.YtmiohekmpjiloaaGreatDoorCutPut19
import Derived.Defers
import Derived.Recover
namespace Go.Proofs.YtmiohekmpjiloaaGreatDoor
open Go.RowKit
set_option maxRecDepth 20000

/-- The error that a check panics with. -/
def errp (e : Int) : List PanicEntry := [{ v := .iface 34 (.int .i64 e), recovered := false }]

set_option maxHeartbeats 1000000 in
theorem sneed_true (e : Int) (w : World) : Calls Tryz.prog 107 #[.bool true, .int .i64 e] w fun r w' => r = .returned (.tuple #[]) ∧ w' = w := by
  go_enter Tryz.func107, Tryz.ntmps107
  go_wp2
  go_end0
  exact ⟨rfl, rfl⟩
set_option maxHeartbeats 1000000 in
theorem sneed_false (e : Int) (w : World) : Calls Tryz.prog 107 #[.bool false, .int .i64 e] w fun r w' => r = .panicked (errp e) ∧ w' = w := by
  go_enter Tryz.func107, Tryz.ntmps107
  go_wp2
  exact ⟨rfl, rfl, rfl⟩
theorem run_assertE (x : Value) (w : World) : (Instr.typeAssert (.iface 34 x) 20 34 false).run Tryz.prog w = .ok x w := by kernel_rfl

theorem scatch_panicking (b : Nat) (er : Int) (older : List PanicEntry) (w : World) (hB : Bx w b [.int .i64 0] 34) :
    CallsD Tryz.prog 98 #[.pointer (some ⟨b, 0, none⟩)] (.panicking ({ v := .iface 34 (.int .i64 er), recovered := false } :: older)) w fun e u' w' =>
      e = .returned (.tuple #[]) ∧ u' = .panicking ({ v := .iface 34 (.int .i64 er), recovered := true } :: older) ∧ w' = w.setCell ⟨b, 0, none⟩ (.int .i64 er) := by
  have h0 := hB.cell 0 rfl
  have hf := hB.frozen
  have ha := run_assertE
  refine callsD_of_wpS Tryz.func98 rfl fun c₀ cs hu => ?_
  apply wpS_seq
  apply wpS_region
  simp [wpOpsS, go_sem, recoverD, hu, Tryz.ntmps98, Exit.thenS]
  apply wpS_seq
  apply wpS_region
  simp [wpOpsS, go_sem, Exit.thenS]
  refine wpS_cond (t := true) (by simp [Act.eval, Array.replicate]) ?_
  simp only [if_true]
  apply wpS_region
  simp [wpOpsS, go_sem, ha, h0, hf, bodyPostS, results, Tryz.results98]

set_option maxRecDepth 4000 in
theorem scatch_idle (b : Nat) (w : World) :
    CallsD Tryz.prog 98 #[.pointer (some ⟨b, 0, none⟩)] .returning w fun e u' w' => e = .returned (.tuple #[]) ∧ u' = .returning ∧ w' = w := by
  refine callsD_of_wpS Tryz.func98 rfl fun c₀ cs hu => ?_
  apply wpS_seq
  apply wpS_region
  simp [wpOpsS, go_sem, recoverD, hu, Tryz.ntmps98, Exit.thenS]
  apply wpS_seq
  apply wpS_region
  simp [wpOpsS, go_sem, Exit.thenS]
  refine wpS_cond (t := false) (by simp [Act.eval, Array.replicate]) ?_
  simp only [Bool.false_eq_true, if_false]
  refine wpS_of_wp (wp_skip ?_)
  cases c₀
  simp_all [bodyPostS, results, Tryz.results98]

theorem ret_errno {W : World} {tmps : Array Value} {b : Nat} {x : Value} (ht : tmps.getD 2 undef = .pointer (some ⟨b, 0, none⟩)) (h0 : W.cell? ⟨b, 0, none⟩ = some x) :
    (results Tryz.f74 tmps).run Tryz.prog W = .ok x W := by
  have ht' : tmps[2]?.getD undef = .pointer (some ⟨b, 0, none⟩) := by rw [← Array.getD_eq_getD_getElem?]; exact ht
  simp [results, Tryz.results74]
  go_simp

/-- caught, of a method with its receiver: what the work ends with. -/
theorem scaught_ok (fr : Nat) (first : Array Value) (hen : ∀ (args : Array Value) (w' : World), (callFunc fr args).run Tryz.prog w' = .ok (.enter fr args) w') (w : World) (P : World → Prop) (hP : ∀ W, P W → Bx W w.heap.size [.int .i64 0] 34)
    (hw : Calls Tryz.prog fr first (w.alloc (.cells #[.int .i64 0] 34)) fun e w' => e = .returned (.tuple #[]) ∧ P w') :
    Calls Tryz.prog 74 #[.func (.func fr) first #[]] w fun e w' => e = .returned (.int .i64 0) ∧ ∃ W, P W ∧ w' = W.setCell ⟨w.heap.size, 0, none⟩ (.int .i64 0) := by
  have hmf : ∀ (fn : Fn) (first cap : Array Value) (w : World), (Instr.makeFunc fn first cap).run Tryz.prog w = .ok (.func fn first cap) w := fun _ _ _ _ => rfl
  go_enter_defers Tryz.func74, Tryz.ntmps74
  go_wp2_with fail
  refine hw.mono ?_
  rintro e W ⟨rfl, hPW⟩
  have hB := hP W hPW
  have HP := hid hPW
  have h0 := hB.cell 0 rfl
  have hf := hB.frozen
  have hB2 := hB.set 0 (.int .i64 0)
  have g0 := hB2.cell 0 rfl
  clear hP hPW hw
  go_wp2
  refine leaves_cons (f := 98) (args := #[.pointer (some ⟨w.heap.size, 0, none⟩)]) (by simp) (by simp [go_sem]) ?_
  refine (scatch_idle w.heap.size _).mono ?_
  rintro e u' w'' ⟨rfl, rfl, rfl⟩
  exact ⟨_, ret_errno rfl g0, rfl, W, HP.out, rfl⟩

theorem scaught_bad (fr : Nat) (first : Array Value) (hen : ∀ (args : Array Value) (w' : World), (callFunc fr args).run Tryz.prog w' = .ok (.enter fr args) w') (w : World) (E : Int → Prop) (P : World → Prop) (hP : ∀ W, P W → Bx W w.heap.size [.int .i64 0] 34)
    (hw : Calls Tryz.prog fr first (w.alloc (.cells #[.int .i64 0] 34)) fun e w' => ∃ er, E er ∧ e = .panicked (errp er) ∧ P w') :
    Calls Tryz.prog 74 #[.func (.func fr) first #[]] w fun e w' => ∃ er, E er ∧ e = .returned (.int .i64 er) ∧ ∃ W, P W ∧ w' = W.setCell ⟨w.heap.size, 0, none⟩ (.int .i64 er) := by
  have hmf : ∀ (fn : Fn) (first cap : Array Value) (w : World), (Instr.makeFunc fn first cap).run Tryz.prog w = .ok (.func fn first cap) w := fun _ _ _ _ => rfl
  go_enter_defers Tryz.func74, Tryz.ntmps74
  go_wp2_with fail
  refine hw.mono ?_
  rintro e W ⟨er, hE, rfl, hPW⟩
  have hB := hP W hPW
  have HP := hid hPW
  have HE := hid hE
  have hB2 := hB.set 0 (.int .i64 er)
  have g0 := hB2.cell 0 rfl
  clear hP hPW hw
  refine leaves_cons (f := 98) (args := #[.pointer (some ⟨w.heap.size, 0, none⟩)]) (by simp) (by simp [go_sem]) ?_
  refine (scatch_panicking w.heap.size er [] _ hB).mono ?_
  rintro e u' w'' ⟨rfl, rfl, rfl⟩
  exact ⟨_, ret_errno rfl g0, er, HE.out, rfl, W, HP.out, rfl⟩
end Go.Proofs.YtmiohekmpjiloaaGreatDoor

