/- parse: caught. -/
import Derived.Test.YthdooemgnpiomaaQI
import Derived.Defers
import Derived.Recover
namespace Go.Proofs.Ythdooemgnpiomaa
open Go.RowKit

theorem run_assert (x : Value) (w : World) : (Instr.typeAssert (.iface 61 x) 20 61 false).run Try.prog w = .ok x w := by kernel_rfl

theorem catch_panicking (b : Nat) (ln er : Int) (older : List PanicEntry) (w : World) (hB : Bx w b [.int .i64 0, .int .i64 0] 61) :
    CallsD Try.prog 26 #[.pointer (some ⟨b, 0, none⟩)] (.panicking ({ v := .iface 61 (.agg #[.int .i64 ln, .int .i64 er]), recovered := false } :: older)) w fun e u' w' =>
      e = .returned (.tuple #[]) ∧ u' = .panicking ({ v := .iface 61 (.agg #[.int .i64 ln, .int .i64 er]), recovered := true } :: older) ∧ w' = (w.setCell ⟨b, 0, none⟩ (.int .i64 ln)).setCell ⟨b, 1, none⟩ (.int .i64 er) := by
  have h0 := hB.cell 0 rfl
  have h1 := hB.cell 1 rfl
  have hf := hB.frozen
  have hf2 := (hB.set 0 (.int .i64 ln)).frozen
  have ha := run_assert
  refine callsD_of_wpS Try.func26 rfl fun c₀ cs hu => ?_
  apply wpS_seq
  apply wpS_region
  simp [wpOpsS, go_sem, recoverD, hu, Try.ntmps26, Exit.thenS]
  apply wpS_seq
  apply wpS_region
  simp [wpOpsS, go_sem, Exit.thenS]
  refine wpS_cond (t := true) (by simp [Act.eval, Array.replicate]) ?_
  simp only [if_true]
  apply wpS_region
  simp [wpOpsS, go_sem, ha, h0, h1, hf, hf2, bodyPostS, results, Try.results26]

set_option maxRecDepth 4000 in
theorem catch_idle (b : Nat) (w : World) :
    CallsD Try.prog 26 #[.pointer (some ⟨b, 0, none⟩)] .returning w fun e u' w' => e = .returned (.tuple #[]) ∧ u' = .returning ∧ w' = w := by
  refine callsD_of_wpS Try.func26 rfl fun c₀ cs hu => ?_
  apply wpS_seq
  apply wpS_region
  simp [wpOpsS, go_sem, recoverD, hu, Try.ntmps26, Exit.thenS]
  apply wpS_seq
  apply wpS_region
  simp [wpOpsS, go_sem, Exit.thenS]
  refine wpS_cond (t := false) (by simp [Act.eval, Array.replicate]) ?_
  simp only [Bool.false_eq_true, if_false]
  refine wpS_of_wp (wp_skip ?_)
  cases c₀
  simp_all [bodyPostS, results, Try.results26]

theorem ret_fault17 {W : World} {tmps : Array Value} {b : Nat} {x y : Value} (ht : tmps.getD 2 undef = .pointer (some ⟨b, 0, none⟩)) (h0 : W.cell? ⟨b, 0, none⟩ = some x) (h1 : W.cell? ⟨b, 1, none⟩ = some y) :
    (results Try.f17 tmps).run Try.prog W = .ok (.agg #[x, y]) W := by
  have ht' : tmps[2]?.getD undef = .pointer (some ⟨b, 0, none⟩) := by rw [← Array.getD_eq_getD_getElem?]; exact ht
  simp [results, Try.results17]
  go_simp

/-- What the work ends with: it returns, or panics with a fault; in either case P says what it left. -/
theorem caught_ok (fr : Nat) (first : Array Value) (hen : ∀ (args : Array Value) (w' : World), (callFunc fr args).run Try.prog w' = .ok (.enter fr args) w') (w : World) (P : World → Prop) (hP : ∀ W, P W → Bx W w.heap.size [.int .i64 0, .int .i64 0] 61)
    (hw : Calls Try.prog fr first (w.alloc (.cells #[.int .i64 0, .int .i64 0] 61)) fun e w' => e = .returned (.tuple #[]) ∧ P w') :
    Calls Try.prog 17 #[.func (.func fr) first #[]] w fun e w' => e = .returned (.agg #[.int .i64 0, .int .i64 0]) ∧ ∃ W, P W ∧ w' = (W.setCell ⟨w.heap.size, 0, none⟩ (.int .i64 0)).setCell ⟨w.heap.size, 1, none⟩ (.int .i64 0) := by
  have hmf : ∀ (fn : Fn) (first cap : Array Value) (w : World), (Instr.makeFunc fn first cap).run Try.prog w = .ok (.func fn first cap) w := fun _ _ _ _ => rfl
  go_enter_defers Try.func17, Try.ntmps17
  go_wp2_with fail
  refine hw.mono ?_
  rintro e W ⟨rfl, hPW⟩
  have hB := hP W hPW
  have HP := hid hPW
  have h0 := hB.cell 0 rfl
  have h1 := hB.cell 1 rfl
  have hf := hB.frozen
  have hB2 := (hB.set 0 (.int .i64 0)).set 1 (.int .i64 0)
  have g0 := hB2.cell 0 rfl
  have g1 := hB2.cell 1 rfl
  clear hP hPW hw
  go_wp2
  refine leaves_cons (f := 26) (args := #[.pointer (some ⟨w.heap.size, 0, none⟩)]) (by simp) (by simp [go_sem]) ?_
  refine (catch_idle w.heap.size _).mono ?_
  rintro e u' w'' ⟨rfl, rfl, rfl⟩
  exact ⟨_, ret_fault17 rfl g0 g1, rfl, W, HP.out, rfl⟩

theorem caught_bad (fr : Nat) (first : Array Value) (hen : ∀ (args : Array Value) (w' : World), (callFunc fr args).run Try.prog w' = .ok (.enter fr args) w') (w : World) (ln er : Int) (P : World → Prop) (hP : ∀ W, P W → Bx W w.heap.size [.int .i64 0, .int .i64 0] 61)
    (hw : Calls Try.prog fr first (w.alloc (.cells #[.int .i64 0, .int .i64 0] 61)) fun e w' => e = .panicked (fault ln er) ∧ P w') :
    Calls Try.prog 17 #[.func (.func fr) first #[]] w fun e w' => e = .returned (.agg #[.int .i64 ln, .int .i64 er]) ∧ ∃ W, P W ∧ w' = (W.setCell ⟨w.heap.size, 0, none⟩ (.int .i64 ln)).setCell ⟨w.heap.size, 1, none⟩ (.int .i64 er) := by
  have hmf : ∀ (fn : Fn) (first cap : Array Value) (w : World), (Instr.makeFunc fn first cap).run Try.prog w = .ok (.func fn first cap) w := fun _ _ _ _ => rfl
  go_enter_defers Try.func17, Try.ntmps17
  go_wp2_with fail
  refine hw.mono ?_
  rintro e W ⟨rfl, hPW⟩
  have hB := hP W hPW
  have HP := hid hPW
  have hB2 := (hB.set 0 (.int .i64 ln)).set 1 (.int .i64 er)
  have g0 := hB2.cell 0 rfl
  have g1 := hB2.cell 1 rfl
  clear hP hPW hw
  refine leaves_cons (f := 26) (args := #[.pointer (some ⟨w.heap.size, 0, none⟩)]) (by simp) (by simp [go_sem]) ?_
  refine (catch_panicking w.heap.size ln er [] _ hB).mono ?_
  rintro e u' w'' ⟨rfl, rfl, rfl⟩
  exact ⟨_, ret_fault17 rfl g0 g1, rfl, W, HP.out, rfl⟩
end Go.Proofs.Ythdooemgnpiomaa
