/- breaker: a circuit in its box: end. -/
import Derived.Test.YtkfkhhhoboenkaaBD
namespace Go.Proofs.Ytkfkhhhoboenkaa
open Go.RowKit
set_option maxRecDepth 20000
set_option linter.unusedVariables false

set_option maxHeartbeats 8000000 in
theorem end_any (B : Nat) (b : Br.St) (s : Br.Se) (r : List Value) (T : TypeId) (t : Int) (pr g : Bool) (w : World) (h : Bo w B (cL b s r) T) (ht : IntKind.i64.wrap (t + s.o) = t + s.o) (hf : IntKind.i64.wrap (b.f + 1) = b.f + 1) (hw : IntKind.i64.wrap (b.w + 1) = b.w + 1) (hp : IntKind.i64.wrap (b.p - 1) = b.p - 1) :
    Calls Try.prog 27 #[.pointer (some ⟨B, 0, none⟩), .int .i64 t, .bool pr, .bool g] w fun e w' => e = .returned (.tuple #[]) ∧ Bo w' B (cL (Br.fin b s t pr g) s r) T ∧ Cg B w w' := by
  have cc := fun W (b' : Br.St) (hW : Bo W B (cL b' s r) T) => count_any B b' s r T t g W hW ht
  have cw := fun W (b' : Br.St) (hW : Bo W B (cL b' s r) T) => weigh_any B b' s r T t g W hW ht
  obtain ⟨M, F, U, P, W⟩ := b
  obtain ⟨SF, SO, SP⟩ := s
  have hBo := hidD h
  have p0 := h.cell 0 rfl
  have p3 := h.cell 3 rfl
  have f3 := h.frozen 3
  dsimp only at ht hf hw hp ⊢
  cases pr
  · have hD : Br.dn ⟨M, F, U, P, W⟩ false = ⟨M, F, U, P, W⟩ := rfl
    have h1 := h
    have hC := hidD (Cg.refl B w)
    have q0 := h1.cell 0 rfl
    have hB1 := hidD h1
    by_cases hm : M = 0
    · subst hm
      rw [show Br.fin ⟨0, F, U, P, W⟩ ⟨SF, SO, SP⟩ t false g = Br.count ⟨0, F, U, P, W⟩ ⟨SF, SO, SP⟩ t g from Br.fin_zero hD rfl]
      have c := cc _ ⟨0, F, U, P, W⟩ h1 hf
      clear h h1 cc cw hD
      go_enter Try.func27, Try.ntmps27
      go_wp2_with fail
      with_reducible refine c.mono ?_
      rintro e w5 ⟨rfl, b5, c5⟩
      go_wp2_with fail
      go_end0
      exact ⟨rfl, b5, hC.out.trans c5⟩
    · have hb0 : (M == 0) = false := by simp [hm]
      rw [show Br.fin ⟨M, F, U, P, W⟩ ⟨SF, SO, SP⟩ t false g = ⟨M, F, U, P, W⟩ from Br.fin_other hD hm (fun e => by cases e.2)]
      clear h h1 cc cw hD
      by_cases hm2 : M = 2
      · subst hm2
        go_enter Try.func27, Try.ntmps27
        go_wp2_with fail
        go_end0
        exact ⟨rfl, hB1.out, hC.out⟩
      · have hb2 : (M == 2) = false := by simp [hm2]
        go_enter Try.func27, Try.ntmps27
        go_wp2_with fail
        go_end0
        exact ⟨rfl, hB1.out, hC.out⟩
  · by_cases hp0 : 0 < P
    · have hD : Br.dn ⟨M, F, U, P, W⟩ true = ⟨M, F, U, P - 1, W⟩ := if_pos ⟨rfl, hp0⟩
      have h1 := h.set 3 (.int .i64 (P - 1))
      have hC := hidD (Cg.set w 3 (.int .i64 (P - 1)) (b := B))
      have q0 := h1.cell 0 rfl
      have hB1 := hidD h1
      by_cases hm : M = 0
      · subst hm
        rw [show Br.fin ⟨0, F, U, P, W⟩ ⟨SF, SO, SP⟩ t true g = Br.count ⟨0, F, U, (P - 1), W⟩ ⟨SF, SO, SP⟩ t g from Br.fin_zero hD rfl]
        have c := cc _ ⟨0, F, U, (P - 1), W⟩ h1 hf
        clear h h1 cc cw hD
        go_enter Try.func27, Try.ntmps27
        go_wp2_with fail
        with_reducible refine c.mono ?_
        rintro e w5 ⟨rfl, b5, c5⟩
        go_wp2_with fail
        go_end0
        exact ⟨rfl, b5, hC.out.trans c5⟩
      · have hb0 : (M == 0) = false := by simp [hm]
        by_cases hm2 : M = 2
        · subst hm2
          rw [show Br.fin ⟨2, F, U, P, W⟩ ⟨SF, SO, SP⟩ t true g = Br.weigh ⟨2, F, U, (P - 1), W⟩ ⟨SF, SO, SP⟩ t g from Br.fin_two hD rfl]
          have c := cw _ ⟨2, F, U, (P - 1), W⟩ h1 hw
          clear h h1 cc cw hm hD
          go_enter Try.func27, Try.ntmps27
          go_wp2_with fail
          with_reducible refine c.mono ?_
          rintro e w5 ⟨rfl, b5, c5⟩
          go_wp2_with fail
          go_end0
          exact ⟨rfl, b5, hC.out.trans c5⟩
        · rw [show Br.fin ⟨M, F, U, P, W⟩ ⟨SF, SO, SP⟩ t true g = ⟨M, F, U, (P - 1), W⟩ from Br.fin_other hD hm (fun e => hm2 e.1)]
          have hb2 : (M == 2) = false := by simp [hm2]
          clear h h1 cc cw hD
          go_enter Try.func27, Try.ntmps27
          go_wp2_with fail
          go_end0
          exact ⟨rfl, hB1.out, hC.out⟩
    · have hD : Br.dn ⟨M, F, U, P, W⟩ true = ⟨M, F, U, P, W⟩ := if_neg (fun e => hp0 e.2)
      have h1 := h
      have hC := hidD (Cg.refl B w)
      have q0 := h1.cell 0 rfl
      have hB1 := hidD h1
      by_cases hm : M = 0
      · subst hm
        rw [show Br.fin ⟨0, F, U, P, W⟩ ⟨SF, SO, SP⟩ t true g = Br.count ⟨0, F, U, P, W⟩ ⟨SF, SO, SP⟩ t g from Br.fin_zero hD rfl]
        have c := cc _ ⟨0, F, U, P, W⟩ h1 hf
        clear h h1 cc cw hD
        go_enter Try.func27, Try.ntmps27
        go_wp2_with fail
        with_reducible refine c.mono ?_
        rintro e w5 ⟨rfl, b5, c5⟩
        go_wp2_with fail
        go_end0
        exact ⟨rfl, b5, hC.out.trans c5⟩
      · have hb0 : (M == 0) = false := by simp [hm]
        by_cases hm2 : M = 2
        · subst hm2
          rw [show Br.fin ⟨2, F, U, P, W⟩ ⟨SF, SO, SP⟩ t true g = Br.weigh ⟨2, F, U, P, W⟩ ⟨SF, SO, SP⟩ t g from Br.fin_two hD rfl]
          have c := cw _ ⟨2, F, U, P, W⟩ h1 hw
          clear h h1 cc cw hm hD
          go_enter Try.func27, Try.ntmps27
          go_wp2_with fail
          with_reducible refine c.mono ?_
          rintro e w5 ⟨rfl, b5, c5⟩
          go_wp2_with fail
          go_end0
          exact ⟨rfl, b5, hC.out.trans c5⟩
        · rw [show Br.fin ⟨M, F, U, P, W⟩ ⟨SF, SO, SP⟩ t true g = ⟨M, F, U, P, W⟩ from Br.fin_other hD hm (fun e => hm2 e.1)]
          have hb2 : (M == 2) = false := by simp [hm2]
          clear h h1 cc cw hD
          go_enter Try.func27, Try.ntmps27
          go_wp2_with fail
          go_end0
          exact ⟨rfl, hB1.out, hC.out⟩
end Go.Proofs.Ytkfkhhhoboenkaa
