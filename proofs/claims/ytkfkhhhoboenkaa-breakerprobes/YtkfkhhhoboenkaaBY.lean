/- breaker: do. -/
import Derived.Test.YtkfkhhhoboenkaaBW
import Derived.Deep.RegionHeld
namespace Go.Proofs.Ytkfkhhhoboenkaa
open Go.RowKit
set_option linter.unusedVariables false
set_option maxRecDepth 20000

def Br.step (s : Br.Se) (b : Br.St) (a : Br.Ac) : Br.St × Int :=
  if a.k = 1 then (Br.tick b a.t, 0) else if a.k = 2 then (if Br.allows b s = true then (Br.beg b, if b.m = 2 then 1 else 0) else (b, 2)) else (Br.fin b s a.t a.p a.g, 0)

theorem cellCg {C g i : Nat} {W W' : World} {v : Value} (h : W.cell? ⟨g, i, none⟩ = some v) (hc : Cg C W W') (hg : g ≠ C) : W'.cell? ⟨g, i, none⟩ = some v := by
  have := hc.block g (World.block_lt_of_cell? W _ h) hg
  simp only [World.cell?] at h ⊢
  rw [this]
  exact h
theorem Cg.undrew {b : Nat} {w w' : World} (h : Cg b w.drew w') : Cg b w w' := ⟨h.os, h.tape, h.output, h.size, h.block⟩
theorem keepA {N C : Nat} {W W' : World} {v0 v1 v2 : Value} (h : W.cell? ⟨N, 1, none⟩ = some v0 ∧ W.cell? ⟨N, 2, none⟩ = some v1 ∧ W.cell? ⟨N, 3, none⟩ = some v2) (hc : Cg C W W') (hg : N ≠ C) : W'.cell? ⟨N, 1, none⟩ = some v0 ∧ W'.cell? ⟨N, 2, none⟩ = some v1 ∧ W'.cell? ⟨N, 3, none⟩ = some v2 :=
  ⟨cellCg h.1 hc hg, cellCg h.2.1 hc hg, cellCg h.2.2 hc hg⟩

set_option maxHeartbeats 1000000 in
theorem do_any (C : Nat) (b : Br.St) (s : Br.Se) (r : List Value) (a : Br.Ac) (w : World) (h : Bo w C (cL b s r) 66) (hk : a.k = 1 ∨ a.k = 2 ∨ a.k = 3) (hc : Br.chk b s a.t = 0) :
    Calls Try.prog 33 #[.pointer (some ⟨C, 0, none⟩), vA a] w fun e w' => e = .returned (.int .i64 (Br.step s b a).2) ∧ Bo w' C (cL (Br.step s b a).1 s r) 66 ∧ Cg C w w' := by
  obtain ⟨w1, w2, w3, w4, w5⟩ := Br.wraps hc
  have c1 := fun W (hW : Bo W C (cL b s r) 66) => wake_any C b s r _ a.t W hW
  have c2 := fun W (hW : Bo W C (cL b s r) 66) => allows_any C b s r _ W hW
  have c3 := fun W (hW : Bo W C (cL b s r) 66) => begin_any C b s r _ W hW w4
  have c4 := fun W (hW : Bo W C (cL b s r) 66) => end_any C b s r _ a.t a.p a.g W hW w1 w2 w3 w5
  have hC := h.lt
  have X0 := Bo.new w [.int .i64 a.k, .int .i64 a.t, .bool a.p, .bool a.g] 55
  have X1 := h.alloc (.cells #[.int .i64 a.k, .int .i64 a.t, .bool a.p, .bool a.g] 55)
  have C0 : Cg C w (w.alloc (.cells #[.int .i64 a.k, .int .i64 a.t, .bool a.p, .bool a.g] 55)) := Cg.alloc w _
  obtain ⟨N, hN⟩ : ∃ N, N = w.heap.size := ⟨_, rfl⟩
  rw [← hN] at X0 hC
  obtain ⟨W0, hW0⟩ : ∃ W0, W0 = w.alloc (.cells #[.int .i64 a.k, .int .i64 a.t, .bool a.p, .bool a.g] 55) := ⟨_, rfl⟩
  rw [← hW0] at X0 X1 C0
  have hne : N ≠ C := by omega
  have c1' := hidD (c1 _ X1.drew)
  have c2' := hidD (c2 _ X1)
  have c3' := hidD c3
  have c4' := hidD (c4 _ X1.drew)
  have VX0 := hidD X0
  have VX1 := hidD X1
  have VC := hidD C0
  have HNE := hidD hne
  clear X0 X1 C0 h c1 c2 c3 c4 w1 w2 w3 w4 w5 hc hC hne
  obtain ⟨K, t, p, g⟩ := a
  dsimp only at *
  rcases hk with rfl | rfl | rfl
  · rw [show Br.step s b ⟨1, t, p, g⟩ = (Br.tick b t, 0) from rfl]
    go_enter Try.func33, Try.ntmps33
    go_upto_region 1 with fail
    rw [← hN, ← hW0]
    clear hN hW0
    have p0 := VX0.out.cell 0 rfl
    have p1 := VX0.out.cell 1 rfl
    have p2 := VX0.out.cell 2 rfl
    have p3 := VX0.out.cell 3 rfl
    go_upto_region 3 with fail
    refine wp_region_held_drew (S := (fun w' => w'.cell? ⟨N, 1, none⟩ = some (.int .i64 t) ∧ w'.cell? ⟨N, 2, none⟩ = some (.bool p) ∧ w'.cell? ⟨N, 3, none⟩ = some (.bool g))) (by kernel_rfl) (by exact ⟨p1, p2, p3⟩) (fun hHeld => ?_)
    refine wpAnyH_take (i := 0) (oi := { dst := some 9, op := Op.move (Operand.tmp 0), type := _, pos := _, after := _, guard := _ }) (v := ?_) rfl (by kernel_rfl) (by kernel_rfl) (by kernel_rfl) (fun _ _ _ h => h) (Or.inl ⟨by rfl, ?_⟩) (by assumption) ?_
    rotate_left
    · intro w hSw
      (try dsimp only at hSw)
      go_simp
      all_goals with_reducible rfl
    try simp only [Act.put, List.setIfInBounds_toArray, List.set_cons_zero, List.set_cons_succ]
    refine wpAnyH_take (i := 1) (oi := { dst := some 10, op := Op.nilCheck (Operand.tmp 9), type := _, pos := _, after := _, guard := _ }) (v := ?_) rfl (by kernel_rfl) (by kernel_rfl) (by kernel_rfl) (fun _ _ _ h => h) (Or.inl ⟨by rfl, ?_⟩) (by assumption) ?_
    rotate_left
    · intro w hSw
      (try dsimp only at hSw)
      go_simp
      all_goals with_reducible rfl
    try simp only [Act.put, List.setIfInBounds_toArray, List.set_cons_zero, List.set_cons_succ]
    refine wpAnyH_take (i := 2) (oi := { dst := some 11, op := Op.fieldAddr 66 (Operand.tmp 10) 0, type := _, pos := _, after := _, guard := _ }) (v := ?_) rfl (by kernel_rfl) (by kernel_rfl) (by kernel_rfl) (fun _ _ _ h => h) (Or.inl ⟨by rfl, ?_⟩) (by assumption) ?_
    rotate_left
    · intro w hSw
      (try dsimp only at hSw)
      go_simp
      all_goals with_reducible rfl
    try simp only [Act.put, List.setIfInBounds_toArray, List.set_cons_zero, List.set_cons_succ]
    refine wpAnyH_take (i := 3) (oi := { dst := some 12, op := Op.fieldAddr 55 (Operand.tmp 3) 1, type := _, pos := _, after := _, guard := _ }) (v := ?_) rfl (by kernel_rfl) (by kernel_rfl) (by kernel_rfl) (fun _ _ _ h => h) (Or.inl ⟨by rfl, ?_⟩) (by assumption) ?_
    rotate_left
    · intro w hSw
      (try dsimp only at hSw)
      go_simp
      all_goals with_reducible rfl
    try simp only [Act.put, List.setIfInBounds_toArray, List.set_cons_zero, List.set_cons_succ]
    refine wpAnyH_take (i := 4) (oi := { dst := some 13, op := Op.load 3 (Operand.tmp 12), type := _, pos := _, after := _, guard := _ }) (v := ?_) rfl (by kernel_rfl) (by kernel_rfl) (by kernel_rfl) (fun _ _ _ h => h) (Or.inl ⟨by rfl, ?_⟩) (by assumption) ?_
    rotate_left
    · intro w hSw
      (try dsimp only at hSw)
      go_simp
      all_goals with_reducible rfl
    try simp only [Act.put, List.setIfInBounds_toArray, List.set_cons_zero, List.set_cons_succ]
    refine wpAnyH_ready (rs := [5]) (by kernel_rfl) (by simp) ?_
    refine AllReadyH.cons rfl (fun K hK => ?_) AllReadyH.nil
    go_simp
    go_wp2_with (go_at_call 24; with_reducible refine c1'.out.mono ?_; rintro e ww ⟨rfl, bb, cc⟩)
    refine hK.out _ _ ?_ (fun hHeld => ?_)
    · (try dsimp only)
      exact keepA (by assumption) (by assumption) HNE.out
    clear hK K
    refine wpAnyH_done (by kernel_rfl) ?_ _
    have bb' := hidD bb
    have cc' := hidD (VC.out.trans cc.undrew)
    clear bb cc
    go_wp2
    go_ret
    exact ⟨rfl, bb'.out, cc'.out⟩
  · cases ha : Br.allows b s with
    | true =>
      rw [show Br.step s b ⟨2, t, p, g⟩ = (Br.beg b, if b.m = 2 then 1 else 0) from by unfold Br.step; rw [if_neg (show ¬ (2 : Int) = 1 by decide), if_pos rfl, ha]; rfl]
      rw [ha] at c2'
      by_cases hm : b.m = 2
      · rw [if_pos hm]
        rw [decide_eq_true hm] at c3'
        go_enter Try.func33, Try.ntmps33
        go_upto_region 1 with fail
        rw [← hN, ← hW0]
        clear hN hW0
        have p0 := VX0.out.cell 0 rfl
        go_wp2_with fail
        with_reducible refine c2'.out.mono ?_
        rintro e w5 ⟨rfl, m, rfl⟩
        have c := c3'.out _ (VX1.out.drewN m)
        go_wp2_with fail
        with_reducible refine c.mono ?_
        rintro e w6 ⟨rfl, bb, cc⟩
        have bb' := hidD bb
        have cc' := hidD (VC.out.trans ((Cg.drewN _ m).trans cc))
        clear bb cc c
        go_wp2
        go_ret
        exact ⟨rfl, bb'.out, cc'.out⟩
      · rw [if_neg hm]
        rw [decide_eq_false hm] at c3'
        go_enter Try.func33, Try.ntmps33
        go_upto_region 1 with fail
        rw [← hN, ← hW0]
        clear hN hW0
        have p0 := VX0.out.cell 0 rfl
        go_wp2_with fail
        with_reducible refine c2'.out.mono ?_
        rintro e w5 ⟨rfl, m, rfl⟩
        have c := c3'.out _ (VX1.out.drewN m)
        go_wp2_with fail
        with_reducible refine c.mono ?_
        rintro e w6 ⟨rfl, bb, cc⟩
        have bb' := hidD bb
        have cc' := hidD (VC.out.trans ((Cg.drewN _ m).trans cc))
        clear bb cc c
        go_wp2
        go_ret
        exact ⟨rfl, bb'.out, cc'.out⟩
    | false =>
      rw [show Br.step s b ⟨2, t, p, g⟩ = (b, 2) from by unfold Br.step; rw [if_neg (show ¬ (2 : Int) = 1 by decide), if_pos rfl, ha]; rfl]
      rw [ha] at c2'
      go_enter Try.func33, Try.ntmps33
      go_upto_region 1 with fail
      rw [← hN, ← hW0]
      clear hN hW0
      have p0 := VX0.out.cell 0 rfl
      go_wp2_with fail
      with_reducible refine c2'.out.mono ?_
      rintro e w5 ⟨rfl, m, rfl⟩
      go_wp2
      go_ret
      exact ⟨rfl, VX1.out.drewN m, VC.out.trans (Cg.drewN _ m)⟩
  · rw [show Br.step s b ⟨3, t, p, g⟩ = (Br.fin b s t p g, 0) from rfl]
    go_enter Try.func33, Try.ntmps33
    go_upto_region 1 with fail
    rw [← hN, ← hW0]
    clear hN hW0
    have p0 := VX0.out.cell 0 rfl
    have p1 := VX0.out.cell 1 rfl
    have p2 := VX0.out.cell 2 rfl
    have p3 := VX0.out.cell 3 rfl
    go_upto_region 10 with fail
    refine wp_region_held_drew (S := (fun w' => w'.cell? ⟨N, 1, none⟩ = some (.int .i64 t) ∧ w'.cell? ⟨N, 2, none⟩ = some (.bool p) ∧ w'.cell? ⟨N, 3, none⟩ = some (.bool g))) (by kernel_rfl) (by exact ⟨p1, p2, p3⟩) (fun hHeld => ?_)
    refine wpAnyH_take (i := 0) (oi := { dst := some 28, op := Op.move (Operand.tmp 0), type := _, pos := _, after := _, guard := _ }) (v := ?_) rfl (by kernel_rfl) (by kernel_rfl) (by kernel_rfl) (fun _ _ _ h => h) (Or.inl ⟨by rfl, ?_⟩) (by assumption) ?_
    rotate_left
    · intro w hSw
      (try dsimp only at hSw)
      go_simp
      all_goals with_reducible rfl
    try simp only [Act.put, List.setIfInBounds_toArray, List.set_cons_zero, List.set_cons_succ]
    refine wpAnyH_take (i := 1) (oi := { dst := some 29, op := Op.nilCheck (Operand.tmp 28), type := _, pos := _, after := _, guard := _ }) (v := ?_) rfl (by kernel_rfl) (by kernel_rfl) (by kernel_rfl) (fun _ _ _ h => h) (Or.inl ⟨by rfl, ?_⟩) (by assumption) ?_
    rotate_left
    · intro w hSw
      (try dsimp only at hSw)
      go_simp
      all_goals with_reducible rfl
    try simp only [Act.put, List.setIfInBounds_toArray, List.set_cons_zero, List.set_cons_succ]
    refine wpAnyH_take (i := 2) (oi := { dst := some 30, op := Op.fieldAddr 66 (Operand.tmp 29) 0, type := _, pos := _, after := _, guard := _ }) (v := ?_) rfl (by kernel_rfl) (by kernel_rfl) (by kernel_rfl) (fun _ _ _ h => h) (Or.inl ⟨by rfl, ?_⟩) (by assumption) ?_
    rotate_left
    · intro w hSw
      (try dsimp only at hSw)
      go_simp
      all_goals with_reducible rfl
    try simp only [Act.put, List.setIfInBounds_toArray, List.set_cons_zero, List.set_cons_succ]
    refine wpAnyH_take (i := 3) (oi := { dst := some 31, op := Op.fieldAddr 55 (Operand.tmp 3) 1, type := _, pos := _, after := _, guard := _ }) (v := ?_) rfl (by kernel_rfl) (by kernel_rfl) (by kernel_rfl) (fun _ _ _ h => h) (Or.inl ⟨by rfl, ?_⟩) (by assumption) ?_
    rotate_left
    · intro w hSw
      (try dsimp only at hSw)
      go_simp
      all_goals with_reducible rfl
    try simp only [Act.put, List.setIfInBounds_toArray, List.set_cons_zero, List.set_cons_succ]
    refine wpAnyH_take (i := 4) (oi := { dst := some 32, op := Op.load 3 (Operand.tmp 31), type := _, pos := _, after := _, guard := _ }) (v := ?_) rfl (by kernel_rfl) (by kernel_rfl) (by kernel_rfl) (fun _ _ _ h => h) (Or.inl ⟨by rfl, ?_⟩) (by assumption) ?_
    rotate_left
    · intro w hSw
      (try dsimp only at hSw)
      go_simp
      all_goals with_reducible rfl
    try simp only [Act.put, List.setIfInBounds_toArray, List.set_cons_zero, List.set_cons_succ]
    refine wpAnyH_take (i := 5) (oi := { dst := some 33, op := Op.fieldAddr 55 (Operand.tmp 3) 2, type := _, pos := _, after := _, guard := _ }) (v := ?_) rfl (by kernel_rfl) (by kernel_rfl) (by kernel_rfl) (fun _ _ _ h => h) (Or.inl ⟨by rfl, ?_⟩) (by assumption) ?_
    rotate_left
    · intro w hSw
      (try dsimp only at hSw)
      go_simp
      all_goals with_reducible rfl
    try simp only [Act.put, List.setIfInBounds_toArray, List.set_cons_zero, List.set_cons_succ]
    refine wpAnyH_take (i := 6) (oi := { dst := some 34, op := Op.load 4 (Operand.tmp 33), type := _, pos := _, after := _, guard := _ }) (v := ?_) rfl (by kernel_rfl) (by kernel_rfl) (by kernel_rfl) (fun _ _ _ h => h) (Or.inl ⟨by rfl, ?_⟩) (by assumption) ?_
    rotate_left
    · intro w hSw
      (try dsimp only at hSw)
      go_simp
      all_goals with_reducible rfl
    try simp only [Act.put, List.setIfInBounds_toArray, List.set_cons_zero, List.set_cons_succ]
    refine wpAnyH_take (i := 7) (oi := { dst := some 35, op := Op.fieldAddr 55 (Operand.tmp 3) 3, type := _, pos := _, after := _, guard := _ }) (v := ?_) rfl (by kernel_rfl) (by kernel_rfl) (by kernel_rfl) (fun _ _ _ h => h) (Or.inl ⟨by rfl, ?_⟩) (by assumption) ?_
    rotate_left
    · intro w hSw
      (try dsimp only at hSw)
      go_simp
      all_goals with_reducible rfl
    try simp only [Act.put, List.setIfInBounds_toArray, List.set_cons_zero, List.set_cons_succ]
    refine wpAnyH_take (i := 8) (oi := { dst := some 36, op := Op.load 4 (Operand.tmp 35), type := _, pos := _, after := _, guard := _ }) (v := ?_) rfl (by kernel_rfl) (by kernel_rfl) (by kernel_rfl) (fun _ _ _ h => h) (Or.inl ⟨by rfl, ?_⟩) (by assumption) ?_
    rotate_left
    · intro w hSw
      (try dsimp only at hSw)
      go_simp
      all_goals with_reducible rfl
    try simp only [Act.put, List.setIfInBounds_toArray, List.set_cons_zero, List.set_cons_succ]
    refine wpAnyH_ready (rs := [9]) (by kernel_rfl) (by simp) ?_
    refine AllReadyH.cons rfl (fun K hK => ?_) AllReadyH.nil
    go_simp
    go_wp2_with (go_at_call 27; with_reducible refine c4'.out.mono ?_; rintro e ww ⟨rfl, bb, cc⟩)
    refine hK.out _ _ ?_ (fun hHeld => ?_)
    · (try dsimp only)
      exact keepA (by assumption) (by assumption) HNE.out
    clear hK K
    refine wpAnyH_done (by kernel_rfl) ?_ _
    have bb' := hidD bb
    have cc' := hidD (VC.out.trans cc.undrew)
    clear bb cc
    go_wp2
    go_ret
    exact ⟨rfl, bb'.out, cc'.out⟩
end Go.Proofs.Ytkfkhhhoboenkaa
