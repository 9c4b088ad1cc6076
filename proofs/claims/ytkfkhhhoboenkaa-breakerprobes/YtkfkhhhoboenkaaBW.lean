/- breaker: mayRun. -/
import Derived.Test.YtkfkhhhoboenkaaBV
namespace Go.Proofs.Ytkfkhhhoboenkaa
open Go.RowKit
set_option linter.unusedVariables false
set_option maxRecDepth 20000

def Br.kd (l : List Br.Ac) (k : Nat) : Bool := !(Br.inn (l.getD k Br.ac0).k 1 3)
def Br.pv (l : List Br.Ac) (k : Nat) : Int := if k = 0 then 0 else (l.getD (k - 1) Br.ac0).t
def Br.tk (l : List Br.Ac) (k : Nat) : Bool := !(Br.inn (l.getD k Br.ac0).t (Br.pv l k) 536870912)
def Br.kdE (l : List Br.Ac) : Bool := (List.range l.length).any (Br.kd l)
def Br.tkE (l : List Br.Ac) : Bool := (List.range l.length).any (Br.tk l)
def Br.runE (s : Br.Se) (l : List Br.Ac) : Int :=
  if Br.kdE l = true then 23 else if 512 < l.length then 3 else if Br.sets s = true ∧ Br.tkE l = false then 0 else 4

theorem kind_any (a : Br.Ac) (w : World) : Calls Try.prog 37 #[vA a] w fun e w' => e = .returned (.bool (!(Br.inn a.k 1 3))) ∧ Below w.heap.size w w' := by
  have c := fun W => within_any a.k 1 3 W
  have hb : ∀ o, Below w.heap.size w (w.alloc o) := fun o => (Below.refl _ _).alloc (Nat.le_refl _) o
  generalize Br.inn a.k 1 3 = r at *
  go_enter Try.func37, Try.ntmps37
  go_wp2_with fail
  with_reducible refine (c _).mono ?_
  rintro e w1 ⟨rfl, rfl⟩
  go_wp2
  go_ret
  exact ⟨rfl, hb _⟩

set_option maxHeartbeats 1000000 in
theorem astray_any (a : Br.Ac) (D : Nat) (p : Int) (w : World) (h : Bo w D [.int .i64 p] 3) : Calls Try.prog 38 #[vA a, .pointer (some ⟨D, 0, none⟩)] w fun e w' => e = .returned (.bool (!(Br.inn a.t p 536870912))) ∧ Bo w' D [.int .i64 a.t] 3 ∧ Cg D w w' := by
  have c := fun W => within_any a.t p 536870912 W
  have hD := h.lt
  have X0 := Bo.new w [.int .i64 a.k, .int .i64 a.t, .bool a.p, .bool a.g] 55
  have X1 := h.alloc (.cells #[.int .i64 a.k, .int .i64 a.t, .bool a.p, .bool a.g] 55)
  have C0 : Cg D w (w.alloc (.cells #[.int .i64 a.k, .int .i64 a.t, .bool a.p, .bool a.g] 55)) := Cg.alloc w _
  generalize Br.inn a.t p 536870912 = r at *
  obtain ⟨N, hN⟩ : ∃ N, N = w.heap.size := ⟨_, rfl⟩
  rw [← hN] at X0 hD
  obtain ⟨W0, hW0⟩ : ∃ W0, W0 = w.alloc (.cells #[.int .i64 a.k, .int .i64 a.t, .bool a.p, .bool a.g] 55) := ⟨_, rfl⟩
  rw [← hW0] at X0 X1 C0
  have VX0 := hidD X0
  have VX1 := hidD X1
  have VC := hidD C0
  clear X0 X1 C0 h
  go_enter Try.func38, Try.ntmps38
  go_upto_region 1 with fail
  rw [← hN, ← hW0]
  clear hN hW0
  have p1 := VX0.out.cell 1 rfl
  have q0 := VX1.out.cell 0 rfl
  have qf := VX1.out.frozen 0
  have Y := hidD (VX1.out.set 0 (.int .i64 a.t))
  have YC := hidD (VC.out.trans (Cg.set W0 0 (.int .i64 a.t)))
  have p2 := (VX0.out.other (show N ≠ D by omega) (k := 0) (.int .i64 a.t)).cell 1 rfl
  go_wp2_with fail
  with_reducible refine (c _).mono ?_
  rintro e w1 ⟨rfl, rfl⟩
  go_wp2
  go_ret
  exact ⟨rfl, Y.out, YC.out⟩

set_option maxHeartbeats 1000000 in
theorem mayRun_any (s : Br.Se) (v : Value) (l : List Br.Ac) (w : World) (hv : ASeg w v l) : Calls Try.prog 32 #[vS s, v] w fun e w' => e = .returned (.int .i64 (Br.runE s l)) ∧ Below w.heap.size w w' := by
  have hva := hv
  obtain ⟨a, cap, rfl, q1, q2, _, _⟩ := hva
  unfold maxLen at q2
  have ck : ∀ W, Below w.heap.size w W → Calls Try.prog 36 #[.slice a l.length cap, .func (.func 37) #[] #[]] W fun e w' => e = .returned (.bool (Br.kdE l)) ∧ ∃ k : Nat, Below W.heap.size W w' := fun W hW =>
    containsA0 37 (fun _ _ => rfl) (Br.kd l) (fun _ W' => Below W.heap.size W W') _ l W (hv.below hW) (Below.refl _ _) (fun k W' hk hj => ⟨(hv.below hW).below hj, (kind_any _ _).mono (by rintro e w' ⟨rfl, hb⟩; exact ⟨rfl, below_on hj hj.size hb⟩)⟩)
  have ca : ∀ W D, w.heap.size ≤ D → Below w.heap.size w W → Bo W D [.int .i64 0] 3 → Calls Try.prog 36 #[.slice a l.length cap, .func (.func 38) #[] #[.pointer (some ⟨D, 0, none⟩)]] W fun e w' => e = .returned (.bool (Br.tkE l)) ∧ ∃ k : Nat, Bo w' D [.int .i64 (Br.pv l k)] 3 ∧ Below w.heap.size w w' := fun W D hD hW hB =>
    containsA1 38 ⟨D, 0, none⟩ (fun _ _ => rfl) (Br.tk l) (fun k W' => Bo W' D [.int .i64 (Br.pv l k)] 3 ∧ Below w.heap.size w W') _ l W (hv.below hW) ⟨hB, hW⟩ (fun k W' hk hj => ⟨hv.below hj.2, (astray_any _ D _ _ hj.1).mono (by
      rintro e w' ⟨rfl, hb, hc⟩
      exact ⟨rfl, by rw [show Br.pv l (k + 1) = (l.getD k Br.ac0).t from by simp [Br.pv]]; exact hb, hc.below hD hj.2.size hj.2⟩)⟩)
  have cs := fun W => maySet_any s W
  have H1 : Hid (Br.kdE l = true → Br.runE s l = 23) := hidD (fun h => if_pos h)
  have H2 : Hid (Br.kdE l = false → 512 < l.length → Br.runE s l = 3) := hidD (fun h h2 => by unfold Br.runE; rw [h, if_neg (by decide), if_pos h2])
  have H3 : Hid (Br.kdE l = false → ¬ 512 < l.length → Br.runE s l = if Br.sets s = true ∧ Br.tkE l = false then 0 else 4) := hidD (fun h h2 => by unfold Br.runE; rw [h, if_neg (by decide), if_neg h2])
  generalize Br.runE s l = R at *
  generalize Br.kdE l = kb at *
  generalize Br.tkE l = tb at *
  generalize Br.sets s = sb at *
  have HCA := hidD ca
  have HCS := hidD cs
  have hB0 : Below w.heap.size w (w.alloc (.cells #[.int .i64 s.f, .int .i64 s.o, .int .i64 s.p] 25)) := (Below.refl _ _).alloc (Nat.le_refl _) _
  have X0 := Bo.new w [.int .i64 s.f, .int .i64 s.o, .int .i64 s.p] 25
  have c := ck _ hB0
  clear ck ca cs hv
  obtain ⟨N, hN⟩ : ∃ N, N = w.heap.size := ⟨_, rfl⟩
  obtain ⟨n, hn⟩ : ∃ n, n = l.length := ⟨_, rfl⟩
  rw [← hn] at c H2 H3 q1 HCA ⊢
  rw [← hN] at X0 hB0 HCA ⊢
  clear hn
  obtain ⟨W0, hW0⟩ : ∃ W0, W0 = w.alloc (.cells #[.int .i64 s.f, .int .i64 s.o, .int .i64 s.p] 25) := ⟨_, rfl⟩
  have hs0 : N < W0.heap.size := by rw [hW0]; simp; omega
  rw [← hW0] at X0 hB0 c
  go_enter Try.func32, Try.ntmps32
  go_wp2_with fail
  rw [← hN, ← hW0]
  clear hN hW0
  with_reducible refine c.mono ?_
  rintro e w1 ⟨rfl, _, b1⟩
  have hB1 := hidD (below_on hB0 (by omega) b1)
  have X1 := hidD (X0.below b1)
  have hs1 := hidD (Nat.lt_of_lt_of_le hs0 b1.size)
  clear c X0 hB0 b1 hs0
  cases kb
  case true =>
    have e1 := H1.out (by first | rfl | trivial)
    subst e1
    go_wp2
    go_ret
    exact ⟨rfl, hB1.out⟩
  by_cases hlen : 512 < n
  · have e1 := H2.out (by first | rfl | trivial) hlen
    subst e1
    have hl2 : (512 : Int) < (n : Int) := by omega
    go_wp2
    go_ret
    exact ⟨rfl, hB1.out⟩
  have e1 := H3.out (by first | rfl | trivial) hlen
  have hl2 : ¬ (512 : Int) < (n : Int) := by omega
  clear H1 H2 H3
  go_upto_region 7 with fail
  have Y := Bo.new w1 [.int .i64 0] 3
  have hB2 := hB1.out.alloc (by have := hs1.out; omega) (.cells #[.int .i64 0] 3)
  have X2 := X1.out.alloc (.cells #[.int .i64 0] 3)
  have hs2 : N < w1.heap.size := hs1.out
  have hs3 : (w1.alloc (.cells #[.int .i64 0] 3)).heap.size = w1.heap.size + 1 := by simp
  clear X1 hB1 hs1
  generalize w1.alloc (.cells #[.int .i64 0] 3) = W2 at *
  generalize w1.heap.size = D at *
  have p0 := X2.cell 0 rfl
  have p1 := X2.cell 1 rfl
  have p2 := X2.cell 2 rfl
  have VY := hidD Y
  have VB := hidD hB2
  clear X2 Y hB2
  go_wp2_with fail
  with_reducible refine (HCS.out _).mono ?_
  rintro e w3 ⟨rfl, b3⟩
  have Y3 := hidD (VY.out.below b3)
  have B3 := hidD (below_on VB.out (by omega) b3)
  clear VY VB b3 p0 p1 p2
  cases sb
  · rw [if_neg (by simp)] at e1
    subst e1
    go_wp2
    go_ret
    exact ⟨rfl, B3.out⟩
  · have c := HCA.out w3 D (Nat.le_of_lt hs2) B3.out Y3.out
    go_wp2_with fail
    with_reducible refine c.mono ?_
    rintro e w4 ⟨rfl, _, _, b4⟩
    have B4 := hidD b4
    clear b4 c HCA HCS
    cases tb
    · rw [if_pos (by simp)] at e1
      subst e1
      go_wp2
      go_ret
      exact ⟨rfl, B4.out⟩
    · rw [if_neg (by simp)] at e1
      subst e1
      go_wp2
      go_ret
      exact ⟨rfl, B4.out⟩
end Go.Proofs.Ytkfkhhhoboenkaa
