/- backoff: the pauses, handed out. -/
import Derived.Test.YtekldjfmdapgpaaBkB
namespace Go.Proofs.Ytekldjfmdapgpaa
open Go.RowKit Go.Shelf
attribute [local go_sem] Oper.semAt_some
set_option linter.unusedVariables false
set_option maxRecDepth 20000

/-- A pause, as a value. -/
abbrev vP (s : Bf.Se) (d : Int) : Value := .agg #[.int .i64 s.b, .int .i64 s.p, .int .i64 s.j, .int .i64 d]
abbrev pL (s : Bf.Se) (d : Int) : List Value := [.int .i64 s.b, .int .i64 s.p, .int .i64 s.j, .int .i64 d]
theorem Bf.step {s : Bf.Se} (h : Bf.sets s = true) (k : Nat) : IntKind.i64.wrap (2 * Bf.d s k) = 2 * Bf.d s k ∧ (if s.p < 2 * Bf.d s k then s.p else 2 * Bf.d s k) = Bf.d s (k + 1) := by
  obtain ⟨a, b⟩ := Bf.d_num h k
  refine ⟨wrap_ok (by omega) (by omega), ?_⟩
  show _ = if Bf.d s k + Bf.d s k ≤ s.p then Bf.d s k + Bf.d s k else s.p
  split <;> split <;> omega

theorem grown_set (W : World) (b k : Nat) (v : Value) : W.grownBy (W.setCell ⟨b, k, none⟩ v) (some b) :=
  ⟨rfl, rfl, rfl, by simp, fun g _ hne => heap_setCell_other W ⟨b, k, none⟩ g v (fun e => hne (by rw [e]))⟩

set_option maxHeartbeats 2000000 in
theorem pauses1_v (n l Br B1 B2 : Nat) (s : Bf.Se) (N : Nat) (hN2 : N ≤ 64) (D : Nat → Int) (hD0 : D 0 = s.b) (hD : ∀ k, IntKind.i64.wrap (2 * D k) = 2 * D k ∧ (if s.p < 2 * D k then s.p else 2 * D k) = D (k + 1)) (J : Nat → World → Prop) (W : World) (hJ : Up W.heap.size J)
    (hY : ∀ k W1, k < N → J k W1 → YieldAt Fence.wide (n - 1) Try.prog l #[.int .i64 (k : Int), vP s (D k)] W1 fun e W' => e = .returned (.bool true) ∧ J (k + 1) W' ∧ Kb Br W1 W')
    (hB1 : Bo W B1 (sL s) 23) (hB2 : Bo W B2 [.int .i64 (N : Int)] 3) (hBr : Br < W.heap.size) (h0 : J 0 W) :
    CallsIn Fence.wide n Try.prog 30 #[.func (.yield l) #[] #[], .pointer (some ⟨B1, 0, none⟩), .pointer (some ⟨B2, 0, none⟩)] W fun e W' => (∃ v, e = .returned v) ∧ J N W' := by
  have HJ := hidD hJ
  have HY := hidD hY
  have HD := hidD hD
  obtain ⟨B, P, Q⟩ := s
  dsimp only at *
  have q0 := hB1.cell 0 rfl
  have q1 := hB1.cell 1 rfl
  have q2 := hB1.cell 2 rfl
  have r0 := hB2.cell 0 rfl
  have L1 := hB1.lt
  have L2 := hB2.lt
  have X0 := hidD (Bo.new W [.int .i64 B, .int .i64 P, .int .i64 Q, .int .i64 B] 53)
  have J0 := hidD (hJ 0 W (W.alloc (.cells [.int .i64 B, .int .i64 P, .int .i64 Q, .int .i64 B].toArray 53)) none h0 (World.grownBy_alloc W _ none) (fun r e => by cases e))
  have HD0 := hidD hD0
  clear hJ hY hD h0 hB1 hB2 hD0
  refine callsIn_of_wp Try.func30 rfl trivial ?_ rfl
  simp only [Try.ntmps30, List.size_toArray, List.length_cons, List.length_nil, Nat.reduceAdd, Nat.reduceSub, Array.replicate_succ, Array.replicate_zero, List.push_toArray, List.append_toArray, List.nil_append, List.cons_append]
  gi_wp2
  gi_loopw [11] (fun i wr => ∃ k : Nat, k ≤ N ∧ i = .int .i64 k ∧ Hid (J k wr ∧ Bo wr W.heap.size [.int .i64 B, .int .i64 P, .int .i64 Q, .int .i64 (D k)] 53)) (fun i _ => N - (intOf i).toNat)
  case atStart => exact ⟨0, Nat.zero_le _, rfl, hidD ⟨J0.out, by rw [HD0.out]; exact X0.out⟩⟩
  case round =>
    clear X0 J0 HD0 q0 q1 q2 r0
    obtain ⟨k, hk, rfl, hI⟩ := hrel
    by_cases hlt : k < N
    · obtain ⟨j1, j2⟩ := hI.out
      have p0 := j2.cell 0 rfl
      have p1 := j2.cell 1 rfl
      have p2 := j2.cell 2 rfl
      have p3 := j2.cell 3 rfl
      have f3 := j2.frozen 3
      obtain ⟨y1, y2⟩ := HD.out k
      have Y2 := hidD y2
      obtain ⟨fn, tmps, assign, body, hy, hR⟩ := HY.out k wr hlt j1
      have J2 := hidD j2
      have HL := hidD hlt
      have hi : (k : Int) < (N : Int) := by omega
      have ht : decide ((k : Int) < (N : Int)) = true := decide_eq_true hi
      clear hI j1 j2 y2 HD hk
      obtain ⟨z, hz⟩ : ∃ z, z = D (k + 1) := ⟨_, rfl⟩
      rw [← hz] at Y2
      have HZ := hidD hz
      clear hz
      generalize D k = y at *
      unfold vP at hy
      dsimp only at hy
      gi_wp2
      refine ⟨fun h => (by cases h), ?_⟩
      refine RoundIn.mono hR ?_
      rintro e W3 ⟨rfl, j3, k3⟩
      have x3 := hidD (k3.bo (by omega) J2.out)
      have hp0 := x3.out.cell 1 rfl
      have hp3 := x3.out.cell 3 rfl
      have hf3 := x3.out.frozen 3
      have JN := hidD (HJ.out (k + 1) W3 (W3.setCell ⟨W.heap.size, 3, none⟩ (.int .i64 z)) (some W.heap.size) j3 (grown_set W3 W.heap.size 3 _) (fun r e => by cases e; exact Nat.le_refl _))
      have XN := hidD (x3.out.set 3 (.int .i64 z))
      have y3 := Y2.out
      clear p0 p1 p2 p3 f3 hR hy J2 x3 j3 k3 HY Y2
      by_cases hc : P < 2 * y
      · rw [if_pos hc] at y3
        subst y3
        gi_wp2
        exact ⟨⟨k + 1, HL.out, by go_num, hidD ⟨JN.out, by rw [← HZ.out]; exact XN.out⟩⟩, by have := HL.out; simp [intOf]; omega⟩
      · rw [if_neg hc] at y3
        subst y3
        gi_wp2
        exact ⟨⟨k + 1, HL.out, by go_num, hidD ⟨JN.out, by rw [← HZ.out]; exact XN.out⟩⟩, by have := HL.out; simp [intOf]; omega⟩
    · have hke : k = N := by omega
      subst hke
      obtain ⟨j1, j2⟩ := hI.out
      have J1 := hidD j1
      clear hI j1 j2 HD HY
      gi_wp2
      go_end0
      exact ⟨⟨_, rfl⟩, J1.out⟩

theorem pauses_any (s : Bf.Se) (n : Int) (w : World) : Calls Try.prog 26 #[vS s, .int .i64 n] w fun e w' =>
    e = .returned (.func (.func 30) #[] #[.pointer (some ⟨w.heap.size, 0, none⟩), .pointer (some ⟨w.heap.size + 1, 0, none⟩)]) ∧ w' = (w.alloc (.cells (sL s).toArray 23)).alloc (.cells [Value.int .i64 n].toArray 3) := by
  go_enter Try.func26, Try.ntmps26
  go_wp2
  go_ret
  exact ⟨rfl, rfl⟩

/-- Rounds over the pauses. -/
theorem range_pauses {n : Nat} {g : Operand} {p q : Tmp} {assign body : Code} {Q : Exit → Act → World → Prop} {a : Act} {w : World} (s : Bf.Se) (hs : Bf.sets s = true) (N B1 B2 Br : Nat) (h1 : 1 ≤ n) (hN : N ≤ 64)
    (hg : a.eval g = .func (.func 30) #[] #[.pointer (some ⟨B1, 0, none⟩), .pointer (some ⟨B2, 0, none⟩)])
    (hB1 : Bo w B1 (sL s) 23) (hB2 : Bo w B2 [.int .i64 (N : Int)] 3) (hBr : Br < w.heap.size)
    (I : Nat → World → Prop) (hI : Up w.heap.size I) (h0 : I 0 w)
    (hround : ∀ (l k : Nat) (W : World), k < N → I k W → w.heap.size ≤ l → (∃ r, W.heap[l]? = some (.loop r)) →
      assign.wpIn (Fence.wide.inRound l) (n - 1 - 1) Try.prog (Exit.then (fun a1 W1 => KeepsFrom w.heap.size W W1 ∧ Kb Br W W1 ∧
        ∀ (o : Loop) (X : World), X = W1.putObj l (.loop o) → body.wpIn (Fence.wide.inRound l) (n - 1 - 1) Try.prog (roundEnds w.heap.size Br I (k + 1) X) a1 X) (fun _ _ _ => False))
        { tmps := (a.tmps.setIfInBounds p (.int .i64 (k : Int))).setIfInBounds q (vP s (Bf.d s k)), defers := [] } W)
    (hdone : ∀ (D : Nat) (W : World), w.heap.size ≤ D → I N W → W.heap[D]? = some (.deferred (some [])) → Q .normal { a with defers := { target := .collected D, args := #[] } :: a.defers } W) :
    (Code.rangeFunc g #[p, q] assign body).wpIn Fence.wide n Try.prog Q a w := by
  refine range_own rfl h1 (gf := 30) (lb := #[.pointer (some ⟨B1, 0, none⟩), .pointer (some ⟨B2, 0, none⟩)]) hg trivial (fun _ _ => rfl)
    (fun k => #[.int .i64 (k : Int), vP s (Bf.d s k)]) N Br (fun _ => rfl) ?_ I hI h0 (fun l k W hk hi hl hr => by have := hround l k W hk hi hl hr; simpa using this) hdone
  intro l J W hW hJ hY hJ0
  exact pauses1_v (n - 1) l Br B1 B2 s N hN (Bf.d s) rfl (Bf.step hs) J W hJ hY (hB1.below hW) (hB2.below hW) (Nat.lt_of_lt_of_le hBr hW.size) hJ0
end Go.Proofs.Ytekldjfmdapgpaa
