/- outlier: Tick, Ripe, Eject. -/
import Derived.Test.YtfjcilkllgaimaaEE
namespace Go.Proofs.Ytfjcilkllgaimaa
open Go.RowKit
set_option maxRecDepth 20000
set_option linter.unusedVariables false

theorem ret_cell1 {fn : Func} {k m : Nat} (h : fn.results = #[.cell k 23, .tmp m]) {W : World} {tmps : Array Value} {b : Nat} {x0 x1 x2 x3 x4 x5 x6 : Value} (ht : tmps.getD k undef = .pointer (some ⟨b, 0, none⟩))
    (hB : Bo W b [x0, x1, x2, x3, x4, x5, x6] 23) : (results fn tmps).run Try.prog W = .ok (.tuple #[.agg #[x0, x1, x2, x3, x4, x5, x6], tmps.getD m undef]) W := by
  have h0 := hB.cell 0 rfl
  have h1 := hB.cell 1 rfl
  have h2 := hB.cell 2 rfl
  have h3 := hB.cell 3 rfl
  have h4 := hB.cell 4 rfl
  have h5 := hB.cell 5 rfl
  have h6 := hB.cell 6 rfl
  clear hB
  rw [Array.getD_eq_getD_getElem?] at ht
  simp [results, h]
  go_simp
/-- What is known, stored. -/
abbrev put7 (w : World) (b : Nat) (x : Ou.St) : World := ((((((w.setCell ⟨b, 0, none⟩ (.int .i64 x.r)).setCell ⟨b, 1, none⟩ (.int .i64 x.g)).setCell ⟨b, 2, none⟩ (.int .i64 x.b)).setCell ⟨b, 3, none⟩ (.int .i64 x.n)).setCell ⟨b, 4, none⟩ (.int .i64 x.s)).setCell ⟨b, 5, none⟩ (.int .i64 x.u)).setCell ⟨b, 6, none⟩ (.bool x.o)
theorem put7_bo {w : World} {b : Nat} {y : Ou.St} {T : TypeId} (x : Ou.St) (h : Bo w b (oL y) T) : Bo (put7 w b x) b (oL x) T := ((((((h.set 0 _).set 1 _).set 2 _).set 3 _).set 4 _).set 5 _).set 6 _
theorem put7_cg (w : World) (b : Nat) (x : Ou.St) : Cg b w (put7 w b x) := ((((((Cg.set w 0 _).trans (Cg.set _ 1 _)).trans (Cg.set _ 2 _)).trans (Cg.set _ 3 _)).trans (Cg.set _ 4 _)).trans (Cg.set _ 5 _)).trans (Cg.set _ 6 _)

theorem Ou.long_range {s : Ou.Se} {n : Int} (hs : Ou.sets s = true) (h0 : 0 ≤ n) (h1 : n ≤ 1000) : 0 ≤ s.b * n ∧ s.b * n ≤ 1048576000 ∧ 0 ≤ Ou.long n s ∧ Ou.long n s ≤ 1048576 ∧ Ou.long n s ≤ s.x := by
  obtain ⟨_, b0, b1, x0, x1, _⟩ := Ou.sets_iff.1 hs
  obtain ⟨m0, m1⟩ := mul_range (show 0 ≤ s.b by omega) b1 h0 h1
  refine ⟨m0, by omega, ?_⟩
  unfold Ou.long
  split
  · exact ⟨m0, by omega, by omega⟩
  · exact ⟨by omega, by omega, Int.le_refl _⟩
theorem Ou.wraps {o : Ou.St} {s : Ou.Se} {t : Int} (h : Ou.chk o s t = 0) : (IntKind.i64.wrap (o.r + 1) = o.r + 1 ∧ IntKind.i64.wrap (o.g + 1) = o.g + 1 ∧ IntKind.i64.wrap (o.b + 1) = o.b + 1 ∧ IntKind.i64.wrap (o.n + 1) = o.n + 1) ∧
    (IntKind.i64.wrap (o.g + o.b) = o.g + o.b ∧ IntKind.i64.wrap (1000 * o.b) = 1000 * o.b ∧ IntKind.i64.wrap (s.m * (o.g + o.b)) = s.m * (o.g + o.b)) ∧
    IntKind.i64.wrap (s.b * Ou.up o.n 1000) = s.b * Ou.up o.n 1000 ∧ IntKind.i64.wrap (t + Ou.long (Ou.up o.n 1000) s) = t + Ou.long (Ou.up o.n 1000) s := by
  obtain ⟨h1, h2, h3, h4⟩ := Ou.chk_zero h
  obtain ⟨⟨_, _, m0, m1, _, _⟩, _⟩ := Ou.sets_iff.1 h1
  obtain ⟨⟨_, _, _, _, _, _⟩, _, _, _, _, _, _⟩ := Ou.may_iff.1 h4
  obtain ⟨u0, u1⟩ := Ou.up_range (n := o.n) (c := 1000) (by omega) (by omega)
  obtain ⟨_, _, _, _, _⟩ := Ou.long_range h1 u0 u1
  obtain ⟨k0, k1⟩ := mul_range (show 0 ≤ s.m by omega) m1 (show 0 ≤ o.g + o.b by omega) (show o.g + o.b ≤ 2097152 by omega)
  refine ⟨⟨wrap_ok ?_ ?_, wrap_ok ?_ ?_, wrap_ok ?_ ?_, wrap_ok ?_ ?_⟩, ⟨wrap_ok ?_ ?_, wrap_ok ?_ ?_, wrap_ok ?_ ?_⟩, wrap_ok ?_ ?_, wrap_ok ?_ ?_⟩ <;> omega

set_option maxHeartbeats 800000 in
theorem otick_any (o : Ou.St) (s : Ou.Se) (t : Int) (w : World) : Calls Try.prog 15 #[vO o, vS s, .int .i64 t] w fun e w' => e = .returned (.tuple #[vO (Ou.tickR o s t), .int .i64 (Ou.chk o s t)]) ∧ Below w.heap.size w w' := by
  have c1 := fun W => ocheck_any o s t W
  have c2 := fun B W (h : Bo W B (pL o s) 54) => wakeO_any B o s _ t W h
  obtain ⟨W0, hW0, B0, B1, B2, HB, HS⟩ := three_boxes w (oL o) (sL s) (oL Ou.zero) 23 25 23
  have HC0 : Hid (Ou.chk o s t = 0 → Ou.tickR o s t = Ou.wake o t) := hidD (fun h => if_pos h)
  have HC1 : Hid (¬ Ou.chk o s t = 0 → Ou.tickR o s t = Ou.zero) := hidD (fun h => if_neg h)
  generalize Ou.tickR o s t = z at *
  generalize Ou.wake o t = y at *
  generalize Ou.chk o s t = k at *
  simp only [oL, sL, Ou.zero] at hW0
  obtain ⟨N, hN⟩ : ∃ N, N = w.heap.size := ⟨_, rfl⟩
  rw [← hN] at B0 B1 B2 HB HS ⊢
  have HN := hidD hN
  go_enter Try.func15, Try.ntmps15
  go_wp2_with fail
  rw [← hN, ← hW0]
  clear hN hW0
  with_reducible refine (c1 _).mono ?_
  rintro e w1 ⟨rfl, h1⟩
  have X0 := B0.below h1
  have X1 := B1.below h1
  have hb1 : Below N w w1 := below_on HB (by omega) h1
  have X2 := B2.below h1
  have p0 := X0.cell 0 rfl
  have p1 := X0.cell 1 rfl
  have p2 := X0.cell 2 rfl
  have p3 := X0.cell 3 rfl
  have p4 := X0.cell 4 rfl
  have p5 := X0.cell 5 rfl
  have p6 := X0.cell 6 rfl
  have q0 := X1.cell 0 rfl
  have q1 := X1.cell 1 rfl
  have q2 := X1.cell 2 rfl
  have q3 := X1.cell 3 rfl
  have q4 := X1.cell 4 rfl
  have q5 := X1.cell 5 rfl
  have q6 := X1.cell 6 rfl
  have r0 := X2.cell 0 rfl
  have r1 := X2.cell 1 rfl
  have r2 := X2.cell 2 rfl
  have r3 := X2.cell 3 rfl
  have r4 := X2.cell 4 rfl
  have r5 := X2.cell 5 rfl
  have r6 := X2.cell 6 rfl
  have f0 := X2.frozen 0
  have f1 := X2.frozen 1
  have f2 := X2.frozen 2
  have f3 := X2.frozen 3
  have f4 := X2.frozen 4
  have f5 := X2.frozen 5
  have f6 := X2.frozen 6
  have hz := h1.size
  by_cases hk : k = 0
  · subst hk
    have hZ := HC0.out rfl
    subst hZ
    have c : Calls _ _ _ _ _ := c2 _ _ (Bo.new w1 [.int .i64 o.r, .int .i64 o.g, .int .i64 o.b, .int .i64 o.n, .int .i64 o.s, .int .i64 o.u, .bool o.o, .int .i64 s.w, .int .i64 s.m, .int .i64 s.l, .int .i64 s.b, .int .i64 s.x, .int .i64 s.p, .int .i64 s.c] 54)
    have X3 := X2.alloc (.cells #[.int .i64 o.r, .int .i64 o.g, .int .i64 o.b, .int .i64 o.n, .int .i64 o.s, .int .i64 o.u, .bool o.o, .int .i64 s.w, .int .i64 s.m, .int .i64 s.l, .int .i64 s.b, .int .i64 s.x, .int .i64 s.p, .int .i64 s.c] 54)
    have hb2 := hb1.alloc (by omega) (.cells #[.int .i64 o.r, .int .i64 o.g, .int .i64 o.b, .int .i64 o.n, .int .i64 o.s, .int .i64 o.u, .bool o.o, .int .i64 s.w, .int .i64 s.m, .int .i64 s.l, .int .i64 s.b, .int .i64 s.x, .int .i64 s.p, .int .i64 s.c] 54)
    clear X0 X1 X2 B0 B1 B2 HB HC0 HC1 h1 c1 c2
    go_wp2_with fail
    with_reducible refine c.mono ?_
    rintro e w5 ⟨rfl, b5, c5⟩
    have X4 := c5.bo (by omega) X3
    have hb3 := c5.below (B := N) (by omega) (by simp; omega) hb2
    have S := hidD (put7_bo z X4)
    have SB := hidD ((put7_cg w5 (N + 1 + 1) z).below (B := N) (by omega) (by have := hb3.size; have := HN.out; omega) hb3)
    have t0 := b5.cell 0 rfl
    have t1 := b5.cell 1 rfl
    have t2 := b5.cell 2 rfl
    have t3 := b5.cell 3 rfl
    have t4 := b5.cell 4 rfl
    have t5 := b5.cell 5 rfl
    have t6 := b5.cell 6 rfl
    have r0 := X4.cell 0 rfl
    have r1 := X4.cell 1 rfl
    have r2 := X4.cell 2 rfl
    have r3 := X4.cell 3 rfl
    have r4 := X4.cell 4 rfl
    have r5 := X4.cell 5 rfl
    have r6 := X4.cell 6 rfl
    have f0 := X4.frozen 0
    have f1 := X4.frozen 1
    have f2 := X4.frozen 2
    have f3 := X4.frozen 3
    have f4 := X4.frozen 4
    have f5 := X4.frozen 5
    have f6 := X4.frozen 6
    clear X3 X4 hb2 hb3 hb1
    go_wp2_with fail
    refine bodyPost_ret (ret_cell1 rfl rfl S.out) rfl ?_
    exact ⟨rfl, SB.out⟩
  · have hZ := HC1.out hk
    subst hZ
    have hk1 : (k != 0) = true := by simp [hk]
    have S := hidD (put7_bo Ou.zero X2)
    have SB := hidD ((put7_cg w1 (N + 1 + 1) Ou.zero).below (B := N) (by omega) (by omega) hb1)
    clear X0 X1 X2 hb1 B0 B1 B2 HB HC0 HC1 hk h1 hz HS c1 c2
    go_wp2_with fail
    refine bodyPost_ret (ret_cell1 rfl rfl S.out) rfl ?_
    exact ⟨rfl, SB.out⟩

set_option maxHeartbeats 800000 in
theorem oripe_any (o : Ou.St) (s : Ou.Se) (t : Int) (w : World) : Calls Try.prog 11 #[vO o, vS s, .int .i64 t] w fun e w' => e = .returned (.tuple #[.bool (Ou.ripeR o s t), .int .i64 (Ou.chk o s t)]) ∧ Below w.heap.size w w' := by
  have c1 := fun W => ocheck_any o s t W
  have c2 := fun (hk : Ou.chk o s t = 0) B W (h : Bo W B (pL o s) 54) => ripeP_any B o s _ W h (Ou.wraps hk).2.1.1 (Ou.wraps hk).2.1.2.1 (Ou.wraps hk).2.1.2.2
  obtain ⟨W0, hW0, B0, B1, HB, HS⟩ := two_boxes w (oL o) (sL s) 23 25
  have HC0 : Hid (Ou.chk o s t = 0 → Ou.ripeR o s t = Ou.ripe o s) := hidD (fun h => if_pos h)
  have HC1 : Hid (¬ Ou.chk o s t = 0 → Ou.ripeR o s t = false) := hidD (fun h => if_neg h)
  generalize Ou.ripeR o s t = z at *
  generalize Ou.ripe o s = y at *
  generalize Ou.chk o s t = k at *
  simp only [oL, sL] at hW0
  obtain ⟨N, hN⟩ : ∃ N, N = w.heap.size := ⟨_, rfl⟩
  rw [← hN] at B0 B1 HB HS ⊢
  have HN := hidD hN
  go_enter Try.func11, Try.ntmps11
  go_wp2_with fail
  rw [← hN, ← hW0]
  clear hN hW0
  with_reducible refine (c1 _).mono ?_
  rintro e w1 ⟨rfl, h1⟩
  have X0 := B0.below h1
  have X1 := B1.below h1
  have hb1 : Below N w w1 := below_on HB (by omega) h1
  have p0 := X0.cell 0 rfl
  have p1 := X0.cell 1 rfl
  have p2 := X0.cell 2 rfl
  have p3 := X0.cell 3 rfl
  have p4 := X0.cell 4 rfl
  have p5 := X0.cell 5 rfl
  have p6 := X0.cell 6 rfl
  have q0 := X1.cell 0 rfl
  have q1 := X1.cell 1 rfl
  have q2 := X1.cell 2 rfl
  have q3 := X1.cell 3 rfl
  have q4 := X1.cell 4 rfl
  have q5 := X1.cell 5 rfl
  have q6 := X1.cell 6 rfl
  have hz := h1.size
  by_cases hk : k = 0
  · subst hk
    have hZ := HC0.out rfl
    subst hZ
    have c : Calls _ _ _ _ _ := c2 rfl _ _ (Bo.new w1 [.int .i64 o.r, .int .i64 o.g, .int .i64 o.b, .int .i64 o.n, .int .i64 o.s, .int .i64 o.u, .bool o.o, .int .i64 s.w, .int .i64 s.m, .int .i64 s.l, .int .i64 s.b, .int .i64 s.x, .int .i64 s.p, .int .i64 s.c] 54)
    have hb2 := hidD (hb1.alloc (by omega) (.cells #[.int .i64 o.r, .int .i64 o.g, .int .i64 o.b, .int .i64 o.n, .int .i64 o.s, .int .i64 o.u, .bool o.o, .int .i64 s.w, .int .i64 s.m, .int .i64 s.l, .int .i64 s.b, .int .i64 s.x, .int .i64 s.p, .int .i64 s.c] 54))
    clear X0 X1 B0 B1 HB HC0 HC1 h1 c1 c2
    go_wp2_with fail
    with_reducible refine c.mono ?_
    rintro e w5 ⟨rfl, m, rfl⟩
    go_wp2_with fail
    go_ret2
    exact ⟨rfl, below_drewN hb2.out m⟩
  · have hZ := HC1.out hk
    subst hZ
    have hk1 : (k != 0) = true := by simp [hk]
    have SB := hidD hb1
    clear X0 X1 hb1 B0 B1 HB HC0 HC1 hk h1 hz HS c1 c2
    go_wp2_with fail
    go_ret2
    exact ⟨rfl, SB.out⟩

set_option maxHeartbeats 1200000 in
theorem oeject_any (o : Ou.St) (s : Ou.Se) (t : Int) (w : World) : Calls Try.prog 13 #[vO o, vS s, .int .i64 t] w fun e w' => e = .returned (.tuple #[vO (Ou.ejR o s t), .int .i64 (Ou.ejE o s t)]) ∧ Below w.heap.size w w' := by
  have c1 := fun W => ocheck_any o s t W
  have c2 := hidD (fun (hk : Ou.chk o s t = 0) B W (h : Bo W B (pL o s) 54) => ejectP_any B o s _ t W h (Ou.wraps hk).1.2.2.2 (Ou.wraps hk).2.2.1 (Ou.wraps hk).2.2.2)
  obtain ⟨W0, hW0, B0, B1, B2, HB, HS⟩ := three_boxes w (oL o) (sL s) (oL Ou.zero) 23 25 23
  have HC0 : Hid (Ou.chk o s t = 0 → o.o = false → Ou.ejR o s t = Ou.eject o s t ∧ Ou.ejE o s t = 0) := hidD (fun h h2 => ⟨if_pos ⟨h, h2⟩, by unfold Ou.ejE; rw [if_pos h, h2]; rfl⟩)
  have HC2 : Hid (Ou.chk o s t = 0 → o.o = true → Ou.ejR o s t = Ou.zero ∧ Ou.ejE o s t = 9) := hidD (fun h h2 => ⟨if_neg (by rw [h2]; simp), by unfold Ou.ejE; rw [if_pos h, h2]; rfl⟩)
  have HC1 : Hid (¬ Ou.chk o s t = 0 → Ou.ejR o s t = Ou.zero ∧ Ou.ejE o s t = Ou.chk o s t) := hidD (fun h => ⟨if_neg (fun e => h e.1), if_neg h⟩)
  generalize Ou.ejR o s t = z at *
  generalize Ou.ejE o s t = ze at *
  generalize Ou.eject o s t = y at *
  generalize Ou.chk o s t = k at *
  obtain ⟨R, G, BD, NN, S0, U, Q⟩ := o
  simp only [oL, sL, Ou.zero] at hW0
  dsimp only at *
  obtain ⟨N, hN⟩ : ∃ N, N = w.heap.size := ⟨_, rfl⟩
  rw [← hN] at B0 B1 B2 HB HS ⊢
  have HN := hidD hN
  go_enter Try.func13, Try.ntmps13
  go_wp2_with fail
  rw [← hN, ← hW0]
  clear hN hW0
  with_reducible refine (c1 _).mono ?_
  rintro e w1 ⟨rfl, h1⟩
  have X0 := B0.below h1
  have X1 := B1.below h1
  have hb1 : Below N w w1 := below_on HB (by omega) h1
  have X2 := B2.below h1
  have p0 := X0.cell 0 rfl
  have p1 := X0.cell 1 rfl
  have p2 := X0.cell 2 rfl
  have p3 := X0.cell 3 rfl
  have p4 := X0.cell 4 rfl
  have p5 := X0.cell 5 rfl
  have p6 := X0.cell 6 rfl
  have q0 := X1.cell 0 rfl
  have q1 := X1.cell 1 rfl
  have q2 := X1.cell 2 rfl
  have q3 := X1.cell 3 rfl
  have q4 := X1.cell 4 rfl
  have q5 := X1.cell 5 rfl
  have q6 := X1.cell 6 rfl
  have r0 := X2.cell 0 rfl
  have r1 := X2.cell 1 rfl
  have r2 := X2.cell 2 rfl
  have r3 := X2.cell 3 rfl
  have r4 := X2.cell 4 rfl
  have r5 := X2.cell 5 rfl
  have r6 := X2.cell 6 rfl
  have f0 := X2.frozen 0
  have f1 := X2.frozen 1
  have f2 := X2.frozen 2
  have f3 := X2.frozen 3
  have f4 := X2.frozen 4
  have f5 := X2.frozen 5
  have f6 := X2.frozen 6
  have hz := h1.size
  by_cases hk : k = 0
  · subst hk
    cases Q
    · have X3 := hidD (X2.alloc (.cells #[.int .i64 R, .int .i64 G, .int .i64 BD, .int .i64 NN, .int .i64 S0, .int .i64 U, .bool false, .int .i64 s.w, .int .i64 s.m, .int .i64 s.l, .int .i64 s.b, .int .i64 s.x, .int .i64 s.p, .int .i64 s.c] 54))
      have Y3 := hidD (Bo.new w1 [.int .i64 R, .int .i64 G, .int .i64 BD, .int .i64 NN, .int .i64 S0, .int .i64 U, .bool false, .int .i64 s.w, .int .i64 s.m, .int .i64 s.l, .int .i64 s.b, .int .i64 s.x, .int .i64 s.p, .int .i64 s.c] 54)
      have hb2 := hidD (hb1.alloc (by omega) (.cells #[.int .i64 R, .int .i64 G, .int .i64 BD, .int .i64 NN, .int .i64 S0, .int .i64 U, .bool false, .int .i64 s.w, .int .i64 s.m, .int .i64 s.l, .int .i64 s.b, .int .i64 s.x, .int .i64 s.p, .int .i64 s.c] 54))
      have hs2 : Hid (N + 3 ≤ (w1.alloc (.cells #[.int .i64 R, .int .i64 G, .int .i64 BD, .int .i64 NN, .int .i64 S0, .int .i64 U, .bool false, .int .i64 s.w, .int .i64 s.m, .int .i64 s.l, .int .i64 s.b, .int .i64 s.x, .int .i64 s.p, .int .i64 s.c] 54)).heap.size) := hidD (by rw [World.size_alloc]; omega)
      have hne : Hid (N + 1 + 1 < w1.heap.size) := hidD (by omega)
      clear X0 X1 X2 B0 B1 B2 HB HC1 h1 c1 hb1 hz HS r0 r1 r2 r3 r4 r5 r6 f0 f1 f2 f3 f4 f5 f6
      go_upto_region 5 with fail
      generalize w1.heap.size = A at *
      generalize (w1.alloc (.cells #[.int .i64 R, .int .i64 G, .int .i64 BD, .int .i64 NN, .int .i64 S0, .int .i64 U, .bool false, .int .i64 s.w, .int .i64 s.m, .int .i64 s.l, .int .i64 s.b, .int .i64 s.x, .int .i64 s.p, .int .i64 s.c] 54)) = W3 at *
      clear p0 p1 p2 p3 p4 p5 p6 q0 q1 q2 q3 q4 q5 q6
      have y6 := Y3.out.cell 6 rfl
      obtain ⟨e1, e2⟩ := HC0.out (by first | trivial | rfl) (by first | trivial | rfl)
      subst e1 e2
      clear HC0 HC2
      have c := c2.out (by first | trivial | rfl) _ _ Y3.out
      go_wp2_with fail
      with_reducible refine c.mono ?_
      rintro e w5 ⟨rfl, b5, c5⟩
      have X4 := c5.bo (by have := hne.out; omega) X3.out
      have hb3 := c5.below (B := N) (by have := hne.out; omega) (by have := hs2.out; omega) hb2.out
      have S := hidD (put7_bo z X4)
      have SB := hidD ((put7_cg w5 (N + 1 + 1) z).below (B := N) (by omega) (by have := hb3.size; have := HN.out; omega) hb3)
      have t0 := b5.cell 0 rfl
      have t1 := b5.cell 1 rfl
      have t2 := b5.cell 2 rfl
      have t3 := b5.cell 3 rfl
      have t4 := b5.cell 4 rfl
      have t5 := b5.cell 5 rfl
      have t6 := b5.cell 6 rfl
      have r0 := X4.cell 0 rfl
      have r1 := X4.cell 1 rfl
      have r2 := X4.cell 2 rfl
      have r3 := X4.cell 3 rfl
      have r4 := X4.cell 4 rfl
      have r5 := X4.cell 5 rfl
      have r6 := X4.cell 6 rfl
      have f0 := X4.frozen 0
      have f1 := X4.frozen 1
      have f2 := X4.frozen 2
      have f3 := X4.frozen 3
      have f4 := X4.frozen 4
      have f5 := X4.frozen 5
      have f6 := X4.frozen 6
      clear X4 hb3 X3 Y3 hb2 hs2 hne c c2 b5 c5
      go_wp2_with fail
      refine bodyPost_ret (ret_cell1 rfl rfl S.out) rfl ?_
      exact ⟨rfl, SB.out⟩
    · have X3 := hidD (X2.alloc (.cells #[.int .i64 R, .int .i64 G, .int .i64 BD, .int .i64 NN, .int .i64 S0, .int .i64 U, .bool true, .int .i64 s.w, .int .i64 s.m, .int .i64 s.l, .int .i64 s.b, .int .i64 s.x, .int .i64 s.p, .int .i64 s.c] 54))
      have Y3 := hidD (Bo.new w1 [.int .i64 R, .int .i64 G, .int .i64 BD, .int .i64 NN, .int .i64 S0, .int .i64 U, .bool true, .int .i64 s.w, .int .i64 s.m, .int .i64 s.l, .int .i64 s.b, .int .i64 s.x, .int .i64 s.p, .int .i64 s.c] 54)
      have hb2 := hidD (hb1.alloc (by omega) (.cells #[.int .i64 R, .int .i64 G, .int .i64 BD, .int .i64 NN, .int .i64 S0, .int .i64 U, .bool true, .int .i64 s.w, .int .i64 s.m, .int .i64 s.l, .int .i64 s.b, .int .i64 s.x, .int .i64 s.p, .int .i64 s.c] 54))
      have hs2 : Hid (N + 3 ≤ (w1.alloc (.cells #[.int .i64 R, .int .i64 G, .int .i64 BD, .int .i64 NN, .int .i64 S0, .int .i64 U, .bool true, .int .i64 s.w, .int .i64 s.m, .int .i64 s.l, .int .i64 s.b, .int .i64 s.x, .int .i64 s.p, .int .i64 s.c] 54)).heap.size) := hidD (by rw [World.size_alloc]; omega)
      have hne : Hid (N + 1 + 1 < w1.heap.size) := hidD (by omega)
      clear X0 X1 X2 B0 B1 B2 HB HC1 h1 c1 hb1 hz HS r0 r1 r2 r3 r4 r5 r6 f0 f1 f2 f3 f4 f5 f6
      go_upto_region 5 with fail
      generalize w1.heap.size = A at *
      generalize (w1.alloc (.cells #[.int .i64 R, .int .i64 G, .int .i64 BD, .int .i64 NN, .int .i64 S0, .int .i64 U, .bool true, .int .i64 s.w, .int .i64 s.m, .int .i64 s.l, .int .i64 s.b, .int .i64 s.x, .int .i64 s.p, .int .i64 s.c] 54)) = W3 at *
      clear p0 p1 p2 p3 p4 p5 p6 q0 q1 q2 q3 q4 q5 q6
      have y6 := Y3.out.cell 6 rfl
      obtain ⟨e1, e2⟩ := HC2.out (by first | trivial | rfl) (by first | trivial | rfl)
      subst e1 e2
      clear HC0 HC2 c2
      have S := hidD (put7_bo Ou.zero X3.out)
      have SB := hidD ((put7_cg W3 (N + 1 + 1) Ou.zero).below (B := N) (by omega) (by have := hs2.out; omega) hb2.out)
      have r0 := X3.out.cell 0 rfl
      have r1 := X3.out.cell 1 rfl
      have r2 := X3.out.cell 2 rfl
      have r3 := X3.out.cell 3 rfl
      have r4 := X3.out.cell 4 rfl
      have r5 := X3.out.cell 5 rfl
      have r6 := X3.out.cell 6 rfl
      have f0 := X3.out.frozen 0
      have f1 := X3.out.frozen 1
      have f2 := X3.out.frozen 2
      have f3 := X3.out.frozen 3
      have f4 := X3.out.frozen 4
      have f5 := X3.out.frozen 5
      have f6 := X3.out.frozen 6
      clear X3 Y3 hb2 hs2 hne
      go_wp2_with fail
      refine bodyPost_ret (ret_cell1 rfl rfl S.out) rfl ?_
      exact ⟨rfl, SB.out⟩
  · obtain ⟨e1, e2⟩ := HC1.out hk
    subst e1 e2
    have hk1 : (ze != 0) = true := by simp [hk]
    have S := hidD (put7_bo Ou.zero X2)
    have SB := hidD ((put7_cg w1 (N + 1 + 1) Ou.zero).below (B := N) (by omega) (by omega) hb1)
    clear X0 X1 X2 hb1 B0 B1 B2 HB HC0 HC1 HC2 hk h1 hz HS c1 c2
    go_wp2_with fail
    refine bodyPost_ret (ret_cell1 rfl rfl S.out) rfl ?_
    exact ⟨rfl, SB.out⟩
end Go.Proofs.Ytfjcilkllgaimaa
