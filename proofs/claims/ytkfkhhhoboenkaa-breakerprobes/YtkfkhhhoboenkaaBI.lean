/- breaker: Begin. -/
import Derived.Test.YtkfkhhhoboenkaaBH
namespace Go.Proofs.Ytkfkhhhoboenkaa
open Go.RowKit
set_option maxRecDepth 20000
set_option linter.unusedVariables false

set_option maxHeartbeats 400000 in
theorem bbegin_any (b : Br.St) (s : Br.Se) (t : Int) (w : World) : Calls Try.prog 13 #[vB b, vS s, .int .i64 t] w fun e w' => e = .returned (.tuple #[vB (Br.begR b s t), .bool (Br.begP b s t), .int .i64 (Br.begE b s t)]) ∧ Below w.heap.size w w' := by
  have c1 := fun W => bcheck_any b s t W
  have c2 := fun B W (h : Bo W B (cL b s []) 58) => allows_any B b s [] _ W h
  have c3 := fun (hk : Br.chk b s t = 0) B W (h : Bo W B (cL b s []) 58) => begin_any B b s [] _ W h (Br.wraps hk).2.2.2.1
  obtain ⟨W0, hW0, B0, B1, B2, HB, HS⟩ := three_boxes w (bL b) (sL s) (bL Br.zero) 23 25 23
  have HC0 : Hid (Br.chk b s t = 0 → Br.allows b s = true → Br.begR b s t = Br.beg b ∧ Br.begP b s t = decide (b.m = 2) ∧ Br.begE b s t = 0) := hidD (fun h h2 => by unfold Br.begR Br.begP Br.begE; rw [if_pos ⟨h, h2⟩, if_pos ⟨h, h2⟩, if_pos h, if_pos h2]; exact ⟨rfl, rfl, rfl⟩)
  have HC2 : Hid (Br.chk b s t = 0 → Br.allows b s = false → Br.begR b s t = Br.zero ∧ Br.begP b s t = false ∧ Br.begE b s t = 9) := hidD (fun h h2 => by unfold Br.begR Br.begP Br.begE; rw [h2, if_neg (fun e => by cases e.2), if_neg (fun e => by cases e.2), if_pos h, if_neg (by decide)]; exact ⟨rfl, rfl, rfl⟩)
  have HC1 : Hid (¬ Br.chk b s t = 0 → Br.begR b s t = Br.zero ∧ Br.begP b s t = false ∧ Br.begE b s t = Br.chk b s t) := hidD (fun h => by unfold Br.begR Br.begP Br.begE; rw [if_neg (fun e => h e.1), if_neg (fun e => h e.1), if_neg h]; exact ⟨rfl, rfl, rfl⟩)
  generalize Br.begR b s t = z at *
  generalize Br.begP b s t = zp at *
  generalize Br.begE b s t = ze at *
  generalize Br.beg b = y at *
  generalize Br.allows b s = al at *
  generalize decide (b.m = 2) = dm at *
  generalize Br.chk b s t = k at *
  simp only [bL, sL, Br.zero] at hW0
  obtain ⟨N, hN⟩ : ∃ N, N = w.heap.size := ⟨_, rfl⟩
  rw [← hN] at B0 B1 B2 HB HS ⊢
  have HN := hidD hN
  go_enter Try.func13, Try.ntmps13
  go_wp2_with fail
  rw [← hN, ← hW0]
  clear hN hW0
  with_reducible refine (c1 _).mono ?_
  rintro e w1 ⟨rfl, h1⟩
  have X0 := B0.below h1
  have X1 := B1.below h1
  have hb1 : Below N w w1 := below_on HB (by omega) h1
  have X2 := B2.below h1
  have p0 := X0.cell 0 rfl
  have p1 := X0.cell 1 rfl
  have p2 := X0.cell 2 rfl
  have p3 := X0.cell 3 rfl
  have p4 := X0.cell 4 rfl
  have q0 := X1.cell 0 rfl
  have q1 := X1.cell 1 rfl
  have q2 := X1.cell 2 rfl
  have r0 := X2.cell 0 rfl
  have r1 := X2.cell 1 rfl
  have r2 := X2.cell 2 rfl
  have r3 := X2.cell 3 rfl
  have r4 := X2.cell 4 rfl
  have f0 := X2.frozen 0
  have f1 := X2.frozen 1
  have f2 := X2.frozen 2
  have f3 := X2.frozen 3
  have f4 := X2.frozen 4
  have hz := h1.size
  by_cases hk : k = 0
  · subst hk
    have c : Calls _ _ _ _ _ := c2 _ _ (Bo.new w1 [.int .i64 b.m, .int .i64 b.f, .int .i64 b.u, .int .i64 b.p, .int .i64 b.w, .int .i64 s.f, .int .i64 s.o, .int .i64 s.p] 58)
    have X3 := X2.alloc (.cells #[.int .i64 b.m, .int .i64 b.f, .int .i64 b.u, .int .i64 b.p, .int .i64 b.w, .int .i64 s.f, .int .i64 s.o, .int .i64 s.p] 58)
    have Y3 := hidD (Bo.new w1 [.int .i64 b.m, .int .i64 b.f, .int .i64 b.u, .int .i64 b.p, .int .i64 b.w, .int .i64 s.f, .int .i64 s.o, .int .i64 s.p] 58)
    have hb2 := hb1.alloc (by omega) (.cells #[.int .i64 b.m, .int .i64 b.f, .int .i64 b.u, .int .i64 b.p, .int .i64 b.w, .int .i64 s.f, .int .i64 s.o, .int .i64 s.p] 58)
    have hC3 := hidD (c3 rfl)
    clear X0 X1 X2 B0 B1 B2 HB HC1 h1 c1 c2 c3
    go_wp2_with fail
    with_reducible refine c.mono ?_
    rintro e w5 ⟨rfl, m, rfl⟩
    have hb3 := below_drewN hb2 m
    have X4 := X3.drewN m
    have Y4 := Y3.out.drewN m
    have hsz : ((w1.alloc (.cells #[.int .i64 b.m, .int .i64 b.f, .int .i64 b.u, .int .i64 b.p, .int .i64 b.w, .int .i64 s.f, .int .i64 s.o, .int .i64 s.p] 58)).drewN m).heap.size = w1.heap.size + 1 := by simp [World.drewN]
    clear X3 Y3 hb2 hb1 c
    generalize hA : w1.heap.size = A at *
    generalize (w1.alloc (.cells #[.int .i64 b.m, .int .i64 b.f, .int .i64 b.u, .int .i64 b.p, .int .i64 b.w, .int .i64 s.f, .int .i64 s.o, .int .i64 s.p] 58)).drewN m = w5 at *
    have HA := hidD hA
    clear hA
    cases al
    · obtain ⟨e1, e2, e3⟩ := HC2.out (by first | trivial | rfl) rfl
      subst e1 e2 e3
      have S := hidD (put5_bo Br.zero X4)
      have SB := hidD ((put5_cg w5 (N + 1 + 1) Br.zero).below (B := N) (by omega) (by omega) hb3)
      have r0 := X4.cell 0 rfl
      have r1 := X4.cell 1 rfl
      have r2 := X4.cell 2 rfl
      have r3 := X4.cell 3 rfl
      have r4 := X4.cell 4 rfl
      have f0 := X4.frozen 0
      have f1 := X4.frozen 1
      have f2 := X4.frozen 2
      have f3 := X4.frozen 3
      have f4 := X4.frozen 4
      clear X4 Y4 hb3 HC0 HC2 hz HS hC3
      go_wp2_with fail
      refine bodyPost_ret (ret_cell2 rfl rfl S.out) rfl ?_
      exact ⟨rfl, SB.out⟩
    · obtain ⟨e1, e2, e3⟩ := HC0.out (by first | trivial | rfl) rfl
      subst e1 e2 e3
      have c := hC3.out _ _ Y4
      go_wp2_with fail
      with_reducible refine c.mono ?_
      rintro e w6 ⟨rfl, b6, c6⟩
      have X5 := c6.bo (by omega) X4
      have hb4 := c6.below (B := N) (by omega) (by omega) hb3
      have S := hidD (put5_bo z X5)
      have SB := hidD ((put5_cg w6 (N + 1 + 1) z).below (B := N) (by omega) (by have := c6.size; omega) hb4)
      have t0 := b6.cell 0 rfl
      have t1 := b6.cell 1 rfl
      have t2 := b6.cell 2 rfl
      have t3 := b6.cell 3 rfl
      have t4 := b6.cell 4 rfl
      have r0 := X5.cell 0 rfl
      have r1 := X5.cell 1 rfl
      have r2 := X5.cell 2 rfl
      have r3 := X5.cell 3 rfl
      have r4 := X5.cell 4 rfl
      have f0 := X5.frozen 0
      have f1 := X5.frozen 1
      have f2 := X5.frozen 2
      have f3 := X5.frozen 3
      have f4 := X5.frozen 4
      clear X5 X4 Y4 hb3 hb4 HC0 HC2 hz HS hC3 c b6 c6
      go_wp2_with fail
      refine bodyPost_ret (ret_cell2 rfl rfl S.out) rfl ?_
      exact ⟨rfl, SB.out⟩
  · obtain ⟨e1, e2, e3⟩ := HC1.out hk
    subst e1 e2 e3
    have hk1 : (ze != 0) = true := by simp [hk]
    have S := hidD (put5_bo Br.zero X2)
    have SB := hidD ((put5_cg w1 (N + 1 + 1) Br.zero).below (B := N) (by omega) (by omega) hb1)
    clear X0 X1 X2 hb1 B0 B1 B2 HB HC0 HC1 HC2 hk h1 hz HS c1 c2 c3
    go_wp2_with fail
    refine bodyPost_ret (ret_cell2 rfl rfl S.out) rfl ?_
    exact ⟨rfl, SB.out⟩
end Go.Proofs.Ytkfkhhhoboenkaa
