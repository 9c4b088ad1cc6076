/- breaker: Allows, Begin, End. -/
import Derived.Test.YtkfkhhhoboenkaaBG
namespace Go.Proofs.Ytkfkhhhoboenkaa
open Go.RowKit
set_option maxRecDepth 20000
set_option linter.unusedVariables false

def Br.allowsR (b : Br.St) (s : Br.Se) (t : Int) : Bool := if Br.chk b s t = 0 then Br.allows b s else false
def Br.endR (b : Br.St) (s : Br.Se) (t : Int) (pr g : Bool) : Br.St := if Br.chk b s t = 0 then Br.fin b s t pr g else Br.zero
def Br.begR (b : Br.St) (s : Br.Se) (t : Int) : Br.St := if Br.chk b s t = 0 ∧ Br.allows b s = true then Br.beg b else Br.zero
def Br.begP (b : Br.St) (s : Br.Se) (t : Int) : Bool := if Br.chk b s t = 0 ∧ Br.allows b s = true then decide (b.m = 2) else false
def Br.begE (b : Br.St) (s : Br.Se) (t : Int) : Int := if Br.chk b s t = 0 then (if Br.allows b s = true then 0 else 9) else Br.chk b s t
theorem Br.wraps {b : Br.St} {s : Br.Se} {t : Int} (h : Br.chk b s t = 0) : IntKind.i64.wrap (t + s.o) = t + s.o ∧ IntKind.i64.wrap (b.f + 1) = b.f + 1 ∧ IntKind.i64.wrap (b.w + 1) = b.w + 1 ∧ IntKind.i64.wrap (b.p + 1) = b.p + 1 ∧ IntKind.i64.wrap (b.p - 1) = b.p - 1 := by
  obtain ⟨h1, h2, h3, h4⟩ := Br.chk_zero h
  obtain ⟨_, _, _, _, _, _⟩ := Br.sets_iff.1 h1
  obtain ⟨_, _, _, _, _, _, _, _, _, _⟩ := Br.may_iff.1 h4
  refine ⟨wrap_ok ?_ ?_, wrap_ok ?_ ?_, wrap_ok ?_ ?_, wrap_ok ?_ ?_, wrap_ok ?_ ?_⟩ <;> omega

set_option maxHeartbeats 400000 in
theorem ballows_any (b : Br.St) (s : Br.Se) (t : Int) (w : World) : Calls Try.prog 11 #[vB b, vS s, .int .i64 t] w fun e w' => e = .returned (.tuple #[.bool (Br.allowsR b s t), .int .i64 (Br.chk b s t)]) ∧ Below w.heap.size w w' := by
  have c1 := fun W => bcheck_any b s t W
  have c2 := fun B W (h : Bo W B (cL b s []) 58) => allows_any B b s [] _ W h
  obtain ⟨W0, hW0, B0, B1, HB, HS⟩ := two_boxes w (bL b) (sL s) 23 25
  have HC0 : Hid (Br.chk b s t = 0 → Br.allowsR b s t = Br.allows b s) := hidD (fun h => if_pos h)
  have HC1 : Hid (¬ Br.chk b s t = 0 → Br.allowsR b s t = false) := hidD (fun h => if_neg h)
  generalize Br.allowsR b s t = z at *
  generalize Br.allows b s = y at *
  generalize Br.chk b s t = k at *
  simp only [bL, sL] at hW0
  obtain ⟨N, hN⟩ : ∃ N, N = w.heap.size := ⟨_, rfl⟩
  rw [← hN] at B0 B1 HB HS ⊢
  have HN := hidD hN
  go_enter Try.func11, Try.ntmps11
  go_wp2_with fail
  rw [← hN, ← hW0]
  clear hN hW0
  with_reducible refine (c1 _).mono ?_
  rintro e w1 ⟨rfl, h1⟩
  have X0 := B0.below h1
  have X1 := B1.below h1
  have hb1 : Below N w w1 := below_on HB (by omega) h1
  have p0 := X0.cell 0 rfl
  have p1 := X0.cell 1 rfl
  have p2 := X0.cell 2 rfl
  have p3 := X0.cell 3 rfl
  have p4 := X0.cell 4 rfl
  have q0 := X1.cell 0 rfl
  have q1 := X1.cell 1 rfl
  have q2 := X1.cell 2 rfl
  have hz := h1.size
  by_cases hk : k = 0
  · subst hk
    have hZ := HC0.out rfl
    subst hZ
    have c : Calls _ _ _ _ _ := c2 _ _ (Bo.new w1 [.int .i64 b.m, .int .i64 b.f, .int .i64 b.u, .int .i64 b.p, .int .i64 b.w, .int .i64 s.f, .int .i64 s.o, .int .i64 s.p] 58)
    have hb2 := hidD (hb1.alloc (by omega) (.cells #[.int .i64 b.m, .int .i64 b.f, .int .i64 b.u, .int .i64 b.p, .int .i64 b.w, .int .i64 s.f, .int .i64 s.o, .int .i64 s.p] 58))
    clear X0 X1 B0 B1 HB HC0 HC1 h1 c1 c2
    go_wp2_with fail
    with_reducible refine c.mono ?_
    rintro e w5 ⟨rfl, m, rfl⟩
    go_wp2_with fail
    go_ret2
    exact ⟨rfl, below_drewN hb2.out m⟩
  · have hZ := HC1.out hk
    subst hZ
    have hk1 : (k != 0) = true := by simp [hk]
    have SB := hidD hb1
    clear X0 X1 hb1 B0 B1 HB HC0 HC1 hk h1 hz HS c1 c2
    go_wp2_with fail
    go_ret2
    exact ⟨rfl, SB.out⟩

set_option maxHeartbeats 400000 in
theorem bend_any (b : Br.St) (s : Br.Se) (t : Int) (pr g : Bool) (w : World) : Calls Try.prog 15 #[vB b, vS s, .int .i64 t, .bool pr, .bool g] w fun e w' => e = .returned (.tuple #[vB (Br.endR b s t pr g), .int .i64 (Br.chk b s t)]) ∧ Below w.heap.size w w' := by
  have c1 := fun W => bcheck_any b s t W
  have c2 := fun (hk : Br.chk b s t = 0) B W (h : Bo W B (cL b s []) 58) => end_any B b s [] _ t pr g W h (Br.wraps hk).1 (Br.wraps hk).2.1 (Br.wraps hk).2.2.1 (Br.wraps hk).2.2.2.2
  obtain ⟨W0, hW0, B0, B1, B2, HB, HS⟩ := three_boxes w (bL b) (sL s) (bL Br.zero) 23 25 23
  have HC0 : Hid (Br.chk b s t = 0 → Br.endR b s t pr g = Br.fin b s t pr g) := hidD (fun h => if_pos h)
  have HC1 : Hid (¬ Br.chk b s t = 0 → Br.endR b s t pr g = Br.zero) := hidD (fun h => if_neg h)
  generalize Br.endR b s t pr g = z at *
  generalize Br.fin b s t pr g = y at *
  generalize Br.chk b s t = k at *
  simp only [bL, sL, Br.zero] at hW0
  obtain ⟨N, hN⟩ : ∃ N, N = w.heap.size := ⟨_, rfl⟩
  rw [← hN] at B0 B1 B2 HB HS ⊢
  have HN := hidD hN
  go_enter Try.func15, Try.ntmps15
  go_wp2_with fail
  rw [← hN, ← hW0]
  clear hN hW0
  with_reducible refine (c1 _).mono ?_
  rintro e w1 ⟨rfl, h1⟩
  have X0 := B0.below h1
  have X1 := B1.below h1
  have hb1 : Below N w w1 := below_on HB (by omega) h1
  have X2 := B2.below h1
  have p0 := X0.cell 0 rfl
  have p1 := X0.cell 1 rfl
  have p2 := X0.cell 2 rfl
  have p3 := X0.cell 3 rfl
  have p4 := X0.cell 4 rfl
  have q0 := X1.cell 0 rfl
  have q1 := X1.cell 1 rfl
  have q2 := X1.cell 2 rfl
  have r0 := X2.cell 0 rfl
  have r1 := X2.cell 1 rfl
  have r2 := X2.cell 2 rfl
  have r3 := X2.cell 3 rfl
  have r4 := X2.cell 4 rfl
  have f0 := X2.frozen 0
  have f1 := X2.frozen 1
  have f2 := X2.frozen 2
  have f3 := X2.frozen 3
  have f4 := X2.frozen 4
  have hz := h1.size
  by_cases hk : k = 0
  · subst hk
    have hZ := HC0.out rfl
    subst hZ
    have c : Calls _ _ _ _ _ := c2 rfl _ _ (Bo.new w1 [.int .i64 b.m, .int .i64 b.f, .int .i64 b.u, .int .i64 b.p, .int .i64 b.w, .int .i64 s.f, .int .i64 s.o, .int .i64 s.p] 58)
    have X3 := X2.alloc (.cells #[.int .i64 b.m, .int .i64 b.f, .int .i64 b.u, .int .i64 b.p, .int .i64 b.w, .int .i64 s.f, .int .i64 s.o, .int .i64 s.p] 58)
    have hb2 := hb1.alloc (by omega) (.cells #[.int .i64 b.m, .int .i64 b.f, .int .i64 b.u, .int .i64 b.p, .int .i64 b.w, .int .i64 s.f, .int .i64 s.o, .int .i64 s.p] 58)
    clear X0 X1 X2 B0 B1 B2 HB HC0 HC1 h1 c1 c2
    go_wp2_with fail
    with_reducible refine c.mono ?_
    rintro e w5 ⟨rfl, b5, c5⟩
    have X4 := c5.bo (by omega) X3
    have hb3 := c5.below (B := N) (by omega) (by simp; omega) hb2
    have S := hidD (put5_bo z X4)
    have SB := hidD ((put5_cg w5 (N + 1 + 1) z).below (B := N) (by omega) (by have := hb3.size; have := HN.out; omega) hb3)
    have t0 := b5.cell 0 rfl
    have t1 := b5.cell 1 rfl
    have t2 := b5.cell 2 rfl
    have t3 := b5.cell 3 rfl
    have t4 := b5.cell 4 rfl
    have r0 := X4.cell 0 rfl
    have r1 := X4.cell 1 rfl
    have r2 := X4.cell 2 rfl
    have r3 := X4.cell 3 rfl
    have r4 := X4.cell 4 rfl
    have f0 := X4.frozen 0
    have f1 := X4.frozen 1
    have f2 := X4.frozen 2
    have f3 := X4.frozen 3
    have f4 := X4.frozen 4
    clear X3 X4 hb2 hb3 hb1
    go_wp2_with fail
    refine bodyPost_ret (ret_cell1 rfl rfl S.out) rfl ?_
    exact ⟨rfl, SB.out⟩
  · have hZ := HC1.out hk
    subst hZ
    have hk1 : (k != 0) = true := by simp [hk]
    have S := hidD (put5_bo Br.zero X2)
    have SB := hidD ((put5_cg w1 (N + 1 + 1) Br.zero).below (B := N) (by omega) (by omega) hb1)
    clear X0 X1 X2 hb1 B0 B1 B2 HB HC0 HC1 hk h1 hz HS c1 c2
    go_wp2_with fail
    refine bodyPost_ret (ret_cell1 rfl rfl S.out) rfl ?_
    exact ⟨rfl, SB.out⟩
end Go.Proofs.Ytkfkhhhoboenkaa
