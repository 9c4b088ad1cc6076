/- breaker: Tick, Allows. -/
import Derived.Test.YtkfkhhhoboenkaaBE
import Derived.Test.YtkfkhhhoboenkaaBF
namespace Go.Proofs.Ytkfkhhhoboenkaa
open Go.RowKit
set_option maxRecDepth 20000
set_option linter.unusedVariables false

theorem ret_cell1 {fn : Func} {k m : Nat} (h : fn.results = #[.cell k 23, .tmp m]) {W : World} {tmps : Array Value} {b : Nat} {x0 x1 x2 x3 x4 : Value} (ht : tmps.getD k undef = .pointer (some ⟨b, 0, none⟩))
    (hB : Bo W b [x0, x1, x2, x3, x4] 23) : (results fn tmps).run Try.prog W = .ok (.tuple #[.agg #[x0, x1, x2, x3, x4], tmps.getD m undef]) W := by
  have h0 := hB.cell 0 rfl
  have h1 := hB.cell 1 rfl
  have h2 := hB.cell 2 rfl
  have h3 := hB.cell 3 rfl
  have h4 := hB.cell 4 rfl
  rw [Array.getD_eq_getD_getElem?] at ht
  simp [results, h]
  go_simp
theorem ret_cell2 {fn : Func} {k m l : Nat} (h : fn.results = #[.cell k 23, .tmp m, .tmp l]) {W : World} {tmps : Array Value} {b : Nat} {x0 x1 x2 x3 x4 : Value} (ht : tmps.getD k undef = .pointer (some ⟨b, 0, none⟩))
    (hB : Bo W b [x0, x1, x2, x3, x4] 23) : (results fn tmps).run Try.prog W = .ok (.tuple #[.agg #[x0, x1, x2, x3, x4], tmps.getD m undef, tmps.getD l undef]) W := by
  have h0 := hB.cell 0 rfl
  have h1 := hB.cell 1 rfl
  have h2 := hB.cell 2 rfl
  have h3 := hB.cell 3 rfl
  have h4 := hB.cell 4 rfl
  rw [Array.getD_eq_getD_getElem?] at ht
  simp [results, h]
  go_simp

theorem below_on {B : Nat} {a b c : World} (h : Below B a b) (hB : B ≤ b.heap.size) (k : Below b.heap.size b c) : Below B a c :=
  ⟨k.os.trans h.os, k.tape.trans h.tape, k.output.trans h.output, Nat.le_trans h.size k.size, fun g hg => (k.block g (by omega)).trans (h.block g hg)⟩
/-- A breaker stored. -/
abbrev put5 (w : World) (b : Nat) (x : Br.St) : World := ((((w.setCell ⟨b, 0, none⟩ (.int .i64 x.m)).setCell ⟨b, 1, none⟩ (.int .i64 x.f)).setCell ⟨b, 2, none⟩ (.int .i64 x.u)).setCell ⟨b, 3, none⟩ (.int .i64 x.p)).setCell ⟨b, 4, none⟩ (.int .i64 x.w)
abbrev bL (b : Br.St) : List Value := [.int .i64 b.m, .int .i64 b.f, .int .i64 b.u, .int .i64 b.p, .int .i64 b.w]
abbrev sL (s : Br.Se) : List Value := [.int .i64 s.f, .int .i64 s.o, .int .i64 s.p]
theorem put5_bo {w : World} {b : Nat} {y : Br.St} {T : TypeId} (x : Br.St) (h : Bo w b (bL y) T) : Bo (put5 w b x) b (bL x) T := ((((h.set 0 _).set 1 _).set 2 _).set 3 _).set 4 _
theorem put5_cg (w : World) (b : Nat) (x : Br.St) : Cg b w (put5 w b x) := ((((Cg.set w 0 _).trans (Cg.set _ 1 _)).trans (Cg.set _ 2 _)).trans (Cg.set _ 3 _)).trans (Cg.set _ 4 _)

def Br.tickR (b : Br.St) (s : Br.Se) (t : Int) : Br.St := if Br.chk b s t = 0 then Br.tick b t else Br.zero

set_option maxHeartbeats 400000 in
theorem btick_any (b : Br.St) (s : Br.Se) (t : Int) (w : World) : Calls Try.prog 9 #[vB b, vS s, .int .i64 t] w fun e w' => e = .returned (.tuple #[vB (Br.tickR b s t), .int .i64 (Br.chk b s t)]) ∧ Below w.heap.size w w' := by
  have c1 := fun W => bcheck_any b s t W
  have c2 := fun B W (h : Bo W B (cL b s []) 58) => wake_any B b s [] _ t W h
  obtain ⟨W0, hW0, B0, B1, B2, HB, HS⟩ := three_boxes w (bL b) (sL s) (bL Br.zero) 23 25 23
  have HC0 : Hid (Br.chk b s t = 0 → Br.tickR b s t = Br.tick b t) := hidD (fun h => if_pos h)
  have HC1 : Hid (¬ Br.chk b s t = 0 → Br.tickR b s t = Br.zero) := hidD (fun h => if_neg h)
  generalize Br.tickR b s t = z at *
  generalize Br.tick b t = y at *
  generalize Br.chk b s t = k at *
  simp only [bL, sL, Br.zero] at hW0
  obtain ⟨N, hN⟩ : ∃ N, N = w.heap.size := ⟨_, rfl⟩
  rw [← hN] at B0 B1 B2 HB HS ⊢
  have HN := hidD hN
  go_enter Try.func9, Try.ntmps9
  go_wp2_with fail
  rw [← hN, ← hW0]
  clear hN hW0
  with_reducible refine (c1 _).mono ?_
  rintro e w1 ⟨rfl, h1⟩
  have X0 := B0.below h1
  have X2 := B2.below h1
  have hb1 : Below N w w1 := below_on HB (by omega) h1
  have X1 := B1.below h1
  have p0 := X0.cell 0 rfl
  have p1 := X0.cell 1 rfl
  have p2 := X0.cell 2 rfl
  have p3 := X0.cell 3 rfl
  have p4 := X0.cell 4 rfl
  have q0 := X1.cell 0 rfl
  have q1 := X1.cell 1 rfl
  have q2 := X1.cell 2 rfl
  have r0 := X2.cell 0 rfl
  have r1 := X2.cell 1 rfl
  have r2 := X2.cell 2 rfl
  have r3 := X2.cell 3 rfl
  have r4 := X2.cell 4 rfl
  have f0 := X2.frozen 0
  have f1 := X2.frozen 1
  have f2 := X2.frozen 2
  have f3 := X2.frozen 3
  have f4 := X2.frozen 4
  have hz := h1.size
  by_cases hk : k = 0
  · subst hk
    have hZ := HC0.out rfl
    subst hZ
    have c : Calls _ _ _ _ _ := c2 _ _ (Bo.new w1 [.int .i64 b.m, .int .i64 b.f, .int .i64 b.u, .int .i64 b.p, .int .i64 b.w, .int .i64 s.f, .int .i64 s.o, .int .i64 s.p] 58)
    have X3 := X2.alloc (.cells #[.int .i64 b.m, .int .i64 b.f, .int .i64 b.u, .int .i64 b.p, .int .i64 b.w, .int .i64 s.f, .int .i64 s.o, .int .i64 s.p] 58)
    have hb2 := hb1.alloc (by omega) (.cells #[.int .i64 b.m, .int .i64 b.f, .int .i64 b.u, .int .i64 b.p, .int .i64 b.w, .int .i64 s.f, .int .i64 s.o, .int .i64 s.p] 58)
    clear X0 X1 X2 B0 B1 B2 HB HC0 HC1 h1 c1 c2
    go_wp2_with fail
    with_reducible refine c.mono ?_
    rintro e w5 ⟨rfl, b5, c5⟩
    have X4 := c5.bo (by omega) X3
    have hb3 := c5.below (B := N) (by omega) (by simp; omega) hb2
    have S := hidD (put5_bo z X4)
    have SB := hidD ((put5_cg w5 (N + 1 + 1) z).below (B := N) (by omega) (by have := hb3.size; have := HN.out; omega) hb3)
    have t0 := b5.cell 0 rfl
    have t1 := b5.cell 1 rfl
    have t2 := b5.cell 2 rfl
    have t3 := b5.cell 3 rfl
    have t4 := b5.cell 4 rfl
    have r0 := X4.cell 0 rfl
    have r1 := X4.cell 1 rfl
    have r2 := X4.cell 2 rfl
    have r3 := X4.cell 3 rfl
    have r4 := X4.cell 4 rfl
    have f0 := X4.frozen 0
    have f1 := X4.frozen 1
    have f2 := X4.frozen 2
    have f3 := X4.frozen 3
    have f4 := X4.frozen 4
    clear X3 X4 hb2 hb3 hb1
    go_wp2_with fail
    refine bodyPost_ret (ret_cell1 rfl rfl S.out) rfl ?_
    exact ⟨rfl, SB.out⟩
  · have hZ := HC1.out hk
    subst hZ
    have hk1 : (k != 0) = true := by simp [hk]
    have S := hidD (put5_bo Br.zero X2)
    have SB := hidD ((put5_cg w1 (N + 1 + 1) Br.zero).below (B := N) (by omega) (by omega) hb1)
    clear X0 X1 X2 hb1 B0 B1 B2 HB HC0 HC1 hk h1 hz HS c1 c2
    go_wp2_with fail
    refine bodyPost_ret (ret_cell1 rfl rfl S.out) rfl ?_
    exact ⟨rfl, SB.out⟩
end Go.Proofs.Ytkfkhhhoboenkaa
