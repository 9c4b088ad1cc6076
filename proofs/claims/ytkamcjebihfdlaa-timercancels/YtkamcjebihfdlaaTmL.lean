/- timers: TimerFirst over contracts. -/
import Derived.Test.YtkamcjebihfdlaaTmK
import Derived.Laws.StructEq
namespace Go.Proofs.Ytkamcjebihfdlaa
open Go.RowKit
set_option linter.unusedVariables false
set_option maxRecDepth 20000

def CFir : Prop := ∀ (v : Value) (l : List Ti.T) (w : World), TS w v l → Calls Try.prog 12 #[v] w fun e w' => e = .returned (.tuple #[vT (Ti.firR l), .int .i64 (Ti.firE l)]) ∧ Below w.heap.size w w'
theorem Ti.place (t : Int) (n : Nat) (hn : 0 < n) (hn2 : n ≤ 8796093022208) : ∃ q : Nat, q < n ∧ IntKind.i64.wrap (Int.tmod t (n : Int)) = Int.tmod t (n : Int) ∧ IntKind.i64.wrap (Int.tmod t (n : Int) + (n : Int)) = Int.tmod t (n : Int) + (n : Int) ∧ Int.tmod (Int.tmod t (n : Int) + (n : Int)) (n : Int) = (q : Int) ∧ IntKind.i64.wrap (q : Int) = (q : Int) := by
  have h1 : Int.tmod t (n : Int) < (n : Int) := Int.tmod_lt_of_pos t (by omega)
  have h2 : - (n : Int) < Int.tmod t (n : Int) := by
    have := Int.lt_tmod_of_pos t (b := (n : Int)) (by omega)
    exact this
  have h3 : 0 ≤ Int.tmod t (n : Int) + (n : Int) := by omega
  have h4 : 0 ≤ Int.tmod (Int.tmod t (n : Int) + (n : Int)) (n : Int) := Int.tmod_nonneg _ h3
  have h5 : Int.tmod (Int.tmod t (n : Int) + (n : Int)) (n : Int) < (n : Int) := Int.tmod_lt_of_pos _ (by omega)
  exact ⟨(Int.tmod (Int.tmod t (n : Int) + (n : Int)) (n : Int)).toNat, by omega, wrap_ok (by omega) (by omega), wrap_ok (by omega) (by omega), by omega, wrap_ok (by omega) (by omega)⟩

set_option maxHeartbeats 8000000 in
theorem first_walk (AL : CAlive) (CF : CFir) (v : Value) (l : List Ti.T) (t : Int) (w : World) (hs : TS w v l) (hl : l.length ≤ 8796093022208) :
    Calls Try.prog 7 #[v, .int .i64 t] w fun e w' => e = .returned (.bool true) ∧ Below w.heap.size w w' := by
  have cal := AL w
  have HF : Hid (∀ w1, Below w.heap.size w w1 → Calls Try.prog 12 #[v] w1 fun e w' => e = .returned (.tuple #[vT (Ti.firR l), .int .i64 (Ti.firE l)]) ∧ Below w.heap.size w w') := hidD fun w1 b => (CF v l w1 (hs.below b)).mono (by rintro e w' ⟨h1, h2⟩; exact ⟨h1, below_then b (below_low h2 b.size)⟩)
  have HV := hidD (fun (W : World) (b : Below w.heap.size w W) => hs.below b)
  have F1 : Hid (Ti.firE l = 0 → 0 < l.length) := hidD (fun h => by
    unfold Ti.firE at h
    rcases Nat.eq_zero_or_pos l.length with e | e
    · by_cases hc : Ti.chkE l = 0
      · rw [if_pos hc, if_pos e] at h; cases h
      · rw [if_neg hc] at h; exact absurd h hc
    · exact e)
  have F2 := hidD (fun (h : Ti.firE l = 0) x hx => Ti.fir_or (l := l) h (x := x) hx)
  have F3 : Hid (¬ Ti.firE l = 0 → Ti.firR l = Ti.t0) := hidD (fun h => if_neg h)
  generalize Ti.firE l = fE at *
  generalize Ti.firR l = fR at *
  obtain ⟨a0, cap, rfl, a1, a2, _, _⟩ := id hs
  obtain ⟨n, hn⟩ : ∃ n, n = l.length := ⟨_, rfl⟩
  rw [← hn] at a1 HV HF F1 hl ⊢
  replace hn := hidD hn
  clear hs
  obtain ⟨fa, fi⟩ := fR
  by_cases hE : fE = 0
  · subst hE
    have h0 := F1.out rfl
    have f2 := hidD (F2.out rfl)
    obtain ⟨q, p1, p2, p3, p4, p5⟩ := Ti.place t n h0 hl
    clear F1 F2 F3
    have hp0 : ¬ (n : Int) = 0 := by omega
    have hp1 : (q : Int) < (n : Int) := by omega
    have cA := hidD (fun W => rahead_any ⟨fa, fi⟩ (Ti.g l q) W)
    have hor := f2.out (Ti.g l q) (by rw [Ti.g_at (by have := hn.out; omega)]; exact List.getElem_mem _)
    clear f2
    go_enter Try.func7, Try.ntmps7
    go_wp2_with fail
    with_reducible refine cal.mono ?_
    rintro e w1 ⟨rfl, b1⟩
    have B1 := hidD b1
    clear cal b1
    go_wp2_with fail
    with_reducible refine (HF.out _ B1.out).mono ?_
    rintro e w2 ⟨rfl, b2⟩
    have B2 := hidD b2
    clear b2
    obtain ⟨W3, hW3⟩ : ∃ W3, W3 = w2.alloc (.cells #[.int .i64 fa, .int .i64 fi] 31) := ⟨_, rfl⟩
    have X1 : Bo W3 w2.heap.size [.int .i64 fa, .int .i64 fi] 31 := by rw [hW3]; exact Bo.new w2 [.int .i64 fa, .int .i64 fi] _
    have B3 : Hid (Below w.heap.size w W3) := hidD (by rw [hW3]; exact B2.out.alloc B2.out.size _)
    obtain ⟨ga, offa, rfl, hga, hcell⟩ := TS.at (HV.out W3 B3.out) q (by have := hn.out; omega)
    obtain ⟨t1, t2⟩ := hcell q (by have := hn.out; omega)
    have z1 := X1.cell 0 rfl
    have z2 := X1.cell 1 rfl
    have X1l := X1.lt
    have X1s := X1
    clear hcell X1
    generalize Ti.g l q = x at *
    obtain ⟨xa, xi⟩ := x
    dsimp only at t1 t2
    have X2 := Bo.new W3 [.int .i64 xa, .int .i64 xi] 31
    have X3 := X1s.alloc (.cells #[.int .i64 xa, .int .i64 xi] 31)
    have z3 := X2.cell 0 rfl
    have z4 := X2.cell 1 rfl
    have z5 := X3.cell 0 rfl
    have z6 := X3.cell 1 rfl
    have z7 := X2.lt
    have B4 : Hid (Below w.heap.size w (W3.alloc (.cells #[.int .i64 xa, .int .i64 xi] 31))) := hidD (B3.out.alloc B3.out.size _)
    have HSZ : Hid (w.heap.size ≤ (W3.alloc (.cells #[.int .i64 xa, .int .i64 xi] 31)).heap.size) := hidD B4.out.size
    clear X1s X2 X3
    rw [hW3] at t1 t2 z1 z2 z3 z4 z5 z6 X1l
    rw [hW3] at B4 HSZ
    clear hW3
    by_cases hx : xa = fa ∧ xi = fi
    · obtain ⟨rfl, rfl⟩ := hx
      clear hor cA
      go_wp2_with (first | (go_at_call 21; refine (num_any _ _).mono ?_; rintro e ww ⟨rfl, rfl⟩))
      go_ret
      exact ⟨by first | rfl | simp, B4.out⟩
    · have hah := hor.resolve_left (fun e => hx (by injection e with e1 e2; exact ⟨e1, e2⟩))
      rw [hah] at cA
      clear hor hah
      by_cases h1 : xa = fa
      · subst h1
        have h2 : ¬ xi = fi := fun e => hx ⟨rfl, e⟩
        have h3 : (xi == fi) = false := by simp [h2]
        have h4 := decide_eq_false h2
        clear hx
        go_wp2_with (first | (go_at_call 21; refine (num_any _ _).mono ?_; rintro e ww ⟨rfl, rfl⟩))
        with_reducible refine (cA.out _).mono ?_
        rintro e w5 ⟨rfl, b5⟩
        have B5 := hidD (below_then B4.out (below_low b5 HSZ.out))
        clear b5
        go_wp2_with fail
        go_ret
        exact ⟨by first | rfl | simp, B5.out⟩
      · have h3 : (xa == fa) = false := by simp [h1]
        have h4 := decide_eq_false h1
        clear hx
        go_wp2_with (first | (go_at_call 21; refine (num_any _ _).mono ?_; rintro e ww ⟨rfl, rfl⟩))
        with_reducible refine (cA.out _).mono ?_
        rintro e w5 ⟨rfl, b5⟩
        have B5 := hidD (below_then B4.out (below_low b5 HSZ.out))
        clear b5
        go_wp2_with fail
        go_ret
        exact ⟨by first | rfl | simp, B5.out⟩
  · have hR := F3.out hE
    injection hR with hR1 hR2
    subst hR1 hR2
    have hE1 : (fE != 0) = true := by simp [hE]
    clear F1 F2 F3 hE
    go_enter Try.func7, Try.ntmps7
    go_wp2_with fail
    with_reducible refine cal.mono ?_
    rintro e w1 ⟨rfl, b1⟩
    have B1 := hidD b1
    clear cal b1
    go_wp2_with fail
    with_reducible refine (HF.out _ B1.out).mono ?_
    rintro e w2 ⟨rfl, b2⟩
    have B2 := hidD b2
    clear b2
    go_wp2_with (first | (go_at_call 21; refine (num_any _ _).mono ?_; rintro e ww ⟨rfl, rfl⟩))
    go_ret
    exact ⟨by first | rfl | simp, B2.out.alloc B2.out.size _⟩
end Go.Proofs.Ytkamcjebihfdlaa
