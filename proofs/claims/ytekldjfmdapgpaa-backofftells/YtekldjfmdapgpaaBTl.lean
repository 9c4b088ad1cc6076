/- For all settings, ints n, draws and lists of draws: whether the settings may be, the most, the delay, the sum and the row, or their errors, are the reference's, and the page's example holds (the law BackoffTells answers true), and the arguments stay: without a bound. -/
import Derived.Test.YtekldjfmdapgpaaRows
import Derived.BigQuiet
import Derived.Deep.QuietTactic
import Derived.WalkKit
import Derived.ProofKit
import Derived.OpenShut
import Derived.ShutString
import Derived.Test.YtekldjfmdapgpaaBkL
namespace Go.Proofs.Ytekldjfmdapgpaa.backoffTells
open Go.ChangeShapes Go.WideShapes Go.ChangeAt Go.RowKit
open Go.ChangeMaps (open_string shut_string)
set_option linter.unusedVariables false
set_option maxRecDepth 20000

theorem cellB {W W' : World} {p : Addr} {v : Value} (h : W.cell? p = some v) (hb : Below W.heap.size W W') : W'.cell? p = some v := (hb.cell (World.block_lt_of_cell? W _ h)).trans h
/-- What the last region keeps. -/
def Kp3 (N M : Nat) (w V : World) (s : Bf.Se) (W : World) : Prop := Bo W N (sL s) 23 ∧ Below N w W ∧ N ≤ W.heap.size ∧ Below M V W ∧ M ≤ W.heap.size
theorem Kp3.next {N M : Nat} {w V W W' : World} {s : Bf.Se} (h : Kp3 N M w V s W) (hb : Below W.heap.size W W') : Kp3 N M w V s W' :=
  ⟨h.1.below hb, below_on h.2.1 h.2.2.1 hb, Nat.le_trans h.2.2.1 hb.size, below_on h.2.2.2.1 h.2.2.2.2 hb, Nat.le_trans h.2.2.2.2 hb.size⟩
theorem keep3 {N M : Nat} {w V W W' : World} {s : Bf.Se} (h : W.cell? ⟨N, 0, none⟩ = some (.int .i64 s.b) ∧ W.cell? ⟨N, 1, none⟩ = some (.int .i64 s.p) ∧ W.cell? ⟨N, 2, none⟩ = some (.int .i64 s.j) ∧ Kp3 N M w V s W) (hb : Below W.heap.size W W') :
    W'.cell? ⟨N, 0, none⟩ = some (.int .i64 s.b) ∧ W'.cell? ⟨N, 1, none⟩ = some (.int .i64 s.p) ∧ W'.cell? ⟨N, 2, none⟩ = some (.int .i64 s.j) ∧ Kp3 N M w V s W' :=
  ⟨cellB h.1 hb, cellB h.2.1 hb, cellB h.2.2.1 hb, h.2.2.2.next hb⟩
theorem keep3v {N M : Nat} {w V W : World} {s : Bf.Se} (h : W.cell? ⟨N, 0, none⟩ = some (.int .i64 s.b) ∧ W.cell? ⟨N, 1, none⟩ = some (.int .i64 s.p) ∧ W.cell? ⟨N, 2, none⟩ = some (.int .i64 s.j) ∧ Kp3 N M w V s W) : Below M V W := h.2.2.2.2.2.2.1
theorem keep3w {N M : Nat} {w V W : World} {s : Bf.Se} (h : W.cell? ⟨N, 0, none⟩ = some (.int .i64 s.b) ∧ W.cell? ⟨N, 1, none⟩ = some (.int .i64 s.p) ∧ W.cell? ⟨N, 2, none⟩ = some (.int .i64 s.j) ∧ Kp3 N M w V s W) : Below N w W := h.2.2.2.2.1
theorem keep3d {N M : Nat} {w V W : World} {s : Bf.Se} (h : Kp3 N M w V s W) : W.drew.cell? ⟨N, 0, none⟩ = some (.int .i64 s.b) ∧ W.drew.cell? ⟨N, 1, none⟩ = some (.int .i64 s.p) ∧ W.drew.cell? ⟨N, 2, none⟩ = some (.int .i64 s.j) ∧ Kp3 N M w V s W.drew :=
  ⟨h.1.cell 0 rfl, h.1.cell 1 rfl, h.1.cell 2 rfl, h.1, belowD_drew h.2.1, h.2.2.1, belowD_drew h.2.2.2.1, h.2.2.2.2⟩

set_option maxHeartbeats 4000000 in
theorem walk_v (s : Bf.Se) (n : Int) (x : Nat) (v : Value) (mr me dr tr te re ck : Int) (rr : List Int) (w : World)
    (C0a : ∀ W, Calls Try.prog 9 #[vS s, .int .i64 n] W fun e w' => e = .returned (.tuple #[.int .i64 mr, .int .i64 me]) ∧ Below W.heap.size W w')
    (C0b : ∀ W, Calls Try.prog 10 #[vS s, .int .i64 n] W fun e w' => e = .returned (.tuple #[.int .i64 mr, .int .i64 me]) ∧ Below W.heap.size W w')
    (C1a : ∀ W, Calls Try.prog 11 #[vS s, .int .i64 n, .int .u64 x] W fun e w' => e = .returned (.tuple #[.int .i64 dr, .int .i64 me]) ∧ Below W.heap.size W w')
    (C1b : ∀ W, Calls Try.prog 12 #[vS s, .int .i64 n, .int .u64 x] W fun e w' => e = .returned (.tuple #[.int .i64 dr, .int .i64 me]) ∧ Below W.heap.size W w')
    (C2a : ∀ W, Below w.heap.size w W → Calls Try.prog 13 #[vS s, v] W fun e w' => e = .returned (.tuple #[.int .i64 tr, .int .i64 te]) ∧ Below W.heap.size W w')
    (C2b : ∀ W, Below w.heap.size w W → Calls Try.prog 14 #[vS s, v] W fun e w' => e = .returned (.tuple #[.int .i64 tr, .int .i64 te]) ∧ Below W.heap.size W w')
    (C3a : ∀ W, Calls Try.prog 15 #[vS s, .int .i64 n] W fun e w' => ∃ u, e = .returned (.tuple #[u, .int .i64 re]) ∧ Below W.heap.size W w' ∧ Seg .i64 w' u rr)
    (C3b : ∀ W, Calls Try.prog 16 #[vS s, .int .i64 n] W fun e w' => ∃ u, e = .returned (.tuple #[u, .int .i64 re]) ∧ Below W.heap.size W w' ∧ Seg .i64 w' u rr)
    (C4a : ∀ W, Calls Try.prog 19 #[vS s] W fun e w' => e = .returned (.int .i64 ck) ∧ Below W.heap.size W w')
    (C4b : ∀ W, Calls Try.prog 20 #[vS s] W fun e w' => e = .returned (.int .i64 ck) ∧ Below W.heap.size W w')
    (Cal : ∀ W, Calls Try.prog 21 #[] W fun e w' => e = .returned (.bool true) ∧ Below W.heap.size W w') :
    Calls Try.prog 3 #[vS s, .int .i64 n, .int .u64 x, v] w fun e w' => e = .returned (.bool true) ∧ Below w.heap.size w w' := by
  have H0a := hidD C0a
  have H0b := hidD C0b
  have H1a := hidD C1a
  have H1b := hidD C1b
  have H2a := hidD C2a
  have H2b := hidD C2b
  have H3a := hidD C3a
  have H3b := hidD C3b
  have H4a := hidD C4a
  have H4b := hidD C4b
  have Hal := hidD Cal
  clear C0a C0b C1a C1b C2a C2b C3a C3b C4a C4b Cal
  have X0 := hidD (Bo.new w (sL s) 23)
  have HB := hidD ((Below.refl w.heap.size w).alloc (Nat.le_refl _) (.cells (sL s).toArray 23))
  have HS : Hid (w.heap.size + 1 ≤ (w.alloc (.cells (sL s).toArray 23)).heap.size) := hidD (by rw [World.size_alloc]; omega)
  obtain ⟨W0, hW0⟩ : ∃ W0, W0 = w.alloc (.cells (sL s).toArray 23) := ⟨_, rfl⟩
  obtain ⟨N, hN⟩ : ∃ N, N = w.heap.size := ⟨_, rfl⟩
  rw [← hW0] at X0 HB HS
  have HNW : Hid (N = w.heap.size) := hidD hN
  rw [← hN] at X0 HB HS ⊢
  simp only [sL] at hW0
  have p0 := X0.out.cell 0 rfl
  have p1 := X0.out.cell 1 rfl
  have p2 := X0.out.cell 2 rfl
  have c := H0a.out W0
  go_enter Try.func3, Try.ntmps3
  go_wp2_with fail
  rw [← hN, ← hW0]
  clear hN hW0
  with_reducible refine c.mono ?_
  rintro e v0 ⟨rfl, h⟩
  replace X0 := hidD (X0.out.below h)
  replace HB := hidD (below_on HB.out (Nat.le_of_succ_le HS.out) h)
  replace HS := hidD (Nat.le_trans HS.out h.size)
  clear h
  clear c p0 p1 p2
  go_upto_region 2 with fail
  have p0 := X0.out.cell 0 rfl
  have p1 := X0.out.cell 1 rfl
  have p2 := X0.out.cell 2 rfl
  have c := hidD (H0b.out v0)
  go_wp2_with fail
  with_reducible refine c.out.mono ?_
  rintro e v1 ⟨rfl, h⟩
  clear c p0 p1 p2
  replace X0 := hidD (X0.out.below h)
  replace HB := hidD (below_on HB.out (Nat.le_of_succ_le HS.out) h)
  replace HS := hidD (Nat.le_trans HS.out h.size)
  clear h
  go_upto_region 3 with fail
  have p0 := X0.out.cell 0 rfl
  have p1 := X0.out.cell 1 rfl
  have p2 := X0.out.cell 2 rfl
  have c := hidD (H1a.out v1)
  go_wp2_with fail
  with_reducible refine c.out.mono ?_
  rintro e v2 ⟨rfl, h⟩
  clear c p0 p1 p2
  replace X0 := hidD (X0.out.below h)
  replace HB := hidD (below_on HB.out (Nat.le_of_succ_le HS.out) h)
  replace HS := hidD (Nat.le_trans HS.out h.size)
  clear h
  go_upto_region 4 with fail
  have p0 := X0.out.cell 0 rfl
  have p1 := X0.out.cell 1 rfl
  have p2 := X0.out.cell 2 rfl
  have c := hidD (H1b.out v2)
  go_wp2_with fail
  with_reducible refine c.out.mono ?_
  rintro e v3 ⟨rfl, h⟩
  clear c p0 p1 p2
  replace X0 := hidD (X0.out.below h)
  replace HB := hidD (below_on HB.out (Nat.le_of_succ_le HS.out) h)
  replace HS := hidD (Nat.le_trans HS.out h.size)
  clear h
  go_upto_region 5 with fail
  have p0 := X0.out.cell 0 rfl
  have p1 := X0.out.cell 1 rfl
  have p2 := X0.out.cell 2 rfl
  have c := hidD (H2a.out v3 (by have := HNW.out; rw [← this]; exact HB.out))
  go_wp2_with fail
  with_reducible refine c.out.mono ?_
  rintro e v4 ⟨rfl, h⟩
  clear c p0 p1 p2
  replace X0 := hidD (X0.out.below h)
  replace HB := hidD (below_on HB.out (Nat.le_of_succ_le HS.out) h)
  replace HS := hidD (Nat.le_trans HS.out h.size)
  clear h
  go_upto_region 6 with fail
  have p0 := X0.out.cell 0 rfl
  have p1 := X0.out.cell 1 rfl
  have p2 := X0.out.cell 2 rfl
  have c := hidD (H2b.out v4 (by have := HNW.out; rw [← this]; exact HB.out))
  go_wp2_with fail
  with_reducible refine c.out.mono ?_
  rintro e v5 ⟨rfl, h⟩
  clear c p0 p1 p2
  replace X0 := hidD (X0.out.below h)
  replace HB := hidD (below_on HB.out (Nat.le_of_succ_le HS.out) h)
  replace HS := hidD (Nat.le_trans HS.out h.size)
  clear h
  go_upto_region 7 with fail
  have p0 := X0.out.cell 0 rfl
  have p1 := X0.out.cell 1 rfl
  have p2 := X0.out.cell 2 rfl
  have c := hidD (H3a.out v5)
  go_wp2_with fail
  with_reducible refine c.out.mono ?_
  rintro e v6 ⟨va, rfl, h, sa⟩
  replace sa := hidD sa
  clear c p0 p1 p2
  replace X0 := hidD (X0.out.below h)
  replace HB := hidD (below_on HB.out (Nat.le_of_succ_le HS.out) h)
  replace HS := hidD (Nat.le_trans HS.out h.size)
  clear h
  go_upto_region 8 with fail
  have p0 := X0.out.cell 0 rfl
  have p1 := X0.out.cell 1 rfl
  have p2 := X0.out.cell 2 rfl
  have c := hidD (H3b.out v6)
  go_wp2_with fail
  with_reducible refine c.out.mono ?_
  rintro e v7 ⟨vb, rfl, h, sb⟩
  replace sa := hidD (sa.out.below h)
  replace sb := hidD sb
  clear c p0 p1 p2
  replace X0 := hidD (X0.out.below h)
  replace HB := hidD (below_on HB.out (Nat.le_of_succ_le HS.out) h)
  replace HS := hidD (Nat.le_trans HS.out h.size)
  clear h
  have HSI := hidD (fun W h => sameInts_any va vb rr rr W (sa.out.below h) (sb.out.below h))
  rw [decide_eq_true rfl] at HSI
  obtain ⟨M, hM⟩ : ∃ M, M = v7.heap.size := ⟨_, rfl⟩
  have HKP : Hid (Kp3 N M w v7 s v7) := hidD ⟨X0.out, HB.out, Nat.le_of_succ_le HS.out, by rw [hM]; exact Below.refl _ _, by omega⟩
  rw [← hM] at HSI
  clear hM X0 HB HS sa sb H0a H0b H1a H1b H2a H2b H3a H3b
  go_upto_region 9 with fail
  have k1 : (mr == mr) = true := by simp
  have k2 : (me == me) = true := by simp
  have k3 : (dr == dr) = true := by simp
  have k4 : (tr == tr) = true := by simp
  have k5 : (te == te) = true := by simp
  have k6 : (re == re) = true := by simp
  have k8 : (ck == ck) = true := by simp
  generalize Value.tuple #[.int .i64 mr, .int .i64 me] = g1
  generalize Value.tuple #[.int .i64 dr, .int .i64 me] = g2
  generalize Value.tuple #[.int .i64 tr, .int .i64 te] = g3
  generalize Value.tuple #[va, .int .i64 re] = g4
  generalize Value.tuple #[vb, .int .i64 re] = g6
  generalize Value.agg #[.int .i64 s.b, .int .i64 s.p, .int .i64 s.j] = g5
  go_region_held (fun w' => w'.cell? ⟨N, 0, none⟩ = some (.int .i64 s.b) ∧ w'.cell? ⟨N, 1, none⟩ = some (.int .i64 s.p) ∧ w'.cell? ⟨N, 2, none⟩ = some (.int .i64 s.j) ∧ Kp3 N M w v7 s w') (first | exact keep3 (by assumption) (by assumption) | exact keep3d HKP.out | assumption) (first | (go_at_call 19; refine (H4a.out _).mono ?_; rintro e ww ⟨rfl, hww⟩) | (go_at_call 20; refine (H4b.out _).mono ?_; rintro e ww ⟨rfl, hww⟩) | (go_at_call 18; refine (HSI.out _ (keep3v (by assumption))).mono ?_; rintro e ww ⟨rfl, hww⟩) | (go_at_call 21; refine (Hal.out _).mono ?_; rintro e ww ⟨rfl, hww⟩) | (go_at_call 17; refine (num_any _ _).mono ?_; rintro e ww ⟨rfl, rfl⟩))
  all_goals
    go_wp2
    go_ret
    exact ⟨rfl, keep3w (by assumption)⟩

theorem walk (s : Bf.Se) (n : Int) (wn : (Lit.int .i64 n).wf = true) (xi : Int) (wx : (Lit.int .u64 xi).wf = true) (v : Value) (l : List Int) {w : World} (hv : Seg .u64 w v l) (ho : ∀ z ∈ l, 0 ≤ z ∧ z ≤ 18446744073709551615) :
    Calls Try.prog 3 #[vS s, .int .i64 n, .int .u64 xi, v] w fun e w' => e = .returned (.bool true) ∧ Below w.heap.size w w' := by
  have hx := bounds_u64 wx
  obtain ⟨x, rfl⟩ := Int.eq_ofNat_of_zero_le hx.1
  have hX : x < 18446744073709551616 := by omega
  have hl : ∀ k, k < l.length → 0 ≤ l.getD k 0 ∧ l.getD k 0 < 18446744073709551616 := fun k hk => by
    have hm : l.getD k 0 ∈ l := by rw [List.getD_eq_getElem?_getD, List.getElem?_eq_getElem hk]; exact List.getElem_mem hk
    have := ho _ hm
    omega
  exact walk_v s n x v _ _ _ _ _ _ _ _ w (fun W => most_any s n W) (fun W => rmost_any s n W) (fun W => bdelay_any s n x hX W) (fun W => rdelay_any s n x hX W) (fun W h => total_any s v l W (hv.below h) hl) (fun W h => rtotal_any s v l W (hv.below h) hl) (fun W => (brow_any s n W)) (fun W => rrow_any s n W) (fun W => bcheck_any s W) (fun W => rcheck_any s W) (fun W => alive_any W)

set_option maxRecDepth 100000 in
theorem lifted (os : Os) (started : os.Started) (H : Type) (enc : TypeId × Value → H) :
    ReturnsInHanded {} Try.checked os 3 .any (Rows.backoffTellsSpec.pre6 enc Try.prog Try.f3 Rows.backoffTellsRow.domain false) (Rows.backoffTellsSpec.post enc Try.prog Try.f3 false true false false) := by
  refine returnsInHanded_of_change (C := Try.checked) own started (by kernel_rfl) Try.func3
    (ChangeSpec.witness6 (enc := enc) (C := Try.checked) false ⟨#[], #[.agg #[.int .i64 0, .int .i64 0, .int .i64 0], .int .i64 0, .int .u64 0, .slice none 0 0], []⟩ 8 (by kernel_rfl) (by kernel_rfl) (by kernel_rfl) (by kernel_rfl)) ?_
  intro W base args ds gs before hval0 hW hcnd _
  have hval : ∀ (j : Nat) t v, Try.f3.params[j]? = some t → args[j]? = some v → Value.okWide Try.prog W .any base t v := hval0
  have hW' := hW
  obtain ⟨p, q, hA0, hV, rfl, hfz, hnd⟩ := hW
  have hA : DataW.TrodAll enc Try.prog W 0 (fun _ => true) true Try.f3.params.toList args.toList ds p := hA0
  rw [Try.params3] at hA hval
  obtain ⟨v0, vs0, d0, ds0, p0, q0, hargs, rfl, rfl, h0, r0⟩ := trodAll_cons hA
  obtain ⟨v1, vs1, d1, ds1, p1, q1, rfl, rfl, rfl, h1, r1⟩ := trodAll_cons r0
  obtain ⟨v2, vs2, d2, ds2, p2, q2, rfl, rfl, rfl, h2, r2⟩ := trodAll_cons r1
  obtain ⟨v3, vs3, d3, ds3, p3, q3, rfl, rfl, rfl, h3, r3⟩ := trodAll_cons r2
  obtain ⟨rfl, rfl, rfl⟩ := trodAll_nil r3
  obtain rfl : args = #[v0, v1, v2, v3] := by cases args; simp_all
  obtain ⟨rfl, rfl⟩ := trodVars_none hV
  have k0 := h0
  have lt0 : ∀ x ∈ p0, x.block < W.heap.size := by obtain ⟨m, hm⟩ := k0; exact DataW.trod_lt m _ _ _ hm
  obtain ⟨x0, hv0⟩ := open_bset (hval 0 23 v0 rfl rfl) h0
  subst hv0
  obtain ⟨a1, rfl, rfl, rfl, w1⟩ := open_int Try.underlying3 (hval 1 3 v1 rfl rfl) h1
  obtain ⟨a2, rfl, rfl, rfl, w2⟩ := open_int Try.underlying24 (hval 2 24 v2 rfl rfl) h2
  have k3 := h3
  have lt3 : ∀ x ∈ p3, x.block < W.heap.size := by obtain ⟨m, hm⟩ := k3; exact DataW.trod_lt m _ _ _ hm
  obtain ⟨l3, hs3, ho3, e3⟩ := open_draws (hval 3 25 v3 rfl rfl) h3
  clear hA0 hval0
  refine (walk x0 a1 w1 a2 w2 v3 l3 hs3 ho3).mono fun e W' ⟨he, bel⟩ => ?_
  subst he
  exact ⟨_, rfl, _, _, _, [], _, [], hW', trodAll_mk1 (shut_bool Try.underlying4 _), (trodAll_cons_mk (Below.trod laidOut (by kernel_rfl) (of_decide_eq_true (by kernel_rfl)) k0 bel lt0) (trodAll_cons_mk (shut_int Try.underlying3 w1) (trodAll_cons_mk (shut_int Try.underlying24 w2) (trodAll_cons_mk (Below.trod laidOut (by kernel_rfl) (of_decide_eq_true (by kernel_rfl)) k3 bel lt3) trodAll_mk0)))), rfl, bel.frame _, fun h => by cases h⟩

theorem over : Rows.backoffTellsRow.holds Try.pinned (OpenSpec.ofChange Rows.backoffTellsSpec) :=
  OpenClaim.holds_of_wide 3 Try.f3 rfl rfl rfl rfl rfl rfl rfl ⟨rfl, rfl, rfl, rfl, rfl⟩ rfl rfl rfl rfl rfl (by kernel_rfl) Try.func3 (by kernel_rfl)
    (of_decide_eq_true (by kernel_rfl)) (by unfold Func.isWrapper; first | (rw [if_pos (by decide +kernel)]; kernel_rfl) | (rw [if_neg (by decide +kernel)]; exact ⟨rfl, rfl⟩))
    (fun os started H enc _ => lifted os started H enc)
end Go.Proofs.Ytekldjfmdapgpaa.backoffTells

namespace Go.Proofs.Ytekldjfmdapgpaa
/-- THE STATEMENT. -/
theorem backoffTells_holds : Rows.BackoffTellsSaid := backoffTells.over
#print axioms backoffTells_holds
end Go.Proofs.Ytekldjfmdapgpaa
