/- For all settings and ints n and k: a row's numbers are the mosts of the retries 1 to n, as many as n, and a shorter row begins a longer one; where the settings are refused no row is told (the law BackoffRow answers true), and the arguments stay: without a bound. -/
import Derived.Test.YtekldjfmdapgpaaRows
import Derived.BigQuiet
import Derived.Deep.QuietTactic
import Derived.WalkKit
import Derived.ProofKit
import Derived.OpenShut
import Derived.ShutString
import Derived.Test.YtekldjfmdapgpaaBkL
namespace Go.Proofs.Ytekldjfmdapgpaa.backoffRow
open Go.ChangeShapes Go.WideShapes Go.ChangeAt Go.RowKit
open Go.ChangeMaps (open_string shut_string)
set_option linter.unusedVariables false
set_option maxRecDepth 20000

set_option maxHeartbeats 4000000 in
theorem walk (s : Bf.Se) (n : Int) (wn : (Lit.int .i64 n).wf = true) (k : Int) (wk : (Lit.int .i64 k).wf = true) {w : World} :
    Calls Try.prog 8 #[vS s, .int .i64 n, .int .i64 k] w fun e w' => e = .returned (.bool true) ∧ Below w.heap.size w w' := by
  obtain ⟨⟨r1, r2⟩, t1, t2, t3, t4⟩ := Bf.brought_wraps n 65 (by decide) (by decide)
  generalize Bf.brought n 65 = m at *
  obtain ⟨⟨r3, r4⟩, t5, t6, t7, t8⟩ := Bf.brought_wraps k (m + 1) (by omega) (by omega)
  have e0 : Int.tmod k (m + 1) + (m + 1) = Int.tmod k (m + 1) + m + 1 := by omega
  have g1 := Int.tmod_lt_of_pos k (show 0 < m + 1 by omega)
  have g2 := Int.lt_tmod_of_pos k (show 0 < m + 1 by omega)
  rw [e0] at t5 t7 t8
  have t9 : IntKind.i64.wrap (Int.tmod k (m + 1) + m) = Int.tmod k (m + 1) + m := wrap_ok (by omega) (by omega)
  have t10 : IntKind.i64.wrap (m + 1) = m + 1 := wrap_ok (by omega) (by omega)
  have t11 : ¬ m + 1 = 0 := by omega
  have t12 : ¬ m + 1 = -1 := by omega
  generalize Bf.brought k (m + 1) = q at *
  clear wn wk e0 g1 g2
  obtain ⟨M, rfl⟩ := Int.eq_ofNat_of_zero_le r1
  obtain ⟨Q, rfl⟩ := Int.eq_ofNat_of_zero_le r3
  have hM : M ≤ 64 := by omega
  have hQ : Q ≤ M := by omega
  have HMQ := hidD (And.intro hM hQ)
  have C1 := hidD (fun W => brow_any s (M : Int) W)
  have C2 := hidD (fun W => brow_any s (Q : Int) W)
  obtain ⟨A1, _, A3⟩ := Bf.row_cases s (M : Int)
  obtain ⟨B1, _, B3⟩ := Bf.row_cases s (Q : Int)
  replace A1 := hidD (fun h => A1 h r1 (by omega))
  replace B1 := hidD (fun h => B1 h r3 (by omega))
  replace A3 := hidD A3
  replace B3 := hidD B3
  clear hM hQ
  generalize Bf.rowR s (M : Int) = la at *
  generalize Bf.rowR s (Q : Int) = lb at *
  generalize Bf.rowE s (M : Int) = ka at *
  generalize Bf.rowE s (Q : Int) = kb at *
  have X0 := hidD (Bo.new w (sL s) 23)
  have HB := hidD ((Below.refl w.heap.size w).alloc (Nat.le_refl _) (.cells (sL s).toArray 23))
  have HS : Hid (w.heap.size + 1 ≤ (w.alloc (.cells (sL s).toArray 23)).heap.size) := hidD (by rw [World.size_alloc]; omega)
  obtain ⟨W0, hW0⟩ : ∃ W0, W0 = w.alloc (.cells (sL s).toArray 23) := ⟨_, rfl⟩
  obtain ⟨N, hN⟩ : ∃ N, N = w.heap.size := ⟨_, rfl⟩
  rw [← hW0] at X0 HB HS
  rw [← hN] at X0 HB HS ⊢
  simp only [sL] at hW0
  go_enter Try.func8, Try.ntmps8
  go_wp2_with fail
  rw [← hN, ← hW0]
  clear hN hW0
  with_reducible refine (alive_any W0).mono ?_
  rintro e v0 ⟨rfl, h⟩
  replace X0 := hidD (X0.out.below h)
  replace HB := hidD (below_on HB.out (Nat.le_of_succ_le HS.out) h)
  replace HS := hidD (Nat.le_trans HS.out h.size)
  clear h
  go_upto_region 5 with fail
  have p0 := X0.out.cell 0 rfl
  have p1 := X0.out.cell 1 rfl
  have p2 := X0.out.cell 2 rfl
  have c := hidD (C1.out v0)
  go_wp2_with fail
  with_reducible refine c.out.mono ?_
  rintro e v1 ⟨va, rfl, h, sa⟩
  clear c p0 p1 p2
  replace X0 := hidD (X0.out.below h)
  replace HB := hidD (below_on HB.out (Nat.le_of_succ_le HS.out) h)
  replace HS := hidD (Nat.le_trans HS.out h.size)
  clear h
  replace sa := hidD sa
  obtain ⟨aa, ca, rfl, ga1, ga2, ga3, _⟩ := id sa.out
  unfold maxLen at ga2
  replace ga3 := hidD ga3
  obtain ⟨LA, hLA⟩ : ∃ LA, LA = la.length := ⟨_, rfl⟩
  rw [← hLA] at ga1 sa ⊢
  replace hLA := hidD hLA
  have p0 := X0.out.cell 0 rfl
  have p1 := X0.out.cell 1 rfl
  have p2 := X0.out.cell 2 rfl
  have c := hidD (C2.out v1)
  go_wp2_with fail
  with_reducible refine c.out.mono ?_
  rintro e v2 ⟨vb, rfl, h, sb⟩
  clear c p0 p1 p2
  replace sa := hidD (sa.out.below h)
  replace X0 := hidD (X0.out.below h)
  replace HB := hidD (below_on HB.out (Nat.le_of_succ_le HS.out) h)
  replace HS := hidD (Nat.le_trans HS.out h.size)
  clear h
  replace sb := hidD sb
  obtain ⟨ab, cb, rfl, gb1, gb2, _, _⟩ := id sb.out
  unfold maxLen at gb2
  obtain ⟨LB, hLB⟩ : ∃ LB, LB = lb.length := ⟨_, rfl⟩
  rw [← hLB] at gb1 sb ⊢
  replace hLB := hidD hLB
  clear C1 C2
  by_cases hs : Bf.sets s = true
  case neg =>
    obtain ⟨rfl, rfl⟩ := A3.out hs
    obtain ⟨rfl, rfl⟩ := B3.out hs
    have HBB := HB
    have hLA0 : LA = 0 := hLA.out
    subst hLA0
    clear A1 A3 B1 B3 X0 HB HS sa sb hLA hLB ga3
    go_wp2_with (go_at_call 17; refine (num_any _ _).mono ?_; rintro e ww ⟨rfl, rfl⟩)
    go_ret
    exact ⟨by first | rfl | simp, HBB.out⟩
  obtain ⟨rfl, rfl⟩ := A1.out hs
  obtain ⟨rfl, rfl⟩ := B1.out hs
  have hLA0 : LA = M := by rw [hLA.out, Int.toNat_natCast, Bf.row_len]
  have hLB0 : LB = Q := by rw [hLB.out, Int.toNat_natCast, Bf.row_len]
  subst hLA0 hLB0
  rw [Int.toNat_natCast] at sa sb ga3
  clear A1 A3 B1 B3 hLA hLB
  have HSS := hidD hs
  clear hs t1 t2 t3 t4 t5 t6 t7 t8 t9 t10 t11 t12
  go_wp2_with (go_at_call 17; refine (num_any _ _).mono ?_; rintro e ww ⟨rfl, rfl⟩)
  go_loopw [11] (fun i wr => ∃ m : Nat, m ≤ LA ∧ i = .int .i64 (m : Int) ∧ Hid (Below N w wr ∧ Bo wr N (sL s) 23 ∧ N + 1 ≤ wr.heap.size ∧ Seg .i64 wr (.slice aa LA ca) (Bf.row s LA) ∧ Seg .i64 wr (.slice ab LB cb) (Bf.row s LB))) (fun i _ => 100 - (intOf i).toNat)
  case atStart => exact ⟨0, Nat.zero_le _, rfl, hidD ⟨HB.out, X0.out, HS.out, sa.out, sb.out⟩⟩
  case round =>
    obtain ⟨m, hm, rfl, hI⟩ := hrel
    obtain ⟨i1, i2, i3, i4, i5⟩ := hI.out
    have I1 := hidD i1
    have I2 := hidD i2
    have I3 := hidD i3
    have I4 := hidD i4
    have I5 := hidD i5
    clear hI X0 HB HS i3 sa sb
    by_cases hlt : m < LA
    · obtain ⟨a', cap', he, _, _, h3, h4⟩ := id i4
      injection he with he1 he2 he3
      subst he1 he3
      obtain ⟨gb, off, rfl, hgb, hcell⟩ := seg_at (l := Bf.row s LA) (by rw [Bf.row_len]; omega) h3 h4
      have QQ := hcell m (by rw [Bf.row_len]; omega)
      rw [Bf.row_at s LA m hlt] at QQ
      have c2 := most_any s ((m : Int) + 1) wr
      obtain ⟨f1, _, f2⟩ := Bf.delay_at HSS.out m (by have := HMQ.out.1; omega) 0
      rw [f1, f2] at c2
      have p0 := i2.cell 0 rfl
      have p1 := i2.cell 1 rfl
      have p2 := i2.cell 2 rfl
      have hi : (m : Int) < (LA : Int) := by omega
      have h64 : Hid (m ≤ 64) := hidD (by have := HMQ.out.1; omega)
      have hkw : IntKind.i64.wrap ((m : Int) + 1) = (m : Int) + 1 := wrap_ok (by have := HMQ.out.1; omega) (by have := HMQ.out.1; omega)
      clear i1 i2 i4 i5 h3 h4 hcell he2 f1 f2
      generalize Bf.d s m = y at *
      go_wp2_with fail
      with_reducible refine c2.mono ?_
      rintro e w2 ⟨rfl, h2⟩
      have QQ2 : w2.cell? ⟨gb, off + m, none⟩ = some (.int .i64 y) := (h2.cell (p := ⟨gb, off + m, none⟩) (by exact hgb)).trans QQ
      have J1 := hidD (below_on I1.out (by have := I3.out; omega) h2)
      have J2 := hidD (I2.out.below h2)
      have J3 := hidD (Nat.le_trans I3.out h2.size)
      have J4 := hidD (I4.out.below h2)
      have J5 := hidD (I5.out.below h2)
      clear c2 h2 QQ p0 p1 p2 I1 I2 I3 I4 I5 hgb
      go_wp2_with (go_at_call 17; refine (num_any _ _).mono ?_; rintro e ww ⟨rfl, rfl⟩)
      exact ⟨⟨m + 1, by omega, by go_num, hidD ⟨J1.out, J2.out, J3.out, J4.out, J5.out⟩⟩, by have := h64.out; simp [intOf]; omega⟩
    · have hke : m = LA := by omega
      subst hke
      have hQM := HMQ.out.2
      have c3 := sameInts_any (.slice ab LB cb) (.slice aa LB ca) (Bf.row s LB) ((Bf.row s m).take LB) wr i5 (seg_part i4 LB hQM)
      rw [Bf.row_take s m LB hQM, decide_eq_true rfl] at c3
      have hQc : LB ≤ ca := by omega
      clear i1 i2 i4 i5 I2 I4 I5
      go_wp2_with (first | (go_at_call 17; refine (num_any _ _).mono ?_; rintro e ww ⟨rfl, rfl⟩) | (go_at_call 18; with_reducible refine c3.mono ?_; rintro e w3 ⟨rfl, h3⟩))
      go_ret
      exact ⟨by first | rfl | simp, below_on I1.out (by have := I3.out; omega) h3⟩

set_option maxRecDepth 100000 in
theorem lifted (os : Os) (started : os.Started) (H : Type) (enc : TypeId × Value → H) :
    ReturnsInHanded {} Try.checked os 8 .any (Rows.backoffRowSpec.pre6 enc Try.prog Try.f8 Rows.backoffRowRow.domain false) (Rows.backoffRowSpec.post enc Try.prog Try.f8 false true false false) := by
  refine returnsInHanded_of_change (C := Try.checked) own started (by kernel_rfl) Try.func8
    (ChangeSpec.witness6 (enc := enc) (C := Try.checked) false ⟨#[], #[.agg #[.int .i64 0, .int .i64 0, .int .i64 0], .int .i64 0, .int .i64 0], []⟩ 8 (by kernel_rfl) (by kernel_rfl) (by kernel_rfl) (by kernel_rfl)) ?_
  intro W base args ds gs before hval0 hW hcnd _
  have hval : ∀ (j : Nat) t v, Try.f8.params[j]? = some t → args[j]? = some v → Value.okWide Try.prog W .any base t v := hval0
  have hW' := hW
  obtain ⟨p, q, hA0, hV, rfl, hfz, hnd⟩ := hW
  have hA : DataW.TrodAll enc Try.prog W 0 (fun _ => true) true Try.f8.params.toList args.toList ds p := hA0
  rw [Try.params8] at hA hval
  obtain ⟨v0, vs0, d0, ds0, p0, q0, hargs, rfl, rfl, h0, r0⟩ := trodAll_cons hA
  obtain ⟨v1, vs1, d1, ds1, p1, q1, rfl, rfl, rfl, h1, r1⟩ := trodAll_cons r0
  obtain ⟨v2, vs2, d2, ds2, p2, q2, rfl, rfl, rfl, h2, r2⟩ := trodAll_cons r1
  obtain ⟨rfl, rfl, rfl⟩ := trodAll_nil r2
  obtain rfl : args = #[v0, v1, v2] := by cases args; simp_all
  obtain ⟨rfl, rfl⟩ := trodVars_none hV
  have k0 := h0
  have lt0 : ∀ x ∈ p0, x.block < W.heap.size := by obtain ⟨m, hm⟩ := k0; exact DataW.trod_lt m _ _ _ hm
  obtain ⟨x0, hv0⟩ := open_bset (hval 0 23 v0 rfl rfl) h0
  subst hv0
  obtain ⟨a1, rfl, rfl, rfl, w1⟩ := open_int Try.underlying3 (hval 1 3 v1 rfl rfl) h1
  obtain ⟨a2, rfl, rfl, rfl, w2⟩ := open_int Try.underlying3 (hval 2 3 v2 rfl rfl) h2
  clear hA0 hval0
  refine (walk x0 a1 w1 a2 w2).mono fun e W' ⟨he, bel⟩ => ?_
  subst he
  exact ⟨_, rfl, _, _, _, [], _, [], hW', trodAll_mk1 (shut_bool Try.underlying4 _), (trodAll_cons_mk (Below.trod laidOut (by kernel_rfl) (of_decide_eq_true (by kernel_rfl)) k0 bel lt0) (trodAll_cons_mk (shut_int Try.underlying3 w1) (trodAll_cons_mk (shut_int Try.underlying3 w2) trodAll_mk0))), rfl, bel.frame _, fun h => by cases h⟩

theorem over : Rows.backoffRowRow.holds Try.pinned (OpenSpec.ofChange Rows.backoffRowSpec) :=
  OpenClaim.holds_of_wide 8 Try.f8 rfl rfl rfl rfl rfl rfl rfl ⟨rfl, rfl, rfl, rfl, rfl⟩ rfl rfl rfl rfl rfl (by kernel_rfl) Try.func8 (by kernel_rfl)
    (of_decide_eq_true (by kernel_rfl)) (by unfold Func.isWrapper; first | (rw [if_pos (by decide +kernel)]; kernel_rfl) | (rw [if_neg (by decide +kernel)]; exact ⟨rfl, rfl⟩))
    (fun os started H enc _ => lifted os started H enc)
end Go.Proofs.Ytekldjfmdapgpaa.backoffRow

namespace Go.Proofs.Ytekldjfmdapgpaa
/-- THE STATEMENT. -/
theorem backoffRow_holds : Rows.BackoffRowSaid := backoffRow.over
#print axioms backoffRow_holds
end Go.Proofs.Ytekldjfmdapgpaa
