/- draw: the reference's Next, Skip, one, Two and Chance. -/
import Derived.Test.YtcpcnajifdicmaaDP
import Derived.Test.YtcpcnajifdicmaaHF
namespace Go.Proofs.Ytcpcnajifdicmaa
open Go.RowKit
set_option maxRecDepth 20000

theorem results_tmp4 {fn : Func} {t u v x : Tmp} (h : fn.results = #[.tmp t, .tmp u, .tmp v, .tmp x]) (tmps : Array Value) (P : Program) (w : World) :
    (results fn tmps).run P w = .ok (.tuple #[tmps.getD t undef, tmps.getD u undef, tmps.getD v undef, tmps.getD x undef]) w := by
  simp [results, h]
theorem nxU (s : Nat) : IntKind.u64.wrap ((s : Int) + 11400714819323198485) = (Hp.nx s : Nat) := by rw [wrapU, Hp.nx_is]; omega

set_option maxHeartbeats 400000 in
theorem rnext_any (s : Nat) (w : World) : Calls Try.prog 52 #[.int .u64 s] w fun e w' => e = .returned (.tuple #[.int .u64 (Hp.nx s : Nat), .int .u64 (Hp.dr s : Nat)]) ∧ w = w' := by
  have h1 := nxU s
  have c1 := rmix_any _ w (Hp.nx_lt s)
  rw [← Hp.dr_is] at c1
  generalize Hp.dr s = d at *
  generalize Hp.nx s = t at *
  go_enter Try.func52, Try.ntmps52
  go_wp2_with (go_at_call 50; with_reducible refine c1.mono ?_; rintro e w1 ⟨rfl, rfl⟩)
  go_ret2
  exact ⟨rfl, rfl⟩

theorem next_any (s : Nat) (w : World) : Calls Try.prog 58 #[.int .u64 s] w fun e w' => e = .returned (.tuple #[.int .u64 (Hp.nx s : Nat), .int .u64 (Hp.dr s : Nat)]) ∧ w = w' := by
  have h1 := nxU s
  have c1 := mix_any _ w (Hp.nx_lt s)
  rw [← Hp.dr_is] at c1
  generalize Hp.dr s = d at *
  generalize Hp.nx s = t at *
  go_enter Try.func58, Try.ntmps58
  go_wp2_with (go_at_call 66; with_reducible refine c1.mono ?_; rintro e w1 ⟨rfl, rfl⟩)
  go_ret2
  exact ⟨rfl, rfl⟩

theorem shK_sh {x n : Nat} (h1 : 1 ≤ n) (h2 : n ≤ 1048576) : Hp.shK x n = (Hp.sh x n : Nat) := by
  rw [Hp.shK_in (by omega), Hp.sh_is]
  rw [Int.natCast_ediv, Int.natCast_mul, Int.natCast_ediv]
  rfl

set_option maxHeartbeats 400000 in
theorem rone_any (s n : Nat) (w : World) (h1 : 1 ≤ n) (h2 : n ≤ 1048576) : Calls Try.prog 46 #[.int .u64 s, .int .i64 n] w fun e w' => e = .returned (.tuple #[.int .u64 (Hp.nx s : Nat), .int .i64 (Hp.one s n : Nat)]) ∧ w = w' := by
  have c1 := rnext_any s w
  have c2 := rshare_any (Hp.dr s) n w (Hp.dr_lt s) (by omega) (by omega)
  rw [shK_sh h1 h2, ← Hp.one_is, Hp.shE_in (by omega)] at c2
  generalize Hp.one s n = k at *
  generalize Hp.dr s = d at *
  generalize Hp.nx s = t at *
  go_enter Try.func46, Try.ntmps46
  go_wp2_with (first | (go_at_call 52; with_reducible refine c1.mono ?_; rintro e w1 ⟨rfl, rfl⟩) | (go_at_call 53; with_reducible refine c2.mono ?_; rintro e w1 ⟨rfl, rfl⟩))
  go_ret2
  exact ⟨rfl, rfl⟩

theorem one_any (s n : Nat) (w : World) (h1 : 1 ≤ n) (h2 : n ≤ 1048576) : Calls Try.prog 51 #[.int .u64 s, .int .i64 n] w fun e w' => e = .returned (.tuple #[.int .u64 (Hp.nx s : Nat), .int .i64 (Hp.one s n : Nat)]) ∧ w = w' := by
  have c1 := next_any s w
  have c2 := share_any (Hp.dr s) n w (Hp.dr_lt s) (by omega) (by omega)
  rw [shK_sh h1 h2, ← Hp.one_is, Hp.shE_in (by omega)] at c2
  generalize Hp.one s n = k at *
  generalize Hp.dr s = d at *
  generalize Hp.nx s = t at *
  go_enter Try.func51, Try.ntmps51
  go_wp2_with (first | (go_at_call 58; with_reducible refine c1.mono ?_; rintro e w1 ⟨rfl, rfl⟩) | (go_at_call 59; with_reducible refine c2.mono ?_; rintro e w1 ⟨rfl, rfl⟩))
  go_ret2
  exact ⟨rfl, rfl⟩

/-- What Two tells. -/
def Hp.twoA (s : Nat) (n : Int) : Nat := Hp.one s n.toNat
def Hp.twoB (s : Nat) (n : Int) : Nat := if Hp.twoA s n ≤ Hp.one (Hp.nx s) (n.toNat - 1) then Hp.one (Hp.nx s) (n.toNat - 1) + 1 else Hp.one (Hp.nx s) (n.toNat - 1)
theorem Hp.twoA_lt {s : Nat} {n : Int} (h : 2 ≤ n) : (Hp.twoA s n : Int) < n := by
  have := Hp.one_lt s (n := n.toNat) (by omega)
  unfold Hp.twoA
  omega
theorem Hp.two_ok {s : Nat} {n : Int} (h : 2 ≤ n) : Hp.twoA s n ≠ Hp.twoB s n ∧ (Hp.twoB s n : Int) < n := by
  have h1 := Hp.one_lt s (n := n.toNat) (by omega)
  have h2 := Hp.one_lt (Hp.nx s) (n := n.toNat - 1) (by omega)
  have := Hp.two_apart (a := Hp.twoA s n) (b := Hp.one (Hp.nx s) (n.toNat - 1)) (n := n.toNat) (by unfold Hp.twoA; omega) h2
  unfold Hp.twoB
  omega

set_option maxHeartbeats 400000 in
theorem rtwo_any (s : Nat) (n : Int) (w : World) :
    Calls Try.prog 31 #[.int .u64 s, .int .i64 n] w fun e w' => e = .returned (if 2 ≤ n ∧ n ≤ 1048576 then .tuple #[.int .u64 (Hp.nx (Hp.nx s) : Nat), .int .i64 (Hp.twoA s n : Nat), .int .i64 (Hp.twoB s n : Nat), .int .i64 0] else .tuple #[.int .u64 0, .int .i64 0, .int .i64 0, .int .i64 4]) ∧ w = w' := by
  by_cases h : 2 ≤ n ∧ n ≤ 1048576
  · rw [if_pos h]
    obtain ⟨h1, h2⟩ := h
    obtain ⟨N, rfl⟩ := Int.eq_ofNat_of_zero_le (show 0 ≤ n by omega)
    have c1 := rone_any s N w (by omega) (by omega)
    have c2 := rone_any (Hp.nx s) (N - 1) w (by omega) (by omega)
    have hb := Hp.one_lt (Hp.nx s) (n := N - 1) (by omega)
    have e1 : Hp.twoA s (N : Int) = Hp.one s N := rfl
    have e2 : Hid (Hp.twoB s (N : Int) = if Hp.one s N ≤ Hp.one (Hp.nx s) (N - 1) then Hp.one (Hp.nx s) (N - 1) + 1 else Hp.one (Hp.nx s) (N - 1)) := rfl
    rw [e1]
    clear e1
    rw [show ((N - 1 : Nat) : Int) = (N : Int) - 1 by omega] at c2
    generalize Hp.one s N = a at *
    generalize Hp.twoB s (N : Int) = tb at *
    generalize Hp.one (Hp.nx s) (N - 1) = b at *
    generalize Hp.nx (Hp.nx s) = s2 at *
    generalize Hp.nx s = s1 at *
    by_cases hab : a ≤ b
    · have e3 := e2.out
      rw [if_pos hab] at e3
      subst e3
      have hab' : (a : Int) ≤ b := by omega
      go_enter Try.func31, Try.ntmps31
      go_wp2_with (go_at_call 46; (first | (with_reducible refine c1.mono ?_) | (with_reducible refine c2.mono ?_)); rintro e w1 ⟨rfl, rfl⟩)
      (try simp only [Exit.inBlock, Exit.then]); refine bodyPost_ret (results_tmp4 rfl _ _ _) rfl ?_
      refine ⟨?_, rfl⟩
      simp
    · have e3 := e2.out
      rw [if_neg hab] at e3
      subst e3
      have hab' : (tb : Int) < a := by omega
      go_enter Try.func31, Try.ntmps31
      go_wp2_with (go_at_call 46; (first | (with_reducible refine c1.mono ?_) | (with_reducible refine c2.mono ?_)); rintro e w1 ⟨rfl, rfl⟩)
      (try simp only [Exit.inBlock, Exit.then]); refine bodyPost_ret (results_tmp4 rfl _ _ _) rfl ?_
      refine ⟨?_, rfl⟩
      simp
  · rw [if_neg h]
    rcases Int.lt_or_le n 2 with h2 | h2
    · go_enter Try.func31, Try.ntmps31
      go_wp2
      (try simp only [Exit.inBlock, Exit.then]); refine bodyPost_ret (results_tmp4 rfl _ _ _) rfl ?_
      exact ⟨rfl, rfl⟩
    · have h3 : 1048576 < n := by omega
      go_enter Try.func31, Try.ntmps31
      go_wp2
      (try simp only [Exit.inBlock, Exit.then]); refine bodyPost_ret (results_tmp4 rfl _ _ _) rfl ?_
      exact ⟨rfl, rfl⟩

theorem two_any (s : Nat) (n : Int) (w : World) :
    Calls Try.prog 45 #[.int .u64 s, .int .i64 n] w fun e w' => e = .returned (if 2 ≤ n ∧ n ≤ 1048576 then .tuple #[.int .u64 (Hp.nx (Hp.nx s) : Nat), .int .i64 (Hp.twoA s n : Nat), .int .i64 (Hp.twoB s n : Nat), .int .i64 0] else .tuple #[.int .u64 0, .int .i64 0, .int .i64 0, .int .i64 4]) ∧ w = w' := by
  by_cases h : 2 ≤ n ∧ n ≤ 1048576
  · rw [if_pos h]
    obtain ⟨h1, h2⟩ := h
    obtain ⟨N, rfl⟩ := Int.eq_ofNat_of_zero_le (show 0 ≤ n by omega)
    have c1 := one_any s N w (by omega) (by omega)
    have c2 := one_any (Hp.nx s) (N - 1) w (by omega) (by omega)
    have hb := Hp.one_lt (Hp.nx s) (n := N - 1) (by omega)
    have e1 : Hp.twoA s (N : Int) = Hp.one s N := rfl
    have e2 : Hid (Hp.twoB s (N : Int) = if Hp.one s N ≤ Hp.one (Hp.nx s) (N - 1) then Hp.one (Hp.nx s) (N - 1) + 1 else Hp.one (Hp.nx s) (N - 1)) := rfl
    rw [e1]
    clear e1
    rw [show ((N - 1 : Nat) : Int) = (N : Int) - 1 by omega] at c2
    generalize Hp.one s N = a at *
    generalize Hp.twoB s (N : Int) = tb at *
    generalize Hp.one (Hp.nx s) (N - 1) = b at *
    generalize Hp.nx (Hp.nx s) = s2 at *
    generalize Hp.nx s = s1 at *
    by_cases hab : a ≤ b
    · have e3 := e2.out
      rw [if_pos hab] at e3
      subst e3
      have hab' : (a : Int) ≤ b := by omega
      go_enter Try.func45, Try.ntmps45
      go_wp2_with (go_at_call 51; (first | (with_reducible refine c1.mono ?_) | (with_reducible refine c2.mono ?_)); rintro e w1 ⟨rfl, rfl⟩)
      (try simp only [Exit.inBlock, Exit.then]); refine bodyPost_ret (results_tmp4 rfl _ _ _) rfl ?_
      refine ⟨?_, rfl⟩
      simp
    · have e3 := e2.out
      rw [if_neg hab] at e3
      subst e3
      have hab' : (tb : Int) < a := by omega
      go_enter Try.func45, Try.ntmps45
      go_wp2_with (go_at_call 51; (first | (with_reducible refine c1.mono ?_) | (with_reducible refine c2.mono ?_)); rintro e w1 ⟨rfl, rfl⟩)
      (try simp only [Exit.inBlock, Exit.then]); refine bodyPost_ret (results_tmp4 rfl _ _ _) rfl ?_
      refine ⟨?_, rfl⟩
      simp
  · rw [if_neg h]
    rcases Int.lt_or_le n 2 with h2 | h2
    · go_enter Try.func45, Try.ntmps45
      go_wp2
      (try simp only [Exit.inBlock, Exit.then]); refine bodyPost_ret (results_tmp4 rfl _ _ _) rfl ?_
      exact ⟨rfl, rfl⟩
    · have h3 : 1048576 < n := by omega
      go_enter Try.func45, Try.ntmps45
      go_wp2
      (try simp only [Exit.inBlock, Exit.then]); refine bodyPost_ret (results_tmp4 rfl _ _ _) rfl ?_
      exact ⟨rfl, rfl⟩

end Go.Proofs.Ytcpcnajifdicmaa
