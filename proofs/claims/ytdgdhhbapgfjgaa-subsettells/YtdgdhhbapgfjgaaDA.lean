/- draw: the reference's Next, Skip, one, Two and Chance. -/
import Derived.Test.YtdgdhhbapgfjgaaDP
import Derived.Test.YtdgdhhbapgfjgaaHF
namespace Go.Proofs.Ytdgdhhbapgfjgaa
open Go.RowKit
set_option maxRecDepth 20000

theorem results_tmp4 {fn : Func} {t u v x : Tmp} (h : fn.results = #[.tmp t, .tmp u, .tmp v, .tmp x]) (tmps : Array Value) (P : Program) (w : World) :
    (results fn tmps).run P w = .ok (.tuple #[tmps.getD t undef, tmps.getD u undef, tmps.getD v undef, tmps.getD x undef]) w := by
  simp [results, h]
theorem nxU (s : Nat) : IntKind.u64.wrap ((s : Int) + 11400714819323198485) = (Hp.nx s : Nat) := by rw [wrapU, Hp.nx_is]; omega

set_option maxHeartbeats 400000 in
theorem rnext_any (s : Nat) (w : World) : Calls Try.prog 44 #[.int .u64 s] w fun e w' => e = .returned (.tuple #[.int .u64 (Hp.nx s : Nat), .int .u64 (Hp.dr s : Nat)]) ∧ w = w' := by
  have h1 := nxU s
  have c1 := rmix_any _ w (Hp.nx_lt s)
  rw [← Hp.dr_is] at c1
  generalize Hp.dr s = d at *
  generalize Hp.nx s = t at *
  go_enter Try.func44, Try.ntmps44
  go_wp2_with (go_at_call 35; with_reducible refine c1.mono ?_; rintro e w1 ⟨rfl, rfl⟩)
  go_ret2
  exact ⟨rfl, rfl⟩

theorem next_any (s : Nat) (w : World) : Calls Try.prog 49 #[.int .u64 s] w fun e w' => e = .returned (.tuple #[.int .u64 (Hp.nx s : Nat), .int .u64 (Hp.dr s : Nat)]) ∧ w = w' := by
  have h1 := nxU s
  have c1 := mix_any _ w (Hp.nx_lt s)
  rw [← Hp.dr_is] at c1
  generalize Hp.dr s = d at *
  generalize Hp.nx s = t at *
  go_enter Try.func49, Try.ntmps49
  go_wp2_with (go_at_call 41; with_reducible refine c1.mono ?_; rintro e w1 ⟨rfl, rfl⟩)
  go_ret2
  exact ⟨rfl, rfl⟩

theorem shK_sh {x n : Nat} (h1 : 1 ≤ n) (h2 : n ≤ 1048576) : Hp.shK x n = (Hp.sh x n : Nat) := by
  rw [Hp.shK_in (by omega), Hp.sh_is]
  rw [Int.natCast_ediv, Int.natCast_mul, Int.natCast_ediv]
  rfl

set_option maxHeartbeats 400000 in
theorem rone_any (s n : Nat) (w : World) (h1 : 1 ≤ n) (h2 : n ≤ 1048576) : Calls Try.prog 34 #[.int .u64 s, .int .i64 n] w fun e w' => e = .returned (.tuple #[.int .u64 (Hp.nx s : Nat), .int .i64 (Hp.one s n : Nat)]) ∧ w = w' := by
  have c1 := rnext_any s w
  have c2 := rshare_any (Hp.dr s) n w (Hp.dr_lt s) (by omega) (by omega)
  rw [shK_sh h1 h2, ← Hp.one_is, Hp.shE_in (by omega)] at c2
  generalize Hp.one s n = k at *
  generalize Hp.dr s = d at *
  generalize Hp.nx s = t at *
  go_enter Try.func34, Try.ntmps34
  go_wp2_with (first | (go_at_call 44; with_reducible refine c1.mono ?_; rintro e w1 ⟨rfl, rfl⟩) | (go_at_call 45; with_reducible refine c2.mono ?_; rintro e w1 ⟨rfl, rfl⟩))
  go_ret2
  exact ⟨rfl, rfl⟩

theorem one_any (s n : Nat) (w : World) (h1 : 1 ≤ n) (h2 : n ≤ 1048576) : Calls Try.prog 40 #[.int .u64 s, .int .i64 n] w fun e w' => e = .returned (.tuple #[.int .u64 (Hp.nx s : Nat), .int .i64 (Hp.one s n : Nat)]) ∧ w = w' := by
  have c1 := next_any s w
  have c2 := share_any (Hp.dr s) n w (Hp.dr_lt s) (by omega) (by omega)
  rw [shK_sh h1 h2, ← Hp.one_is, Hp.shE_in (by omega)] at c2
  generalize Hp.one s n = k at *
  generalize Hp.dr s = d at *
  generalize Hp.nx s = t at *
  go_enter Try.func40, Try.ntmps40
  go_wp2_with (first | (go_at_call 49; with_reducible refine c1.mono ?_; rintro e w1 ⟨rfl, rfl⟩) | (go_at_call 50; with_reducible refine c2.mono ?_; rintro e w1 ⟨rfl, rfl⟩))
  go_ret2
  exact ⟨rfl, rfl⟩

/-- What Two tells. -/
def Hp.twoA (s : Nat) (n : Int) : Nat := Hp.one s n.toNat
def Hp.twoB (s : Nat) (n : Int) : Nat := if Hp.twoA s n ≤ Hp.one (Hp.nx s) (n.toNat - 1) then Hp.one (Hp.nx s) (n.toNat - 1) + 1 else Hp.one (Hp.nx s) (n.toNat - 1)
theorem Hp.twoA_lt {s : Nat} {n : Int} (h : 2 ≤ n) : (Hp.twoA s n : Int) < n := by
  have := Hp.one_lt s (n := n.toNat) (by omega)
  unfold Hp.twoA
  omega
theorem Hp.two_ok {s : Nat} {n : Int} (h : 2 ≤ n) : Hp.twoA s n ≠ Hp.twoB s n ∧ (Hp.twoB s n : Int) < n := by
  have h1 := Hp.one_lt s (n := n.toNat) (by omega)
  have h2 := Hp.one_lt (Hp.nx s) (n := n.toNat - 1) (by omega)
  have := Hp.two_apart (a := Hp.twoA s n) (b := Hp.one (Hp.nx s) (n.toNat - 1)) (n := n.toNat) (by unfold Hp.twoA; omega) h2
  unfold Hp.twoB
  omega

end Go.Proofs.Ytdgdhhbapgfjgaa
