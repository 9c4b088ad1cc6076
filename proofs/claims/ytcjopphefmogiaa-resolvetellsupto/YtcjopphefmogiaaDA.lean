/- draw: the reference's Next, Skip, one, Two and Chance. -/
import Derived.Test.YtcjopphefmogiaaDP
import Derived.Test.YtcjopphefmogiaaHF
namespace Go.Proofs.Ytcjopphefmogiaa
open Go.RowKit
set_option maxRecDepth 20000

theorem results_tmp4 {fn : Func} {t u v x : Tmp} (h : fn.results = #[.tmp t, .tmp u, .tmp v, .tmp x]) (tmps : Array Value) (P : Program) (w : World) :
    (results fn tmps).run P w = .ok (.tuple #[tmps.getD t undef, tmps.getD u undef, tmps.getD v undef, tmps.getD x undef]) w := by
  simp [results, h]
theorem nxU (s : Nat) : IntKind.u64.wrap ((s : Int) + 11400714819323198485) = (Hp.nx s : Nat) := by rw [wrapU, Hp.nx_is]; omega

theorem shK_sh {x n : Nat} (h1 : 1 ≤ n) (h2 : n ≤ 1048576) : Hp.shK x n = (Hp.sh x n : Nat) := by
  rw [Hp.shK_in (by omega), Hp.sh_is]
  rw [Int.natCast_ediv, Int.natCast_mul, Int.natCast_ediv]
  rfl

/-- What Two tells. -/
def Hp.twoA (s : Nat) (n : Int) : Nat := Hp.one s n.toNat
def Hp.twoB (s : Nat) (n : Int) : Nat := if Hp.twoA s n ≤ Hp.one (Hp.nx s) (n.toNat - 1) then Hp.one (Hp.nx s) (n.toNat - 1) + 1 else Hp.one (Hp.nx s) (n.toNat - 1)
theorem Hp.twoA_lt {s : Nat} {n : Int} (h : 2 ≤ n) : (Hp.twoA s n : Int) < n := by
  have := Hp.one_lt s (n := n.toNat) (by omega)
  unfold Hp.twoA
  omega
theorem Hp.two_ok {s : Nat} {n : Int} (h : 2 ≤ n) : Hp.twoA s n ≠ Hp.twoB s n ∧ (Hp.twoB s n : Int) < n := by
  have h1 := Hp.one_lt s (n := n.toNat) (by omega)
  have h2 := Hp.one_lt (Hp.nx s) (n := n.toNat - 1) (by omega)
  have := Hp.two_apart (a := Hp.twoA s n) (b := Hp.one (Hp.nx s) (n.toNat - 1)) (n := n.toNat) (by unfold Hp.twoA; omega) h2
  unfold Hp.twoB
  omega

end Go.Proofs.Ytcjopphefmogiaa
