/-
  No cell of these rows narrows 'for every input' (looked for: loops, veiled, ifaces, maps, wideKeys, modest, calm, conditions, laid).
  DERIVED. THE GIVEN ROWS OF THIS SEAT. 6 by the template 'for every input the law returns true; each argument reads behind the call as it read before'; 0 by the template 'total and deterministic' (their statements: YthdaldgmolhljaaTotals.lean).
  GIVEN WITH THE SEED: the statements are not yours to turn. If you find one false, say at which input.
  Laid BY PROGRAM, IN A SANDBOX (cutbox-rows.mjs): the forced cells as the released guide's own fill.sh prints them over the translation 1fc3b8925efdb1f8… (all of the seat's roots in one cut). By AI agents, Wed Nov 11 2026. No macro, syntax, notation, axiom, sorry.
-/
import Derived.Test.YthdaldgmolhljaaChecked
import GoSem.Claim
import GoSem.ClaimJoined
import GoSem.ClaimMapViews
import Derived.JoinedTies
import Derived.KernelRfl
namespace Go.Proofs.Ythdaldgmolhljaa
/- THE CELL 'sum', in the pinned program and in every row, IS THE sha256 OF THE DUMP (.gsa) THAT YthdaldgmolhljaaProg.lean LOADS. Nothing in Lean hashes anything: it is a label: what it is worth is what the hold of that sum in a sandbox is worth. -/
noncomputable def Try.pinned : Pinned := { name := "ythdaldgmolhljaa", sum := "1fc3b8925efdb1f86bbd946805c1678428d4f62f711d3097e89f6ca55fc6c631", checked := Try.checked }
namespace Rows
def none {H : Type} : Left H := { results := [], args := [] }

/-- 'waybilllaw19.HistoTells': WHATEVER THE INPUT: true; the input reads as it did. -/
def histoTellsSpec : ChangeSpec := { name := "histoTells", fn := fun _ => fun
  | [d1, d2, d3, d4, d5] => { results := [.lit (.bool true)], args := [d1, d2, d3, d4, d5] }
  | _ => none }
def histoTellsRow : OpenClaim := { program := "ythdaldgmolhljaa", sum := "1fc3b8925efdb1f86bbd946805c1678428d4f62f711d3097e89f6ca55fc6c631", func := "waybill/waybilllaw19.HistoTells", spec := "histoTells", unfollowed := true, recurses := true, apart := false }
def HistoTellsSaid : Prop := histoTellsRow.holds Try.pinned (OpenSpec.ofChange histoTellsSpec)

/-- ITS FALSE NEIGHBOUR: 'it returns false'. Refute it at one input. -/
def histoTellsWrong : ChangeSpec := { name := "histoTells", fn := fun _ => fun
  | [d1, d2, d3, d4, d5] => { results := [.lit (.bool false)], args := [d1, d2, d3, d4, d5] }
  | _ => none }
def HistoTellsWrongFalsely : Prop := histoTellsRow.holds Try.pinned (OpenSpec.ofChange histoTellsWrong)

/-- 'waybilllaw19.HistoBuckets': WHATEVER THE INPUT: true; the input reads as it did. -/
def histoBucketsSpec : ChangeSpec := { name := "histoBuckets", fn := fun _ => fun
  | [d] => { results := [.lit (.bool true)], args := [d] }
  | _ => none }
def histoBucketsRow : OpenClaim := { program := "ythdaldgmolhljaa", sum := "1fc3b8925efdb1f86bbd946805c1678428d4f62f711d3097e89f6ca55fc6c631", func := "waybill/waybilllaw19.HistoBuckets", spec := "histoBuckets", apart := false }
def HistoBucketsSaid : Prop := histoBucketsRow.holds Try.pinned (OpenSpec.ofChange histoBucketsSpec)

/-- ITS FALSE NEIGHBOUR: 'it returns false'. Refute it at one input. -/
def histoBucketsWrong : ChangeSpec := { name := "histoBuckets", fn := fun _ => fun
  | [d] => { results := [.lit (.bool false)], args := [d] }
  | _ => none }
def HistoBucketsWrongFalsely : Prop := histoBucketsRow.holds Try.pinned (OpenSpec.ofChange histoBucketsWrong)

/-- 'waybilllaw19.HistoQuantiles': WHATEVER THE INPUT: true; the input reads as it did. -/
def histoQuantilesSpec : ChangeSpec := { name := "histoQuantiles", fn := fun _ => fun
  | [d1, d2] => { results := [.lit (.bool true)], args := [d1, d2] }
  | _ => none }
def histoQuantilesRow : OpenClaim := { program := "ythdaldgmolhljaa", sum := "1fc3b8925efdb1f86bbd946805c1678428d4f62f711d3097e89f6ca55fc6c631", func := "waybill/waybilllaw19.HistoQuantiles", spec := "histoQuantiles", unfollowed := true, recurses := true, apart := false }
def HistoQuantilesSaid : Prop := histoQuantilesRow.holds Try.pinned (OpenSpec.ofChange histoQuantilesSpec)

/-- ITS FALSE NEIGHBOUR: 'it returns false'. Refute it at one input. -/
def histoQuantilesWrong : ChangeSpec := { name := "histoQuantiles", fn := fun _ => fun
  | [d1, d2] => { results := [.lit (.bool false)], args := [d1, d2] }
  | _ => none }
def HistoQuantilesWrongFalsely : Prop := histoQuantilesRow.holds Try.pinned (OpenSpec.ofChange histoQuantilesWrong)

/-- 'waybilllaw19.HistoMerges': WHATEVER THE INPUT: true; the input reads as it did. -/
def histoMergesSpec : ChangeSpec := { name := "histoMerges", fn := fun _ => fun
  | [d1, d2] => { results := [.lit (.bool true)], args := [d1, d2] }
  | _ => none }
def histoMergesRow : OpenClaim := { program := "ythdaldgmolhljaa", sum := "1fc3b8925efdb1f86bbd946805c1678428d4f62f711d3097e89f6ca55fc6c631", func := "waybill/waybilllaw19.HistoMerges", spec := "histoMerges", unfollowed := true, recurses := true, apart := false }
def HistoMergesSaid : Prop := histoMergesRow.holds Try.pinned (OpenSpec.ofChange histoMergesSpec)

/-- ITS FALSE NEIGHBOUR: 'it returns false'. Refute it at one input. -/
def histoMergesWrong : ChangeSpec := { name := "histoMerges", fn := fun _ => fun
  | [d1, d2] => { results := [.lit (.bool false)], args := [d1, d2] }
  | _ => none }
def HistoMergesWrongFalsely : Prop := histoMergesRow.holds Try.pinned (OpenSpec.ofChange histoMergesWrong)

/-- 'waybilllaw19.HistoRises': WHATEVER THE INPUT: true; the input reads as it did. -/
def histoRisesSpec : ChangeSpec := { name := "histoRises", fn := fun _ => fun
  | [d1, d2, d3] => { results := [.lit (.bool true)], args := [d1, d2, d3] }
  | _ => none }
def histoRisesRow : OpenClaim := { program := "ythdaldgmolhljaa", sum := "1fc3b8925efdb1f86bbd946805c1678428d4f62f711d3097e89f6ca55fc6c631", func := "waybill/waybilllaw19.HistoRises", spec := "histoRises", unfollowed := true, recurses := true, apart := false }
def HistoRisesSaid : Prop := histoRisesRow.holds Try.pinned (OpenSpec.ofChange histoRisesSpec)

/-- ITS FALSE NEIGHBOUR: 'it returns false'. Refute it at one input. -/
def histoRisesWrong : ChangeSpec := { name := "histoRises", fn := fun _ => fun
  | [d1, d2, d3] => { results := [.lit (.bool false)], args := [d1, d2, d3] }
  | _ => none }
def HistoRisesWrongFalsely : Prop := histoRisesRow.holds Try.pinned (OpenSpec.ofChange histoRisesWrong)

/-- 'waybilllaw19.HistoOwn': WHATEVER THE INPUT: true; the input reads as it did. -/
def histoOwnSpec : ChangeSpec := { name := "histoOwn", fn := fun _ => fun
  | [d1, d2] => { results := [.lit (.bool true)], args := [d1, d2] }
  | _ => none }
def histoOwnRow : OpenClaim := { program := "ythdaldgmolhljaa", sum := "1fc3b8925efdb1f86bbd946805c1678428d4f62f711d3097e89f6ca55fc6c631", func := "waybill/waybilllaw19.HistoOwn", spec := "histoOwn", unfollowed := true, recurses := true, apart := false }
def HistoOwnSaid : Prop := histoOwnRow.holds Try.pinned (OpenSpec.ofChange histoOwnSpec)

/-- ITS FALSE NEIGHBOUR: 'it returns false'. Refute it at one input. -/
def histoOwnWrong : ChangeSpec := { name := "histoOwn", fn := fun _ => fun
  | [d1, d2] => { results := [.lit (.bool false)], args := [d1, d2] }
  | _ => none }
def HistoOwnWrongFalsely : Prop := histoOwnRow.holds Try.pinned (OpenSpec.ofChange histoOwnWrong)

/- THE SECOND FORM. 'bulk': how many values and letters a reading holds, each counted each time it is reached (what is shared counts as often as it is met; a slice's spare places count too). A statement '..UptoSaid' is the law's where the arguments, and the package variables that the reading takes, are together of bulk at most 1048576: NARROWER than '..Said'. Prove '..Said' where nothing that the law and all that it calls make is longer than what came in: it says more and counts as full. Else prove '..UptoSaid'. A law counts once. -/
mutual
def uptoBulk {H : Type} : DataW H → Nat
  | .lit (.string bytes) => bytes.length + 1
  | .lit _ => 1
  | .nil => 1
  | .ptr d => uptoBulk d + 1
  | .slice elems spare => uptoBulkAll elems + uptoBulkAll spare + 1
  | .agg parts => uptoBulkAll parts + 1
  | .iface _ d => uptoBulk d + 1
  | .map entries => uptoBulkEntries entries + 1
  | .held _ => 1
def uptoBulkAll {H : Type} : List (DataW H) → Nat
  | [] => 0
  | d :: r => uptoBulk d + uptoBulkAll r
def uptoBulkEntries {H : Type} : List (Lit × DataW H) → Nat
  | [] => 0
  | x :: r => uptoBulkEntry x + uptoBulkEntries r
def uptoBulkEntry {H : Type} : Lit × DataW H → Nat
  | (.string bytes, d) => bytes.length + uptoBulk d + 1
  | (_, d) => uptoBulk d + 1
 end
def uptoSmall : (H : Type) → List (DataW H) → Bool := fun _ ds => decide (uptoBulkAll ds ≤ 1048576)
def OpenSpec.upto (s : _root_.Go.ChangeSpec) : _root_.Go.OpenSpec := { _root_.Go.OpenSpec.ofChange s with cond := some uptoSmall }

/-- 'waybilllaw19.HistoTells', WHERE WHAT IT READS IS OF BULK AT MOST 1048576: true; the input reads as it did. -/
def histoTellsUptoRow : OpenClaim := { program := "ythdaldgmolhljaa", sum := "1fc3b8925efdb1f86bbd946805c1678428d4f62f711d3097e89f6ca55fc6c631", func := "waybill/waybilllaw19.HistoTells", spec := "histoTells", unfollowed := true, recurses := true, apart := false, narrowed := true }
def HistoTellsUptoSaid : Prop := histoTellsUptoRow.holds Try.pinned (OpenSpec.upto histoTellsSpec)

/-- 'waybilllaw19.HistoBuckets', WHERE WHAT IT READS IS OF BULK AT MOST 1048576: true; the input reads as it did. -/
def histoBucketsUptoRow : OpenClaim := { program := "ythdaldgmolhljaa", sum := "1fc3b8925efdb1f86bbd946805c1678428d4f62f711d3097e89f6ca55fc6c631", func := "waybill/waybilllaw19.HistoBuckets", spec := "histoBuckets", apart := false, narrowed := true }
def HistoBucketsUptoSaid : Prop := histoBucketsUptoRow.holds Try.pinned (OpenSpec.upto histoBucketsSpec)

/-- 'waybilllaw19.HistoQuantiles', WHERE WHAT IT READS IS OF BULK AT MOST 1048576: true; the input reads as it did. -/
def histoQuantilesUptoRow : OpenClaim := { program := "ythdaldgmolhljaa", sum := "1fc3b8925efdb1f86bbd946805c1678428d4f62f711d3097e89f6ca55fc6c631", func := "waybill/waybilllaw19.HistoQuantiles", spec := "histoQuantiles", unfollowed := true, recurses := true, apart := false, narrowed := true }
def HistoQuantilesUptoSaid : Prop := histoQuantilesUptoRow.holds Try.pinned (OpenSpec.upto histoQuantilesSpec)

/-- 'waybilllaw19.HistoMerges', WHERE WHAT IT READS IS OF BULK AT MOST 1048576: true; the input reads as it did. -/
def histoMergesUptoRow : OpenClaim := { program := "ythdaldgmolhljaa", sum := "1fc3b8925efdb1f86bbd946805c1678428d4f62f711d3097e89f6ca55fc6c631", func := "waybill/waybilllaw19.HistoMerges", spec := "histoMerges", unfollowed := true, recurses := true, apart := false, narrowed := true }
def HistoMergesUptoSaid : Prop := histoMergesUptoRow.holds Try.pinned (OpenSpec.upto histoMergesSpec)

/-- 'waybilllaw19.HistoRises', WHERE WHAT IT READS IS OF BULK AT MOST 1048576: true; the input reads as it did. -/
def histoRisesUptoRow : OpenClaim := { program := "ythdaldgmolhljaa", sum := "1fc3b8925efdb1f86bbd946805c1678428d4f62f711d3097e89f6ca55fc6c631", func := "waybill/waybilllaw19.HistoRises", spec := "histoRises", unfollowed := true, recurses := true, apart := false, narrowed := true }
def HistoRisesUptoSaid : Prop := histoRisesUptoRow.holds Try.pinned (OpenSpec.upto histoRisesSpec)

/-- 'waybilllaw19.HistoOwn', WHERE WHAT IT READS IS OF BULK AT MOST 1048576: true; the input reads as it did. -/
def histoOwnUptoRow : OpenClaim := { program := "ythdaldgmolhljaa", sum := "1fc3b8925efdb1f86bbd946805c1678428d4f62f711d3097e89f6ca55fc6c631", func := "waybill/waybilllaw19.HistoOwn", spec := "histoOwn", unfollowed := true, recurses := true, apart := false, narrowed := true }
def HistoOwnUptoSaid : Prop := histoOwnUptoRow.holds Try.pinned (OpenSpec.upto histoOwnSpec)

end Rows
end Go.Proofs.Ythdaldgmolhljaa
