/-
  No cell of these rows narrows 'for every input' (looked for: loops, veiled, ifaces, maps, wideKeys, modest, calm, conditions, laid).
  DERIVED. THE GIVEN ROWS OF THIS SEAT. 6 by the template 'for every input the law returns true; each argument reads behind the call as it read before'; 0 by the template 'total and deterministic' (their statements: YtekldjfmdapgpaaTotals.lean).
  GIVEN WITH THE SEED: the statements are not yours to turn. If you find one false, say at which input.
  Laid BY PROGRAM, IN A SANDBOX (cutbox-rows.mjs): the forced cells as the released guide's own fill.sh prints them over the translation 4619eea710d0af2b… (all of the seat's roots in one cut). By AI agents, Wed Nov 11 2026. No macro, syntax, notation, axiom, sorry.
-/
import Derived.Test.YtekldjfmdapgpaaChecked
import GoSem.Claim
import GoSem.ClaimJoined
import GoSem.ClaimMapViews
import Derived.JoinedTies
import Derived.KernelRfl
namespace Go.Proofs.Ytekldjfmdapgpaa
/- THE CELL 'sum', in the pinned program and in every row, IS THE sha256 OF THE DUMP (.gsa) THAT YtekldjfmdapgpaaProg.lean LOADS. Nothing in Lean hashes anything: it is a label: what it is worth is what the hold of that sum in a sandbox is worth. -/
noncomputable def Try.pinned : Pinned := { name := "ytekldjfmdapgpaa", sum := "4619eea710d0af2ba084efdabf3b1069545f746151ec7c187fe5da6b871b6ed3", checked := Try.checked }
namespace Rows
def none {H : Type} : Left H := { results := [], args := [] }

/-- 'waybilllaw18.BackoffTells': WHATEVER THE INPUT: true; the input reads as it did. -/
def backoffTellsSpec : ChangeSpec := { name := "backoffTells", fn := fun _ => fun
  | [d1, d2, d3, d4] => { results := [.lit (.bool true)], args := [d1, d2, d3, d4] }
  | _ => none }
def backoffTellsRow : OpenClaim := { program := "ytekldjfmdapgpaa", sum := "4619eea710d0af2ba084efdabf3b1069545f746151ec7c187fe5da6b871b6ed3", func := "waybill/waybilllaw18.BackoffTells", spec := "backoffTells", unfollowed := true, recurses := true, apart := false }
def BackoffTellsSaid : Prop := backoffTellsRow.holds Try.pinned (OpenSpec.ofChange backoffTellsSpec)

/-- ITS FALSE NEIGHBOUR: 'it returns false'. Refute it at one input. -/
def backoffTellsWrong : ChangeSpec := { name := "backoffTells", fn := fun _ => fun
  | [d1, d2, d3, d4] => { results := [.lit (.bool false)], args := [d1, d2, d3, d4] }
  | _ => none }
def BackoffTellsWrongFalsely : Prop := backoffTellsRow.holds Try.pinned (OpenSpec.ofChange backoffTellsWrong)

/-- 'waybilllaw18.BackoffBounds': WHATEVER THE INPUT: true; the input reads as it did. -/
def backoffBoundsSpec : ChangeSpec := { name := "backoffBounds", fn := fun _ => fun
  | [d1, d2, d3] => { results := [.lit (.bool true)], args := [d1, d2, d3] }
  | _ => none }
def backoffBoundsRow : OpenClaim := { program := "ytekldjfmdapgpaa", sum := "4619eea710d0af2ba084efdabf3b1069545f746151ec7c187fe5da6b871b6ed3", func := "waybill/waybilllaw18.BackoffBounds", spec := "backoffBounds", unfollowed := true, recurses := true, apart := false }
def BackoffBoundsSaid : Prop := backoffBoundsRow.holds Try.pinned (OpenSpec.ofChange backoffBoundsSpec)

/-- ITS FALSE NEIGHBOUR: 'it returns false'. Refute it at one input. -/
def backoffBoundsWrong : ChangeSpec := { name := "backoffBounds", fn := fun _ => fun
  | [d1, d2, d3] => { results := [.lit (.bool false)], args := [d1, d2, d3] }
  | _ => none }
def BackoffBoundsWrongFalsely : Prop := backoffBoundsRow.holds Try.pinned (OpenSpec.ofChange backoffBoundsWrong)

/-- 'waybilllaw18.BackoffGrows': WHATEVER THE INPUT: true; the input reads as it did. -/
def backoffGrowsSpec : ChangeSpec := { name := "backoffGrows", fn := fun _ => fun
  | [d1, d2] => { results := [.lit (.bool true)], args := [d1, d2] }
  | _ => none }
def backoffGrowsRow : OpenClaim := { program := "ytekldjfmdapgpaa", sum := "4619eea710d0af2ba084efdabf3b1069545f746151ec7c187fe5da6b871b6ed3", func := "waybill/waybilllaw18.BackoffGrows", spec := "backoffGrows", unfollowed := true, recurses := true, apart := false }
def BackoffGrowsSaid : Prop := backoffGrowsRow.holds Try.pinned (OpenSpec.ofChange backoffGrowsSpec)

/-- ITS FALSE NEIGHBOUR: 'it returns false'. Refute it at one input. -/
def backoffGrowsWrong : ChangeSpec := { name := "backoffGrows", fn := fun _ => fun
  | [d1, d2] => { results := [.lit (.bool false)], args := [d1, d2] }
  | _ => none }
def BackoffGrowsWrongFalsely : Prop := backoffGrowsRow.holds Try.pinned (OpenSpec.ofChange backoffGrowsWrong)

/-- 'waybilllaw18.BackoffSums': WHATEVER THE INPUT: true; the input reads as it did. -/
def backoffSumsSpec : ChangeSpec := { name := "backoffSums", fn := fun _ => fun
  | [d1, d2] => { results := [.lit (.bool true)], args := [d1, d2] }
  | _ => none }
def backoffSumsRow : OpenClaim := { program := "ytekldjfmdapgpaa", sum := "4619eea710d0af2ba084efdabf3b1069545f746151ec7c187fe5da6b871b6ed3", func := "waybill/waybilllaw18.BackoffSums", spec := "backoffSums", unfollowed := true, recurses := true, apart := false }
def BackoffSumsSaid : Prop := backoffSumsRow.holds Try.pinned (OpenSpec.ofChange backoffSumsSpec)

/-- ITS FALSE NEIGHBOUR: 'it returns false'. Refute it at one input. -/
def backoffSumsWrong : ChangeSpec := { name := "backoffSums", fn := fun _ => fun
  | [d1, d2] => { results := [.lit (.bool false)], args := [d1, d2] }
  | _ => none }
def BackoffSumsWrongFalsely : Prop := backoffSumsRow.holds Try.pinned (OpenSpec.ofChange backoffSumsWrong)

/-- 'waybilllaw18.BackoffJitter': WHATEVER THE INPUT: true; the input reads as it did. -/
def backoffJitterSpec : ChangeSpec := { name := "backoffJitter", fn := fun _ => fun
  | [d1, d2, d3, d4] => { results := [.lit (.bool true)], args := [d1, d2, d3, d4] }
  | _ => none }
def backoffJitterRow : OpenClaim := { program := "ytekldjfmdapgpaa", sum := "4619eea710d0af2ba084efdabf3b1069545f746151ec7c187fe5da6b871b6ed3", func := "waybill/waybilllaw18.BackoffJitter", spec := "backoffJitter", unfollowed := true, recurses := true, apart := false }
def BackoffJitterSaid : Prop := backoffJitterRow.holds Try.pinned (OpenSpec.ofChange backoffJitterSpec)

/-- ITS FALSE NEIGHBOUR: 'it returns false'. Refute it at one input. -/
def backoffJitterWrong : ChangeSpec := { name := "backoffJitter", fn := fun _ => fun
  | [d1, d2, d3, d4] => { results := [.lit (.bool false)], args := [d1, d2, d3, d4] }
  | _ => none }
def BackoffJitterWrongFalsely : Prop := backoffJitterRow.holds Try.pinned (OpenSpec.ofChange backoffJitterWrong)

/-- 'waybilllaw18.BackoffRow': WHATEVER THE INPUT: true; the input reads as it did. -/
def backoffRowSpec : ChangeSpec := { name := "backoffRow", fn := fun _ => fun
  | [d1, d2, d3] => { results := [.lit (.bool true)], args := [d1, d2, d3] }
  | _ => none }
def backoffRowRow : OpenClaim := { program := "ytekldjfmdapgpaa", sum := "4619eea710d0af2ba084efdabf3b1069545f746151ec7c187fe5da6b871b6ed3", func := "waybill/waybilllaw18.BackoffRow", spec := "backoffRow", unfollowed := true, recurses := true, apart := false }
def BackoffRowSaid : Prop := backoffRowRow.holds Try.pinned (OpenSpec.ofChange backoffRowSpec)

/-- ITS FALSE NEIGHBOUR: 'it returns false'. Refute it at one input. -/
def backoffRowWrong : ChangeSpec := { name := "backoffRow", fn := fun _ => fun
  | [d1, d2, d3] => { results := [.lit (.bool false)], args := [d1, d2, d3] }
  | _ => none }
def BackoffRowWrongFalsely : Prop := backoffRowRow.holds Try.pinned (OpenSpec.ofChange backoffRowWrong)

/- THE SECOND FORM. 'bulk': how many values and letters a reading holds, each counted each time it is reached (what is shared counts as often as it is met; a slice's spare places count too). A statement '..UptoSaid' is the law's where the arguments, and the package variables that the reading takes, are together of bulk at most 1048576: NARROWER than '..Said'. Prove '..Said' where nothing that the law and all that it calls make is longer than what came in: it says more and counts as full. Else prove '..UptoSaid'. A law counts once. -/
mutual
def uptoBulk {H : Type} : DataW H → Nat
  | .lit (.string bytes) => bytes.length + 1
  | .lit _ => 1
  | .nil => 1
  | .ptr d => uptoBulk d + 1
  | .slice elems spare => uptoBulkAll elems + uptoBulkAll spare + 1
  | .agg parts => uptoBulkAll parts + 1
  | .iface _ d => uptoBulk d + 1
  | .map entries => uptoBulkEntries entries + 1
  | .held _ => 1
def uptoBulkAll {H : Type} : List (DataW H) → Nat
  | [] => 0
  | d :: r => uptoBulk d + uptoBulkAll r
def uptoBulkEntries {H : Type} : List (Lit × DataW H) → Nat
  | [] => 0
  | x :: r => uptoBulkEntry x + uptoBulkEntries r
def uptoBulkEntry {H : Type} : Lit × DataW H → Nat
  | (.string bytes, d) => bytes.length + uptoBulk d + 1
  | (_, d) => uptoBulk d + 1
 end
def uptoSmall : (H : Type) → List (DataW H) → Bool := fun _ ds => decide (uptoBulkAll ds ≤ 1048576)
def OpenSpec.upto (s : _root_.Go.ChangeSpec) : _root_.Go.OpenSpec := { _root_.Go.OpenSpec.ofChange s with cond := some uptoSmall }

/-- 'waybilllaw18.BackoffTells', WHERE WHAT IT READS IS OF BULK AT MOST 1048576: true; the input reads as it did. -/
def backoffTellsUptoRow : OpenClaim := { program := "ytekldjfmdapgpaa", sum := "4619eea710d0af2ba084efdabf3b1069545f746151ec7c187fe5da6b871b6ed3", func := "waybill/waybilllaw18.BackoffTells", spec := "backoffTells", unfollowed := true, recurses := true, apart := false, narrowed := true }
def BackoffTellsUptoSaid : Prop := backoffTellsUptoRow.holds Try.pinned (OpenSpec.upto backoffTellsSpec)

/-- 'waybilllaw18.BackoffBounds', WHERE WHAT IT READS IS OF BULK AT MOST 1048576: true; the input reads as it did. -/
def backoffBoundsUptoRow : OpenClaim := { program := "ytekldjfmdapgpaa", sum := "4619eea710d0af2ba084efdabf3b1069545f746151ec7c187fe5da6b871b6ed3", func := "waybill/waybilllaw18.BackoffBounds", spec := "backoffBounds", unfollowed := true, recurses := true, apart := false, narrowed := true }
def BackoffBoundsUptoSaid : Prop := backoffBoundsUptoRow.holds Try.pinned (OpenSpec.upto backoffBoundsSpec)

/-- 'waybilllaw18.BackoffGrows', WHERE WHAT IT READS IS OF BULK AT MOST 1048576: true; the input reads as it did. -/
def backoffGrowsUptoRow : OpenClaim := { program := "ytekldjfmdapgpaa", sum := "4619eea710d0af2ba084efdabf3b1069545f746151ec7c187fe5da6b871b6ed3", func := "waybill/waybilllaw18.BackoffGrows", spec := "backoffGrows", unfollowed := true, recurses := true, apart := false, narrowed := true }
def BackoffGrowsUptoSaid : Prop := backoffGrowsUptoRow.holds Try.pinned (OpenSpec.upto backoffGrowsSpec)

/-- 'waybilllaw18.BackoffSums', WHERE WHAT IT READS IS OF BULK AT MOST 1048576: true; the input reads as it did. -/
def backoffSumsUptoRow : OpenClaim := { program := "ytekldjfmdapgpaa", sum := "4619eea710d0af2ba084efdabf3b1069545f746151ec7c187fe5da6b871b6ed3", func := "waybill/waybilllaw18.BackoffSums", spec := "backoffSums", unfollowed := true, recurses := true, apart := false, narrowed := true }
def BackoffSumsUptoSaid : Prop := backoffSumsUptoRow.holds Try.pinned (OpenSpec.upto backoffSumsSpec)

/-- 'waybilllaw18.BackoffJitter', WHERE WHAT IT READS IS OF BULK AT MOST 1048576: true; the input reads as it did. -/
def backoffJitterUptoRow : OpenClaim := { program := "ytekldjfmdapgpaa", sum := "4619eea710d0af2ba084efdabf3b1069545f746151ec7c187fe5da6b871b6ed3", func := "waybill/waybilllaw18.BackoffJitter", spec := "backoffJitter", unfollowed := true, recurses := true, apart := false, narrowed := true }
def BackoffJitterUptoSaid : Prop := backoffJitterUptoRow.holds Try.pinned (OpenSpec.upto backoffJitterSpec)

/-- 'waybilllaw18.BackoffRow', WHERE WHAT IT READS IS OF BULK AT MOST 1048576: true; the input reads as it did. -/
def backoffRowUptoRow : OpenClaim := { program := "ytekldjfmdapgpaa", sum := "4619eea710d0af2ba084efdabf3b1069545f746151ec7c187fe5da6b871b6ed3", func := "waybill/waybilllaw18.BackoffRow", spec := "backoffRow", unfollowed := true, recurses := true, apart := false, narrowed := true }
def BackoffRowUptoSaid : Prop := backoffRowUptoRow.holds Try.pinned (OpenSpec.upto backoffRowSpec)

end Rows
end Go.Proofs.Ytekldjfmdapgpaa
