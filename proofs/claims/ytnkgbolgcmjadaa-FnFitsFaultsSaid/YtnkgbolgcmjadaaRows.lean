/-
  No cell of these rows narrows 'for every input' (looked for: loops, veiled, ifaces, maps, wideKeys, modest, calm, conditions, laid).
  DERIVED. THE GIVEN ROWS OF THIS SEAT. 8 by the template 'for every input the law returns true; each argument reads behind the call as it read before'; 0 by the template 'total and deterministic' (their statements: YtnkgbolgcmjadaaTotals.lean).
  GIVEN WITH THE SEED: the statements are not yours to turn. If you find one false, say at which input.
  Laid BY PROGRAM, IN A SANDBOX (cutbox-rows.mjs): the forced cells as the released guide's own fill.sh prints them over the translation b35910330190f71d… (all of the seat's roots in one cut). By AI agents, Wed Nov 11 2026. No macro, syntax, notation, axiom, sorry.
-/
import Derived.Test.YtnkgbolgcmjadaaChecked
import GoSem.Claim
import GoSem.ClaimJoined
import GoSem.ClaimMapViews
import Derived.JoinedTies
import Derived.KernelRfl
namespace Go.Proofs.Ytnkgbolgcmjadaa
/- THE CELL 'sum', in the pinned program and in every row, IS THE sha256 OF THE DUMP (.gsa) THAT YtnkgbolgcmjadaaProg.lean LOADS. Nothing in Lean hashes anything: it is a label: what it is worth is what the hold of that sum in a sandbox is worth. -/
noncomputable def Try.pinned : Pinned := { name := "ytnkgbolgcmjadaa", sum := "b35910330190f71d213247a6dea311d224252b484b67dcb3433412c491c470af", checked := Try.checked }
namespace Rows
def none {H : Type} : Left H := { results := [], args := [] }

/-- 'laws.FnSyndromeOk': WHATEVER THE INPUT: true; the input reads as it did. -/
def fnSyndromeOkSpec : ChangeSpec := { name := "fnSyndromeOk", fn := fun _ => fun
  | [d] => { results := [.lit (.bool true)], args := [d] }
  | _ => none }
def fnSyndromeOkRow : OpenClaim := { program := "ytnkgbolgcmjadaa", sum := "b35910330190f71d213247a6dea311d224252b484b67dcb3433412c491c470af", func := "loop.example/tellersandliars/laws.FnSyndromeOk", spec := "fnSyndromeOk", apart := false }
def FnSyndromeOkSaid : Prop := fnSyndromeOkRow.holds Try.pinned (OpenSpec.ofChange fnSyndromeOkSpec)

/-- ITS FALSE NEIGHBOUR: 'it returns false'. Refute it at one input. -/
def fnSyndromeOkWrong : ChangeSpec := { name := "fnSyndromeOk", fn := fun _ => fun
  | [d] => { results := [.lit (.bool false)], args := [d] }
  | _ => none }
def FnSyndromeOkWrongFalsely : Prop := fnSyndromeOkRow.holds Try.pinned (OpenSpec.ofChange fnSyndromeOkWrong)

/-- 'laws.FnFitsFaults': WHATEVER THE INPUT: true; the input reads as it did. -/
def fnFitsFaultsSpec : ChangeSpec := { name := "fnFitsFaults", fn := fun _ => fun
  | [d] => { results := [.lit (.bool true)], args := [d] }
  | _ => none }
def fnFitsFaultsRow : OpenClaim := { program := "ytnkgbolgcmjadaa", sum := "b35910330190f71d213247a6dea311d224252b484b67dcb3433412c491c470af", func := "loop.example/tellersandliars/laws.FnFitsFaults", spec := "fnFitsFaults", apart := false }
def FnFitsFaultsSaid : Prop := fnFitsFaultsRow.holds Try.pinned (OpenSpec.ofChange fnFitsFaultsSpec)

/-- ITS FALSE NEIGHBOUR: 'it returns false'. Refute it at one input. -/
def fnFitsFaultsWrong : ChangeSpec := { name := "fnFitsFaults", fn := fun _ => fun
  | [d] => { results := [.lit (.bool false)], args := [d] }
  | _ => none }
def FnFitsFaultsWrongFalsely : Prop := fnFitsFaultsRow.holds Try.pinned (OpenSpec.ofChange fnFitsFaultsWrong)

/-- 'laws.FnFaultSets': WHATEVER THE INPUT: true; the input reads as it did. -/
def fnFaultSetsSpec : ChangeSpec := { name := "fnFaultSets", fn := fun _ => fun
  | [d] => { results := [.lit (.bool true)], args := [d] }
  | _ => none }
def fnFaultSetsRow : OpenClaim := { program := "ytnkgbolgcmjadaa", sum := "b35910330190f71d213247a6dea311d224252b484b67dcb3433412c491c470af", func := "loop.example/tellersandliars/laws.FnFaultSets", spec := "fnFaultSets", apart := false }
def FnFaultSetsSaid : Prop := fnFaultSetsRow.holds Try.pinned (OpenSpec.ofChange fnFaultSetsSpec)

/-- ITS FALSE NEIGHBOUR: 'it returns false'. Refute it at one input. -/
def fnFaultSetsWrong : ChangeSpec := { name := "fnFaultSets", fn := fun _ => fun
  | [d] => { results := [.lit (.bool false)], args := [d] }
  | _ => none }
def FnFaultSetsWrongFalsely : Prop := fnFaultSetsRow.holds Try.pinned (OpenSpec.ofChange fnFaultSetsWrong)

/-- 'laws.FnSureMost': WHATEVER THE INPUT: true; the input reads as it did. -/
def fnSureMostSpec : ChangeSpec := { name := "fnSureMost", fn := fun _ => fun
  | [d] => { results := [.lit (.bool true)], args := [d] }
  | _ => none }
def fnSureMostRow : OpenClaim := { program := "ytnkgbolgcmjadaa", sum := "b35910330190f71d213247a6dea311d224252b484b67dcb3433412c491c470af", func := "loop.example/tellersandliars/laws.FnSureMost", spec := "fnSureMost", apart := false }
def FnSureMostSaid : Prop := fnSureMostRow.holds Try.pinned (OpenSpec.ofChange fnSureMostSpec)

/-- ITS FALSE NEIGHBOUR: 'it returns false'. Refute it at one input. -/
def fnSureMostWrong : ChangeSpec := { name := "fnSureMost", fn := fun _ => fun
  | [d] => { results := [.lit (.bool false)], args := [d] }
  | _ => none }
def FnSureMostWrongFalsely : Prop := fnSureMostRow.holds Try.pinned (OpenSpec.ofChange fnSureMostWrong)

/-- 'laws.FnOnlyFaults': WHATEVER THE INPUT: true; the input reads as it did. -/
def fnOnlyFaultsSpec : ChangeSpec := { name := "fnOnlyFaults", fn := fun _ => fun
  | [d] => { results := [.lit (.bool true)], args := [d] }
  | _ => none }
def fnOnlyFaultsRow : OpenClaim := { program := "ytnkgbolgcmjadaa", sum := "b35910330190f71d213247a6dea311d224252b484b67dcb3433412c491c470af", func := "loop.example/tellersandliars/laws.FnOnlyFaults", spec := "fnOnlyFaults", apart := false }
def FnOnlyFaultsSaid : Prop := fnOnlyFaultsRow.holds Try.pinned (OpenSpec.ofChange fnOnlyFaultsSpec)

/-- ITS FALSE NEIGHBOUR: 'it returns false'. Refute it at one input. -/
def fnOnlyFaultsWrong : ChangeSpec := { name := "fnOnlyFaults", fn := fun _ => fun
  | [d] => { results := [.lit (.bool false)], args := [d] }
  | _ => none }
def FnOnlyFaultsWrongFalsely : Prop := fnOnlyFaultsRow.holds Try.pinned (OpenSpec.ofChange fnOnlyFaultsWrong)

/-- 'laws.FnVotesAgainst': WHATEVER THE INPUT: true; the input reads as it did. -/
def fnVotesAgainstSpec : ChangeSpec := { name := "fnVotesAgainst", fn := fun _ => fun
  | [d] => { results := [.lit (.bool true)], args := [d] }
  | _ => none }
def fnVotesAgainstRow : OpenClaim := { program := "ytnkgbolgcmjadaa", sum := "b35910330190f71d213247a6dea311d224252b484b67dcb3433412c491c470af", func := "loop.example/tellersandliars/laws.FnVotesAgainst", spec := "fnVotesAgainst", apart := false }
def FnVotesAgainstSaid : Prop := fnVotesAgainstRow.holds Try.pinned (OpenSpec.ofChange fnVotesAgainstSpec)

/-- ITS FALSE NEIGHBOUR: 'it returns false'. Refute it at one input. -/
def fnVotesAgainstWrong : ChangeSpec := { name := "fnVotesAgainst", fn := fun _ => fun
  | [d] => { results := [.lit (.bool false)], args := [d] }
  | _ => none }
def FnVotesAgainstWrongFalsely : Prop := fnVotesAgainstRow.holds Try.pinned (OpenSpec.ofChange fnVotesAgainstWrong)

/-- 'laws.FnMadeSyndrome': WHATEVER THE INPUT: true; the input reads as it did. -/
def fnMadeSyndromeSpec : ChangeSpec := { name := "fnMadeSyndrome", fn := fun _ => fun
  | [d] => { results := [.lit (.bool true)], args := [d] }
  | _ => none }
def fnMadeSyndromeRow : OpenClaim := { program := "ytnkgbolgcmjadaa", sum := "b35910330190f71d213247a6dea311d224252b484b67dcb3433412c491c470af", func := "loop.example/tellersandliars/laws.FnMadeSyndrome", spec := "fnMadeSyndrome", apart := false }
def FnMadeSyndromeSaid : Prop := fnMadeSyndromeRow.holds Try.pinned (OpenSpec.ofChange fnMadeSyndromeSpec)

/-- ITS FALSE NEIGHBOUR: 'it returns false'. Refute it at one input. -/
def fnMadeSyndromeWrong : ChangeSpec := { name := "fnMadeSyndrome", fn := fun _ => fun
  | [d] => { results := [.lit (.bool false)], args := [d] }
  | _ => none }
def FnMadeSyndromeWrongFalsely : Prop := fnMadeSyndromeRow.holds Try.pinned (OpenSpec.ofChange fnMadeSyndromeWrong)

/-- 'laws.FnFaultsGrow': WHATEVER THE INPUT: true; the input reads as it did. -/
def fnFaultsGrowSpec : ChangeSpec := { name := "fnFaultsGrow", fn := fun _ => fun
  | [d] => { results := [.lit (.bool true)], args := [d] }
  | _ => none }
def fnFaultsGrowRow : OpenClaim := { program := "ytnkgbolgcmjadaa", sum := "b35910330190f71d213247a6dea311d224252b484b67dcb3433412c491c470af", func := "loop.example/tellersandliars/laws.FnFaultsGrow", spec := "fnFaultsGrow", apart := false }
def FnFaultsGrowSaid : Prop := fnFaultsGrowRow.holds Try.pinned (OpenSpec.ofChange fnFaultsGrowSpec)

/-- ITS FALSE NEIGHBOUR: 'it returns false'. Refute it at one input. -/
def fnFaultsGrowWrong : ChangeSpec := { name := "fnFaultsGrow", fn := fun _ => fun
  | [d] => { results := [.lit (.bool false)], args := [d] }
  | _ => none }
def FnFaultsGrowWrongFalsely : Prop := fnFaultsGrowRow.holds Try.pinned (OpenSpec.ofChange fnFaultsGrowWrong)

/- THE SECOND FORM. 'bulk': how many values and letters a reading holds, each counted each time it is reached (what is shared counts as often as it is met; a slice's spare places count too). A statement '..UptoSaid' is the law's where the arguments, and the package variables that the reading takes, are together of bulk at most 1048576: NARROWER than '..Said'. Prove '..Said' where nothing that the law and all that it calls make is longer than what came in: it says more and counts as full. Else prove '..UptoSaid'. A law counts once. -/
mutual
def uptoBulk {H : Type} : DataW H → Nat
  | .lit (.string bytes) => bytes.length + 1
  | .lit _ => 1
  | .nil => 1
  | .ptr d => uptoBulk d + 1
  | .slice elems spare => uptoBulkAll elems + uptoBulkAll spare + 1
  | .agg parts => uptoBulkAll parts + 1
  | .iface _ d => uptoBulk d + 1
  | .map entries => uptoBulkEntries entries + 1
  | .held _ => 1
def uptoBulkAll {H : Type} : List (DataW H) → Nat
  | [] => 0
  | d :: r => uptoBulk d + uptoBulkAll r
def uptoBulkEntries {H : Type} : List (Lit × DataW H) → Nat
  | [] => 0
  | x :: r => uptoBulkEntry x + uptoBulkEntries r
def uptoBulkEntry {H : Type} : Lit × DataW H → Nat
  | (.string bytes, d) => bytes.length + uptoBulk d + 1
  | (_, d) => uptoBulk d + 1
 end
def uptoSmall : (H : Type) → List (DataW H) → Bool := fun _ ds => decide (uptoBulkAll ds ≤ 1048576)
def OpenSpec.upto (s : _root_.Go.ChangeSpec) : _root_.Go.OpenSpec := { _root_.Go.OpenSpec.ofChange s with cond := some uptoSmall }

/-- 'laws.FnSyndromeOk', WHERE WHAT IT READS IS OF BULK AT MOST 1048576: true; the input reads as it did. -/
def fnSyndromeOkUptoRow : OpenClaim := { program := "ytnkgbolgcmjadaa", sum := "b35910330190f71d213247a6dea311d224252b484b67dcb3433412c491c470af", func := "loop.example/tellersandliars/laws.FnSyndromeOk", spec := "fnSyndromeOk", apart := false, narrowed := true }
def FnSyndromeOkUptoSaid : Prop := fnSyndromeOkUptoRow.holds Try.pinned (OpenSpec.upto fnSyndromeOkSpec)

/-- 'laws.FnFitsFaults', WHERE WHAT IT READS IS OF BULK AT MOST 1048576: true; the input reads as it did. -/
def fnFitsFaultsUptoRow : OpenClaim := { program := "ytnkgbolgcmjadaa", sum := "b35910330190f71d213247a6dea311d224252b484b67dcb3433412c491c470af", func := "loop.example/tellersandliars/laws.FnFitsFaults", spec := "fnFitsFaults", apart := false, narrowed := true }
def FnFitsFaultsUptoSaid : Prop := fnFitsFaultsUptoRow.holds Try.pinned (OpenSpec.upto fnFitsFaultsSpec)

/-- 'laws.FnFaultSets', WHERE WHAT IT READS IS OF BULK AT MOST 1048576: true; the input reads as it did. -/
def fnFaultSetsUptoRow : OpenClaim := { program := "ytnkgbolgcmjadaa", sum := "b35910330190f71d213247a6dea311d224252b484b67dcb3433412c491c470af", func := "loop.example/tellersandliars/laws.FnFaultSets", spec := "fnFaultSets", apart := false, narrowed := true }
def FnFaultSetsUptoSaid : Prop := fnFaultSetsUptoRow.holds Try.pinned (OpenSpec.upto fnFaultSetsSpec)

/-- 'laws.FnSureMost', WHERE WHAT IT READS IS OF BULK AT MOST 1048576: true; the input reads as it did. -/
def fnSureMostUptoRow : OpenClaim := { program := "ytnkgbolgcmjadaa", sum := "b35910330190f71d213247a6dea311d224252b484b67dcb3433412c491c470af", func := "loop.example/tellersandliars/laws.FnSureMost", spec := "fnSureMost", apart := false, narrowed := true }
def FnSureMostUptoSaid : Prop := fnSureMostUptoRow.holds Try.pinned (OpenSpec.upto fnSureMostSpec)

/-- 'laws.FnOnlyFaults', WHERE WHAT IT READS IS OF BULK AT MOST 1048576: true; the input reads as it did. -/
def fnOnlyFaultsUptoRow : OpenClaim := { program := "ytnkgbolgcmjadaa", sum := "b35910330190f71d213247a6dea311d224252b484b67dcb3433412c491c470af", func := "loop.example/tellersandliars/laws.FnOnlyFaults", spec := "fnOnlyFaults", apart := false, narrowed := true }
def FnOnlyFaultsUptoSaid : Prop := fnOnlyFaultsUptoRow.holds Try.pinned (OpenSpec.upto fnOnlyFaultsSpec)

/-- 'laws.FnVotesAgainst', WHERE WHAT IT READS IS OF BULK AT MOST 1048576: true; the input reads as it did. -/
def fnVotesAgainstUptoRow : OpenClaim := { program := "ytnkgbolgcmjadaa", sum := "b35910330190f71d213247a6dea311d224252b484b67dcb3433412c491c470af", func := "loop.example/tellersandliars/laws.FnVotesAgainst", spec := "fnVotesAgainst", apart := false, narrowed := true }
def FnVotesAgainstUptoSaid : Prop := fnVotesAgainstUptoRow.holds Try.pinned (OpenSpec.upto fnVotesAgainstSpec)

/-- 'laws.FnMadeSyndrome', WHERE WHAT IT READS IS OF BULK AT MOST 1048576: true; the input reads as it did. -/
def fnMadeSyndromeUptoRow : OpenClaim := { program := "ytnkgbolgcmjadaa", sum := "b35910330190f71d213247a6dea311d224252b484b67dcb3433412c491c470af", func := "loop.example/tellersandliars/laws.FnMadeSyndrome", spec := "fnMadeSyndrome", apart := false, narrowed := true }
def FnMadeSyndromeUptoSaid : Prop := fnMadeSyndromeUptoRow.holds Try.pinned (OpenSpec.upto fnMadeSyndromeSpec)

/-- 'laws.FnFaultsGrow', WHERE WHAT IT READS IS OF BULK AT MOST 1048576: true; the input reads as it did. -/
def fnFaultsGrowUptoRow : OpenClaim := { program := "ytnkgbolgcmjadaa", sum := "b35910330190f71d213247a6dea311d224252b484b67dcb3433412c491c470af", func := "loop.example/tellersandliars/laws.FnFaultsGrow", spec := "fnFaultsGrow", apart := false, narrowed := true }
def FnFaultsGrowUptoSaid : Prop := fnFaultsGrowUptoRow.holds Try.pinned (OpenSpec.upto fnFaultsGrowSpec)

end Rows
end Go.Proofs.Ytnkgbolgcmjadaa
