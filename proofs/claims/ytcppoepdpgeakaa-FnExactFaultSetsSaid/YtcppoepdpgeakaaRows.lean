/-
  No cell of these rows narrows 'for every input' (looked for: loops, veiled, ifaces, maps, wideKeys, modest, calm, conditions, laid).
  DERIVED. THE GIVEN ROWS OF THIS SEAT. 7 by the template 'for every input the law returns true; each argument reads behind the call as it read before'; 0 by the template 'total and deterministic' (their statements: YtcppoepdpgeakaaTotals.lean).
  GIVEN WITH THE SEED: the statements are not yours to turn. If you find one false, say at which input.
  Laid BY PROGRAM, IN A SANDBOX (cutbox-rows.mjs): the forced cells as the released guide's own fill.sh prints them over the translation 134c2566d84fb53c… (all of the seat's roots in one cut). By AI agents, Wed Nov 11 2026. No macro, syntax, notation, axiom, sorry.
-/
import Derived.Test.YtcppoepdpgeakaaChecked
import GoSem.Claim
import GoSem.ClaimJoined
import GoSem.ClaimMapViews
import Derived.JoinedTies
import Derived.KernelRfl
namespace Go.Proofs.Ytcppoepdpgeakaa
/- THE CELL 'sum', in the pinned program and in every row, IS THE sha256 OF THE DUMP (.gsa) THAT YtcppoepdpgeakaaProg.lean LOADS. Nothing in Lean hashes anything: it is a label: what it is worth is what the hold of that sum in a sandbox is worth. -/
noncomputable def Try.pinned : Pinned := { name := "ytcppoepdpgeakaa", sum := "134c2566d84fb53c11d59481cf87436da6ccf17cd3de91473c939470edf57f49", checked := Try.checked }
namespace Rows
def none {H : Type} : Left H := { results := [], args := [] }

/-- 'laws.FnExactSyndromeOk': WHATEVER THE INPUT: true; the input reads as it did. -/
def fnExactSyndromeOkSpec : ChangeSpec := { name := "fnExactSyndromeOk", fn := fun _ => fun
  | [d] => { results := [.lit (.bool true)], args := [d] }
  | _ => none }
def fnExactSyndromeOkRow : OpenClaim := { program := "ytcppoepdpgeakaa", sum := "134c2566d84fb53c11d59481cf87436da6ccf17cd3de91473c939470edf57f49", func := "loop.example/tellersandliars/laws.FnExactSyndromeOk", spec := "fnExactSyndromeOk", apart := false }
def FnExactSyndromeOkSaid : Prop := fnExactSyndromeOkRow.holds Try.pinned (OpenSpec.ofChange fnExactSyndromeOkSpec)

/-- ITS FALSE NEIGHBOUR: 'it returns false'. Refute it at one input. -/
def fnExactSyndromeOkWrong : ChangeSpec := { name := "fnExactSyndromeOk", fn := fun _ => fun
  | [d] => { results := [.lit (.bool false)], args := [d] }
  | _ => none }
def FnExactSyndromeOkWrongFalsely : Prop := fnExactSyndromeOkRow.holds Try.pinned (OpenSpec.ofChange fnExactSyndromeOkWrong)

/-- 'laws.FnExactFitsFaults': WHATEVER THE INPUT: true; the input reads as it did. -/
def fnExactFitsFaultsSpec : ChangeSpec := { name := "fnExactFitsFaults", fn := fun _ => fun
  | [d1, d2] => { results := [.lit (.bool true)], args := [d1, d2] }
  | _ => none }
def fnExactFitsFaultsRow : OpenClaim := { program := "ytcppoepdpgeakaa", sum := "134c2566d84fb53c11d59481cf87436da6ccf17cd3de91473c939470edf57f49", func := "loop.example/tellersandliars/laws.FnExactFitsFaults", spec := "fnExactFitsFaults", apart := false }
def FnExactFitsFaultsSaid : Prop := fnExactFitsFaultsRow.holds Try.pinned (OpenSpec.ofChange fnExactFitsFaultsSpec)

/-- ITS FALSE NEIGHBOUR: 'it returns false'. Refute it at one input. -/
def fnExactFitsFaultsWrong : ChangeSpec := { name := "fnExactFitsFaults", fn := fun _ => fun
  | [d1, d2] => { results := [.lit (.bool false)], args := [d1, d2] }
  | _ => none }
def FnExactFitsFaultsWrongFalsely : Prop := fnExactFitsFaultsRow.holds Try.pinned (OpenSpec.ofChange fnExactFitsFaultsWrong)

/-- 'laws.FnExactFaultSets': WHATEVER THE INPUT: true; the input reads as it did. -/
def fnExactFaultSetsSpec : ChangeSpec := { name := "fnExactFaultSets", fn := fun _ => fun
  | [d1, d2] => { results := [.lit (.bool true)], args := [d1, d2] }
  | _ => none }
def fnExactFaultSetsRow : OpenClaim := { program := "ytcppoepdpgeakaa", sum := "134c2566d84fb53c11d59481cf87436da6ccf17cd3de91473c939470edf57f49", func := "loop.example/tellersandliars/laws.FnExactFaultSets", spec := "fnExactFaultSets", apart := false }
def FnExactFaultSetsSaid : Prop := fnExactFaultSetsRow.holds Try.pinned (OpenSpec.ofChange fnExactFaultSetsSpec)

/-- ITS FALSE NEIGHBOUR: 'it returns false'. Refute it at one input. -/
def fnExactFaultSetsWrong : ChangeSpec := { name := "fnExactFaultSets", fn := fun _ => fun
  | [d1, d2] => { results := [.lit (.bool false)], args := [d1, d2] }
  | _ => none }
def FnExactFaultSetsWrongFalsely : Prop := fnExactFaultSetsRow.holds Try.pinned (OpenSpec.ofChange fnExactFaultSetsWrong)

/-- 'laws.FnExactSureMost': WHATEVER THE INPUT: true; the input reads as it did. -/
def fnExactSureMostSpec : ChangeSpec := { name := "fnExactSureMost", fn := fun _ => fun
  | [d] => { results := [.lit (.bool true)], args := [d] }
  | _ => none }
def fnExactSureMostRow : OpenClaim := { program := "ytcppoepdpgeakaa", sum := "134c2566d84fb53c11d59481cf87436da6ccf17cd3de91473c939470edf57f49", func := "loop.example/tellersandliars/laws.FnExactSureMost", spec := "fnExactSureMost", apart := false }
def FnExactSureMostSaid : Prop := fnExactSureMostRow.holds Try.pinned (OpenSpec.ofChange fnExactSureMostSpec)

/-- ITS FALSE NEIGHBOUR: 'it returns false'. Refute it at one input. -/
def fnExactSureMostWrong : ChangeSpec := { name := "fnExactSureMost", fn := fun _ => fun
  | [d] => { results := [.lit (.bool false)], args := [d] }
  | _ => none }
def FnExactSureMostWrongFalsely : Prop := fnExactSureMostRow.holds Try.pinned (OpenSpec.ofChange fnExactSureMostWrong)

/-- 'laws.FnExactOnlyFaults': WHATEVER THE INPUT: true; the input reads as it did. -/
def fnExactOnlyFaultsSpec : ChangeSpec := { name := "fnExactOnlyFaults", fn := fun _ => fun
  | [d] => { results := [.lit (.bool true)], args := [d] }
  | _ => none }
def fnExactOnlyFaultsRow : OpenClaim := { program := "ytcppoepdpgeakaa", sum := "134c2566d84fb53c11d59481cf87436da6ccf17cd3de91473c939470edf57f49", func := "loop.example/tellersandliars/laws.FnExactOnlyFaults", spec := "fnExactOnlyFaults", apart := false }
def FnExactOnlyFaultsSaid : Prop := fnExactOnlyFaultsRow.holds Try.pinned (OpenSpec.ofChange fnExactOnlyFaultsSpec)

/-- ITS FALSE NEIGHBOUR: 'it returns false'. Refute it at one input. -/
def fnExactOnlyFaultsWrong : ChangeSpec := { name := "fnExactOnlyFaults", fn := fun _ => fun
  | [d] => { results := [.lit (.bool false)], args := [d] }
  | _ => none }
def FnExactOnlyFaultsWrongFalsely : Prop := fnExactOnlyFaultsRow.holds Try.pinned (OpenSpec.ofChange fnExactOnlyFaultsWrong)

/-- 'laws.FnExactVotesAgainst': WHATEVER THE INPUT: true; the input reads as it did. -/
def fnExactVotesAgainstSpec : ChangeSpec := { name := "fnExactVotesAgainst", fn := fun _ => fun
  | [d1, d2] => { results := [.lit (.bool true)], args := [d1, d2] }
  | _ => none }
def fnExactVotesAgainstRow : OpenClaim := { program := "ytcppoepdpgeakaa", sum := "134c2566d84fb53c11d59481cf87436da6ccf17cd3de91473c939470edf57f49", func := "loop.example/tellersandliars/laws.FnExactVotesAgainst", spec := "fnExactVotesAgainst", apart := false }
def FnExactVotesAgainstSaid : Prop := fnExactVotesAgainstRow.holds Try.pinned (OpenSpec.ofChange fnExactVotesAgainstSpec)

/-- ITS FALSE NEIGHBOUR: 'it returns false'. Refute it at one input. -/
def fnExactVotesAgainstWrong : ChangeSpec := { name := "fnExactVotesAgainst", fn := fun _ => fun
  | [d1, d2] => { results := [.lit (.bool false)], args := [d1, d2] }
  | _ => none }
def FnExactVotesAgainstWrongFalsely : Prop := fnExactVotesAgainstRow.holds Try.pinned (OpenSpec.ofChange fnExactVotesAgainstWrong)

/-- 'laws.FnExactMadeSyndrome': WHATEVER THE INPUT: true; the input reads as it did. -/
def fnExactMadeSyndromeSpec : ChangeSpec := { name := "fnExactMadeSyndrome", fn := fun _ => fun
  | [d1, d2, d3] => { results := [.lit (.bool true)], args := [d1, d2, d3] }
  | _ => none }
def fnExactMadeSyndromeRow : OpenClaim := { program := "ytcppoepdpgeakaa", sum := "134c2566d84fb53c11d59481cf87436da6ccf17cd3de91473c939470edf57f49", func := "loop.example/tellersandliars/laws.FnExactMadeSyndrome", spec := "fnExactMadeSyndrome", apart := false }
def FnExactMadeSyndromeSaid : Prop := fnExactMadeSyndromeRow.holds Try.pinned (OpenSpec.ofChange fnExactMadeSyndromeSpec)

/-- ITS FALSE NEIGHBOUR: 'it returns false'. Refute it at one input. -/
def fnExactMadeSyndromeWrong : ChangeSpec := { name := "fnExactMadeSyndrome", fn := fun _ => fun
  | [d1, d2, d3] => { results := [.lit (.bool false)], args := [d1, d2, d3] }
  | _ => none }
def FnExactMadeSyndromeWrongFalsely : Prop := fnExactMadeSyndromeRow.holds Try.pinned (OpenSpec.ofChange fnExactMadeSyndromeWrong)

/- THE SECOND FORM. 'bulk': how many values and letters a reading holds, each counted each time it is reached (what is shared counts as often as it is met; a slice's spare places count too). A statement '..UptoSaid' is the law's where the arguments, and the package variables that the reading takes, are together of bulk at most 1048576: NARROWER than '..Said'. Prove '..Said' where nothing that the law and all that it calls make is longer than what came in: it says more and counts as full. Else prove '..UptoSaid'. A law counts once. -/
mutual
def uptoBulk {H : Type} : DataW H → Nat
  | .lit (.string bytes) => bytes.length + 1
  | .lit _ => 1
  | .nil => 1
  | .ptr d => uptoBulk d + 1
  | .slice elems spare => uptoBulkAll elems + uptoBulkAll spare + 1
  | .agg parts => uptoBulkAll parts + 1
  | .iface _ d => uptoBulk d + 1
  | .map entries => uptoBulkEntries entries + 1
  | .held _ => 1
def uptoBulkAll {H : Type} : List (DataW H) → Nat
  | [] => 0
  | d :: r => uptoBulk d + uptoBulkAll r
def uptoBulkEntries {H : Type} : List (Lit × DataW H) → Nat
  | [] => 0
  | x :: r => uptoBulkEntry x + uptoBulkEntries r
def uptoBulkEntry {H : Type} : Lit × DataW H → Nat
  | (.string bytes, d) => bytes.length + uptoBulk d + 1
  | (_, d) => uptoBulk d + 1
 end
def uptoSmall : (H : Type) → List (DataW H) → Bool := fun _ ds => decide (uptoBulkAll ds ≤ 1048576)
def OpenSpec.upto (s : _root_.Go.ChangeSpec) : _root_.Go.OpenSpec := { _root_.Go.OpenSpec.ofChange s with cond := some uptoSmall }

/-- 'laws.FnExactSyndromeOk', WHERE WHAT IT READS IS OF BULK AT MOST 1048576: true; the input reads as it did. -/
def fnExactSyndromeOkUptoRow : OpenClaim := { program := "ytcppoepdpgeakaa", sum := "134c2566d84fb53c11d59481cf87436da6ccf17cd3de91473c939470edf57f49", func := "loop.example/tellersandliars/laws.FnExactSyndromeOk", spec := "fnExactSyndromeOk", apart := false, narrowed := true }
def FnExactSyndromeOkUptoSaid : Prop := fnExactSyndromeOkUptoRow.holds Try.pinned (OpenSpec.upto fnExactSyndromeOkSpec)

/-- 'laws.FnExactFitsFaults', WHERE WHAT IT READS IS OF BULK AT MOST 1048576: true; the input reads as it did. -/
def fnExactFitsFaultsUptoRow : OpenClaim := { program := "ytcppoepdpgeakaa", sum := "134c2566d84fb53c11d59481cf87436da6ccf17cd3de91473c939470edf57f49", func := "loop.example/tellersandliars/laws.FnExactFitsFaults", spec := "fnExactFitsFaults", apart := false, narrowed := true }
def FnExactFitsFaultsUptoSaid : Prop := fnExactFitsFaultsUptoRow.holds Try.pinned (OpenSpec.upto fnExactFitsFaultsSpec)

/-- 'laws.FnExactFaultSets', WHERE WHAT IT READS IS OF BULK AT MOST 1048576: true; the input reads as it did. -/
def fnExactFaultSetsUptoRow : OpenClaim := { program := "ytcppoepdpgeakaa", sum := "134c2566d84fb53c11d59481cf87436da6ccf17cd3de91473c939470edf57f49", func := "loop.example/tellersandliars/laws.FnExactFaultSets", spec := "fnExactFaultSets", apart := false, narrowed := true }
def FnExactFaultSetsUptoSaid : Prop := fnExactFaultSetsUptoRow.holds Try.pinned (OpenSpec.upto fnExactFaultSetsSpec)

/-- 'laws.FnExactSureMost', WHERE WHAT IT READS IS OF BULK AT MOST 1048576: true; the input reads as it did. -/
def fnExactSureMostUptoRow : OpenClaim := { program := "ytcppoepdpgeakaa", sum := "134c2566d84fb53c11d59481cf87436da6ccf17cd3de91473c939470edf57f49", func := "loop.example/tellersandliars/laws.FnExactSureMost", spec := "fnExactSureMost", apart := false, narrowed := true }
def FnExactSureMostUptoSaid : Prop := fnExactSureMostUptoRow.holds Try.pinned (OpenSpec.upto fnExactSureMostSpec)

/-- 'laws.FnExactOnlyFaults', WHERE WHAT IT READS IS OF BULK AT MOST 1048576: true; the input reads as it did. -/
def fnExactOnlyFaultsUptoRow : OpenClaim := { program := "ytcppoepdpgeakaa", sum := "134c2566d84fb53c11d59481cf87436da6ccf17cd3de91473c939470edf57f49", func := "loop.example/tellersandliars/laws.FnExactOnlyFaults", spec := "fnExactOnlyFaults", apart := false, narrowed := true }
def FnExactOnlyFaultsUptoSaid : Prop := fnExactOnlyFaultsUptoRow.holds Try.pinned (OpenSpec.upto fnExactOnlyFaultsSpec)

/-- 'laws.FnExactVotesAgainst', WHERE WHAT IT READS IS OF BULK AT MOST 1048576: true; the input reads as it did. -/
def fnExactVotesAgainstUptoRow : OpenClaim := { program := "ytcppoepdpgeakaa", sum := "134c2566d84fb53c11d59481cf87436da6ccf17cd3de91473c939470edf57f49", func := "loop.example/tellersandliars/laws.FnExactVotesAgainst", spec := "fnExactVotesAgainst", apart := false, narrowed := true }
def FnExactVotesAgainstUptoSaid : Prop := fnExactVotesAgainstUptoRow.holds Try.pinned (OpenSpec.upto fnExactVotesAgainstSpec)

/-- 'laws.FnExactMadeSyndrome', WHERE WHAT IT READS IS OF BULK AT MOST 1048576: true; the input reads as it did. -/
def fnExactMadeSyndromeUptoRow : OpenClaim := { program := "ytcppoepdpgeakaa", sum := "134c2566d84fb53c11d59481cf87436da6ccf17cd3de91473c939470edf57f49", func := "loop.example/tellersandliars/laws.FnExactMadeSyndrome", spec := "fnExactMadeSyndrome", apart := false, narrowed := true }
def FnExactMadeSyndromeUptoSaid : Prop := fnExactMadeSyndromeUptoRow.holds Try.pinned (OpenSpec.upto fnExactMadeSyndromeSpec)

end Rows
end Go.Proofs.Ytcppoepdpgeakaa
