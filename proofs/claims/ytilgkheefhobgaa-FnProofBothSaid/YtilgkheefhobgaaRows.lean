/-
  No cell of these rows narrows 'for every input' (looked for: loops, veiled, ifaces, maps, wideKeys, modest, calm, conditions, laid).
  DERIVED. THE GIVEN ROWS OF THIS SEAT. 4 by the template 'for every input the law returns true; each argument reads behind the call as it read before'; 0 by the template 'total and deterministic' (their statements: YtilgkheefhobgaaTotals.lean).
  GIVEN WITH THE SEED: the statements are not yours to turn. If you find one false, say at which input.
  Laid BY PROGRAM, IN A SANDBOX (cutbox-rows.mjs): the forced cells as the released guide's own fill.sh prints them over the translation ed2babc69b1960bb… (all of the seat's roots in one cut). By AI agents, Wed Nov 11 2026. No macro, syntax, notation, axiom, sorry.
-/
import Derived.Test.YtilgkheefhobgaaChecked
import GoSem.Claim
import GoSem.ClaimJoined
import GoSem.ClaimMapViews
import Derived.JoinedTies
import Derived.KernelRfl
namespace Go.Proofs.Ytilgkheefhobgaa
/- THE CELL 'sum', in the pinned program and in every row, IS THE sha256 OF THE DUMP (.gsa) THAT YtilgkheefhobgaaProg.lean LOADS. Nothing in Lean hashes anything: it is a label: what it is worth is what the hold of that sum in a sandbox is worth. -/
noncomputable def Try.pinned : Pinned := { name := "ytilgkheefhobgaa", sum := "ed2babc69b1960bbeafd20aa0f2d7c7827b9b53e45119b153930c22e90ebe73f", checked := Try.checked }
namespace Rows
def none {H : Type} : Left H := { results := [], args := [] }

/-- 'laws.FnFollowsFrom': WHATEVER THE INPUT: true; the input reads as it did. -/
def fnFollowsFromSpec : ChangeSpec := { name := "fnFollowsFrom", fn := fun _ => fun
  | [d] => { results := [.lit (.bool true)], args := [d] }
  | _ => none }
def fnFollowsFromRow : OpenClaim := { program := "ytilgkheefhobgaa", sum := "ed2babc69b1960bbeafd20aa0f2d7c7827b9b53e45119b153930c22e90ebe73f", func := "loop.example/tellersandliars/laws.FnFollowsFrom", spec := "fnFollowsFrom", recurses := true, apart := false }
def FnFollowsFromSaid : Prop := fnFollowsFromRow.holds Try.pinned (OpenSpec.ofChange fnFollowsFromSpec)

/-- ITS FALSE NEIGHBOUR: 'it returns false'. Refute it at one input. -/
def fnFollowsFromWrong : ChangeSpec := { name := "fnFollowsFrom", fn := fun _ => fun
  | [d] => { results := [.lit (.bool false)], args := [d] }
  | _ => none }
def FnFollowsFromWrongFalsely : Prop := fnFollowsFromRow.holds Try.pinned (OpenSpec.ofChange fnFollowsFromWrong)

/-- 'laws.FnProofOk': WHATEVER THE INPUT: true; the input reads as it did. -/
def fnProofOkSpec : ChangeSpec := { name := "fnProofOk", fn := fun _ => fun
  | [d] => { results := [.lit (.bool true)], args := [d] }
  | _ => none }
def fnProofOkRow : OpenClaim := { program := "ytilgkheefhobgaa", sum := "ed2babc69b1960bbeafd20aa0f2d7c7827b9b53e45119b153930c22e90ebe73f", func := "loop.example/tellersandliars/laws.FnProofOk", spec := "fnProofOk", recurses := true, apart := false }
def FnProofOkSaid : Prop := fnProofOkRow.holds Try.pinned (OpenSpec.ofChange fnProofOkSpec)

/-- ITS FALSE NEIGHBOUR: 'it returns false'. Refute it at one input. -/
def fnProofOkWrong : ChangeSpec := { name := "fnProofOk", fn := fun _ => fun
  | [d] => { results := [.lit (.bool false)], args := [d] }
  | _ => none }
def FnProofOkWrongFalsely : Prop := fnProofOkRow.holds Try.pinned (OpenSpec.ofChange fnProofOkWrong)

/-- 'laws.FnFindProof': WHATEVER THE INPUT: true; the input reads as it did. -/
def fnFindProofSpec : ChangeSpec := { name := "fnFindProof", fn := fun _ => fun
  | [d] => { results := [.lit (.bool true)], args := [d] }
  | _ => none }
def fnFindProofRow : OpenClaim := { program := "ytilgkheefhobgaa", sum := "ed2babc69b1960bbeafd20aa0f2d7c7827b9b53e45119b153930c22e90ebe73f", func := "loop.example/tellersandliars/laws.FnFindProof", spec := "fnFindProof", recurses := true, apart := false }
def FnFindProofSaid : Prop := fnFindProofRow.holds Try.pinned (OpenSpec.ofChange fnFindProofSpec)

/-- ITS FALSE NEIGHBOUR: 'it returns false'. Refute it at one input. -/
def fnFindProofWrong : ChangeSpec := { name := "fnFindProof", fn := fun _ => fun
  | [d] => { results := [.lit (.bool false)], args := [d] }
  | _ => none }
def FnFindProofWrongFalsely : Prop := fnFindProofRow.holds Try.pinned (OpenSpec.ofChange fnFindProofWrong)

/-- 'laws.FnProofBoth': WHATEVER THE INPUT: true; the input reads as it did. -/
def fnProofBothSpec : ChangeSpec := { name := "fnProofBoth", fn := fun _ => fun
  | [d] => { results := [.lit (.bool true)], args := [d] }
  | _ => none }
def fnProofBothRow : OpenClaim := { program := "ytilgkheefhobgaa", sum := "ed2babc69b1960bbeafd20aa0f2d7c7827b9b53e45119b153930c22e90ebe73f", func := "loop.example/tellersandliars/laws.FnProofBoth", spec := "fnProofBoth", recurses := true, apart := false }
def FnProofBothSaid : Prop := fnProofBothRow.holds Try.pinned (OpenSpec.ofChange fnProofBothSpec)

/-- ITS FALSE NEIGHBOUR: 'it returns false'. Refute it at one input. -/
def fnProofBothWrong : ChangeSpec := { name := "fnProofBoth", fn := fun _ => fun
  | [d] => { results := [.lit (.bool false)], args := [d] }
  | _ => none }
def FnProofBothWrongFalsely : Prop := fnProofBothRow.holds Try.pinned (OpenSpec.ofChange fnProofBothWrong)

/- THE SECOND FORM. 'bulk': how many values and letters a reading holds, each counted each time it is reached (what is shared counts as often as it is met; a slice's spare places count too). A statement '..UptoSaid' is the law's where the arguments, and the package variables that the reading takes, are together of bulk at most 1048576: NARROWER than '..Said'. Prove '..Said' where nothing that the law and all that it calls make is longer than what came in: it says more and counts as full. Else prove '..UptoSaid'. A law counts once. -/
mutual
def uptoBulk {H : Type} : DataW H → Nat
  | .lit (.string bytes) => bytes.length + 1
  | .lit _ => 1
  | .nil => 1
  | .ptr d => uptoBulk d + 1
  | .slice elems spare => uptoBulkAll elems + uptoBulkAll spare + 1
  | .agg parts => uptoBulkAll parts + 1
  | .iface _ d => uptoBulk d + 1
  | .map entries => uptoBulkEntries entries + 1
  | .held _ => 1
def uptoBulkAll {H : Type} : List (DataW H) → Nat
  | [] => 0
  | d :: r => uptoBulk d + uptoBulkAll r
def uptoBulkEntries {H : Type} : List (Lit × DataW H) → Nat
  | [] => 0
  | x :: r => uptoBulkEntry x + uptoBulkEntries r
def uptoBulkEntry {H : Type} : Lit × DataW H → Nat
  | (.string bytes, d) => bytes.length + uptoBulk d + 1
  | (_, d) => uptoBulk d + 1
 end
def uptoSmall : (H : Type) → List (DataW H) → Bool := fun _ ds => decide (uptoBulkAll ds ≤ 1048576)
def OpenSpec.upto (s : _root_.Go.ChangeSpec) : _root_.Go.OpenSpec := { _root_.Go.OpenSpec.ofChange s with cond := some uptoSmall }

/-- 'laws.FnFollowsFrom', WHERE WHAT IT READS IS OF BULK AT MOST 1048576: true; the input reads as it did. -/
def fnFollowsFromUptoRow : OpenClaim := { program := "ytilgkheefhobgaa", sum := "ed2babc69b1960bbeafd20aa0f2d7c7827b9b53e45119b153930c22e90ebe73f", func := "loop.example/tellersandliars/laws.FnFollowsFrom", spec := "fnFollowsFrom", recurses := true, apart := false, narrowed := true }
def FnFollowsFromUptoSaid : Prop := fnFollowsFromUptoRow.holds Try.pinned (OpenSpec.upto fnFollowsFromSpec)

/-- 'laws.FnProofOk', WHERE WHAT IT READS IS OF BULK AT MOST 1048576: true; the input reads as it did. -/
def fnProofOkUptoRow : OpenClaim := { program := "ytilgkheefhobgaa", sum := "ed2babc69b1960bbeafd20aa0f2d7c7827b9b53e45119b153930c22e90ebe73f", func := "loop.example/tellersandliars/laws.FnProofOk", spec := "fnProofOk", recurses := true, apart := false, narrowed := true }
def FnProofOkUptoSaid : Prop := fnProofOkUptoRow.holds Try.pinned (OpenSpec.upto fnProofOkSpec)

/-- 'laws.FnFindProof', WHERE WHAT IT READS IS OF BULK AT MOST 1048576: true; the input reads as it did. -/
def fnFindProofUptoRow : OpenClaim := { program := "ytilgkheefhobgaa", sum := "ed2babc69b1960bbeafd20aa0f2d7c7827b9b53e45119b153930c22e90ebe73f", func := "loop.example/tellersandliars/laws.FnFindProof", spec := "fnFindProof", recurses := true, apart := false, narrowed := true }
def FnFindProofUptoSaid : Prop := fnFindProofUptoRow.holds Try.pinned (OpenSpec.upto fnFindProofSpec)

/-- 'laws.FnProofBoth', WHERE WHAT IT READS IS OF BULK AT MOST 1048576: true; the input reads as it did. -/
def fnProofBothUptoRow : OpenClaim := { program := "ytilgkheefhobgaa", sum := "ed2babc69b1960bbeafd20aa0f2d7c7827b9b53e45119b153930c22e90ebe73f", func := "loop.example/tellersandliars/laws.FnProofBoth", spec := "fnProofBoth", recurses := true, apart := false, narrowed := true }
def FnProofBothUptoSaid : Prop := fnProofBothUptoRow.holds Try.pinned (OpenSpec.upto fnProofBothSpec)

end Rows
end Go.Proofs.Ytilgkheefhobgaa
