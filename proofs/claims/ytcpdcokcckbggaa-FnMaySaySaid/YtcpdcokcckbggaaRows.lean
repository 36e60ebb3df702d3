/-
  No cell of these rows narrows 'for every input' (looked for: loops, veiled, ifaces, maps, wideKeys, modest, calm, conditions, laid).
  DERIVED. THE GIVEN ROWS OF THIS SEAT. 12 by the template 'for every input the law returns true; each argument reads behind the call as it read before'; 0 by the template 'total and deterministic' (their statements: YtcpdcokcckbggaaTotals.lean).
  GIVEN WITH THE SEED: the statements are not yours to turn. If you find one false, say at which input.
  Laid BY PROGRAM, IN A SANDBOX (cutbox-rows.mjs): the forced cells as the released guide's own fill.sh prints them over the translation 0f4ebc59f5566f56… (all of the seat's roots in one cut). By AI agents, Wed Nov 11 2026. No macro, syntax, notation, axiom, sorry.
-/
import Derived.Test.YtcpdcokcckbggaaChecked
import GoSem.Claim
import GoSem.ClaimJoined
import GoSem.ClaimMapViews
import Derived.JoinedTies
import Derived.KernelRfl
namespace Go.Proofs.Ytcpdcokcckbggaa
/- THE CELL 'sum', in the pinned program and in every row, IS THE sha256 OF THE DUMP (.gsa) THAT YtcpdcokcckbggaaProg.lean LOADS. Nothing in Lean hashes anything: it is a label: what it is worth is what the hold of that sum in a sandbox is worth. -/
noncomputable def Try.pinned : Pinned := { name := "ytcpdcokcckbggaa", sum := "0f4ebc59f5566f56d66d4cbf067c9543b8adf6133c94bdd4b21b692164904e5b", checked := Try.checked }
namespace Rows
def none {H : Type} : Left H := { results := [], args := [] }

/-- 'laws.FnClaimOk': WHATEVER THE INPUT: true; the input reads as it did. -/
def fnClaimOkSpec : ChangeSpec := { name := "fnClaimOk", fn := fun _ => fun
  | [d] => { results := [.lit (.bool true)], args := [d] }
  | _ => none }
def fnClaimOkRow : OpenClaim := { program := "ytcpdcokcckbggaa", sum := "0f4ebc59f5566f56d66d4cbf067c9543b8adf6133c94bdd4b21b692164904e5b", func := "loop.example/tellersandliars/laws.FnClaimOk", spec := "fnClaimOk", apart := false }
def FnClaimOkSaid : Prop := fnClaimOkRow.holds Try.pinned (OpenSpec.ofChange fnClaimOkSpec)

/-- ITS FALSE NEIGHBOUR: 'it returns false'. Refute it at one input. -/
def fnClaimOkWrong : ChangeSpec := { name := "fnClaimOk", fn := fun _ => fun
  | [d] => { results := [.lit (.bool false)], args := [d] }
  | _ => none }
def FnClaimOkWrongFalsely : Prop := fnClaimOkRow.holds Try.pinned (OpenSpec.ofChange fnClaimOkWrong)

/-- 'laws.FnMaySay': WHATEVER THE INPUT: true; the input reads as it did. -/
def fnMaySaySpec : ChangeSpec := { name := "fnMaySay", fn := fun _ => fun
  | [d] => { results := [.lit (.bool true)], args := [d] }
  | _ => none }
def fnMaySayRow : OpenClaim := { program := "ytcpdcokcckbggaa", sum := "0f4ebc59f5566f56d66d4cbf067c9543b8adf6133c94bdd4b21b692164904e5b", func := "loop.example/tellersandliars/laws.FnMaySay", spec := "fnMaySay", recurses := true, apart := false }
def FnMaySaySaid : Prop := fnMaySayRow.holds Try.pinned (OpenSpec.ofChange fnMaySaySpec)

/-- ITS FALSE NEIGHBOUR: 'it returns false'. Refute it at one input. -/
def fnMaySayWrong : ChangeSpec := { name := "fnMaySay", fn := fun _ => fun
  | [d] => { results := [.lit (.bool false)], args := [d] }
  | _ => none }
def FnMaySayWrongFalsely : Prop := fnMaySayRow.holds Try.pinned (OpenSpec.ofChange fnMaySayWrong)

/-- 'laws.FnClaimTerm': WHATEVER THE INPUT: true; the input reads as it did. -/
def fnClaimTermSpec : ChangeSpec := { name := "fnClaimTerm", fn := fun _ => fun
  | [d] => { results := [.lit (.bool true)], args := [d] }
  | _ => none }
def fnClaimTermRow : OpenClaim := { program := "ytcpdcokcckbggaa", sum := "0f4ebc59f5566f56d66d4cbf067c9543b8adf6133c94bdd4b21b692164904e5b", func := "loop.example/tellersandliars/laws.FnClaimTerm", spec := "fnClaimTerm", recurses := true, apart := false }
def FnClaimTermSaid : Prop := fnClaimTermRow.holds Try.pinned (OpenSpec.ofChange fnClaimTermSpec)

/-- ITS FALSE NEIGHBOUR: 'it returns false'. Refute it at one input. -/
def fnClaimTermWrong : ChangeSpec := { name := "fnClaimTerm", fn := fun _ => fun
  | [d] => { results := [.lit (.bool false)], args := [d] }
  | _ => none }
def FnClaimTermWrongFalsely : Prop := fnClaimTermRow.holds Try.pinned (OpenSpec.ofChange fnClaimTermWrong)

/-- 'laws.FnClaimTable': WHATEVER THE INPUT: true; the input reads as it did. -/
def fnClaimTableSpec : ChangeSpec := { name := "fnClaimTable", fn := fun _ => fun
  | [d] => { results := [.lit (.bool true)], args := [d] }
  | _ => none }
def fnClaimTableRow : OpenClaim := { program := "ytcpdcokcckbggaa", sum := "0f4ebc59f5566f56d66d4cbf067c9543b8adf6133c94bdd4b21b692164904e5b", func := "loop.example/tellersandliars/laws.FnClaimTable", spec := "fnClaimTable", recurses := true, apart := false }
def FnClaimTableSaid : Prop := fnClaimTableRow.holds Try.pinned (OpenSpec.ofChange fnClaimTableSpec)

/-- ITS FALSE NEIGHBOUR: 'it returns false'. Refute it at one input. -/
def fnClaimTableWrong : ChangeSpec := { name := "fnClaimTable", fn := fun _ => fun
  | [d] => { results := [.lit (.bool false)], args := [d] }
  | _ => none }
def FnClaimTableWrongFalsely : Prop := fnClaimTableRow.holds Try.pinned (OpenSpec.ofChange fnClaimTableWrong)

/-- 'laws.FnDenyClaim': WHATEVER THE INPUT: true; the input reads as it did. -/
def fnDenyClaimSpec : ChangeSpec := { name := "fnDenyClaim", fn := fun _ => fun
  | [d] => { results := [.lit (.bool true)], args := [d] }
  | _ => none }
def fnDenyClaimRow : OpenClaim := { program := "ytcpdcokcckbggaa", sum := "0f4ebc59f5566f56d66d4cbf067c9543b8adf6133c94bdd4b21b692164904e5b", func := "loop.example/tellersandliars/laws.FnDenyClaim", spec := "fnDenyClaim", recurses := true, apart := false }
def FnDenyClaimSaid : Prop := fnDenyClaimRow.holds Try.pinned (OpenSpec.ofChange fnDenyClaimSpec)

/-- ITS FALSE NEIGHBOUR: 'it returns false'. Refute it at one input. -/
def fnDenyClaimWrong : ChangeSpec := { name := "fnDenyClaim", fn := fun _ => fun
  | [d] => { results := [.lit (.bool false)], args := [d] }
  | _ => none }
def FnDenyClaimWrongFalsely : Prop := fnDenyClaimRow.holds Try.pinned (OpenSpec.ofChange fnDenyClaimWrong)

/-- 'laws.FnStoryOk': WHATEVER THE INPUT: true; the input reads as it did. -/
def fnStoryOkSpec : ChangeSpec := { name := "fnStoryOk", fn := fun _ => fun
  | [d] => { results := [.lit (.bool true)], args := [d] }
  | _ => none }
def fnStoryOkRow : OpenClaim := { program := "ytcpdcokcckbggaa", sum := "0f4ebc59f5566f56d66d4cbf067c9543b8adf6133c94bdd4b21b692164904e5b", func := "loop.example/tellersandliars/laws.FnStoryOk", spec := "fnStoryOk", apart := false }
def FnStoryOkSaid : Prop := fnStoryOkRow.holds Try.pinned (OpenSpec.ofChange fnStoryOkSpec)

/-- ITS FALSE NEIGHBOUR: 'it returns false'. Refute it at one input. -/
def fnStoryOkWrong : ChangeSpec := { name := "fnStoryOk", fn := fun _ => fun
  | [d] => { results := [.lit (.bool false)], args := [d] }
  | _ => none }
def FnStoryOkWrongFalsely : Prop := fnStoryOkRow.holds Try.pinned (OpenSpec.ofChange fnStoryOkWrong)

/-- 'laws.FnStoryTable': WHATEVER THE INPUT: true; the input reads as it did. -/
def fnStoryTableSpec : ChangeSpec := { name := "fnStoryTable", fn := fun _ => fun
  | [d] => { results := [.lit (.bool true)], args := [d] }
  | _ => none }
def fnStoryTableRow : OpenClaim := { program := "ytcpdcokcckbggaa", sum := "0f4ebc59f5566f56d66d4cbf067c9543b8adf6133c94bdd4b21b692164904e5b", func := "loop.example/tellersandliars/laws.FnStoryTable", spec := "fnStoryTable", recurses := true, apart := false }
def FnStoryTableSaid : Prop := fnStoryTableRow.holds Try.pinned (OpenSpec.ofChange fnStoryTableSpec)

/-- ITS FALSE NEIGHBOUR: 'it returns false'. Refute it at one input. -/
def fnStoryTableWrong : ChangeSpec := { name := "fnStoryTable", fn := fun _ => fun
  | [d] => { results := [.lit (.bool false)], args := [d] }
  | _ => none }
def FnStoryTableWrongFalsely : Prop := fnStoryTableRow.holds Try.pinned (OpenSpec.ofChange fnStoryTableWrong)

/-- 'laws.FnTwoClaims': WHATEVER THE INPUT: true; the input reads as it did. -/
def fnTwoClaimsSpec : ChangeSpec := { name := "fnTwoClaims", fn := fun _ => fun
  | [d] => { results := [.lit (.bool true)], args := [d] }
  | _ => none }
def fnTwoClaimsRow : OpenClaim := { program := "ytcpdcokcckbggaa", sum := "0f4ebc59f5566f56d66d4cbf067c9543b8adf6133c94bdd4b21b692164904e5b", func := "loop.example/tellersandliars/laws.FnTwoClaims", spec := "fnTwoClaims", recurses := true, apart := false }
def FnTwoClaimsSaid : Prop := fnTwoClaimsRow.holds Try.pinned (OpenSpec.ofChange fnTwoClaimsSpec)

/-- ITS FALSE NEIGHBOUR: 'it returns false'. Refute it at one input. -/
def fnTwoClaimsWrong : ChangeSpec := { name := "fnTwoClaims", fn := fun _ => fun
  | [d] => { results := [.lit (.bool false)], args := [d] }
  | _ => none }
def FnTwoClaimsWrongFalsely : Prop := fnTwoClaimsRow.holds Try.pinned (OpenSpec.ofChange fnTwoClaimsWrong)

/-- 'laws.FnMirrorStory': WHATEVER THE INPUT: true; the input reads as it did. -/
def fnMirrorStorySpec : ChangeSpec := { name := "fnMirrorStory", fn := fun _ => fun
  | [d] => { results := [.lit (.bool true)], args := [d] }
  | _ => none }
def fnMirrorStoryRow : OpenClaim := { program := "ytcpdcokcckbggaa", sum := "0f4ebc59f5566f56d66d4cbf067c9543b8adf6133c94bdd4b21b692164904e5b", func := "loop.example/tellersandliars/laws.FnMirrorStory", spec := "fnMirrorStory", recurses := true, apart := false }
def FnMirrorStorySaid : Prop := fnMirrorStoryRow.holds Try.pinned (OpenSpec.ofChange fnMirrorStorySpec)

/-- ITS FALSE NEIGHBOUR: 'it returns false'. Refute it at one input. -/
def fnMirrorStoryWrong : ChangeSpec := { name := "fnMirrorStory", fn := fun _ => fun
  | [d] => { results := [.lit (.bool false)], args := [d] }
  | _ => none }
def FnMirrorStoryWrongFalsely : Prop := fnMirrorStoryRow.holds Try.pinned (OpenSpec.ofChange fnMirrorStoryWrong)

/-- 'laws.FnOwnKind': WHATEVER THE INPUT: true; the input reads as it did. -/
def fnOwnKindSpec : ChangeSpec := { name := "fnOwnKind", fn := fun _ => fun
  | [d] => { results := [.lit (.bool true)], args := [d] }
  | _ => none }
def fnOwnKindRow : OpenClaim := { program := "ytcpdcokcckbggaa", sum := "0f4ebc59f5566f56d66d4cbf067c9543b8adf6133c94bdd4b21b692164904e5b", func := "loop.example/tellersandliars/laws.FnOwnKind", spec := "fnOwnKind", recurses := true, apart := false }
def FnOwnKindSaid : Prop := fnOwnKindRow.holds Try.pinned (OpenSpec.ofChange fnOwnKindSpec)

/-- ITS FALSE NEIGHBOUR: 'it returns false'. Refute it at one input. -/
def fnOwnKindWrong : ChangeSpec := { name := "fnOwnKind", fn := fun _ => fun
  | [d] => { results := [.lit (.bool false)], args := [d] }
  | _ => none }
def FnOwnKindWrongFalsely : Prop := fnOwnKindRow.holds Try.pinned (OpenSpec.ofChange fnOwnKindWrong)

/-- 'laws.FnAlwaysOk': WHATEVER THE INPUT: true; the input reads as it did. -/
def fnAlwaysOkSpec : ChangeSpec := { name := "fnAlwaysOk", fn := fun _ => fun
  | [d] => { results := [.lit (.bool true)], args := [d] }
  | _ => none }
def fnAlwaysOkRow : OpenClaim := { program := "ytcpdcokcckbggaa", sum := "0f4ebc59f5566f56d66d4cbf067c9543b8adf6133c94bdd4b21b692164904e5b", func := "loop.example/tellersandliars/laws.FnAlwaysOk", spec := "fnAlwaysOk", recurses := true, apart := false }
def FnAlwaysOkSaid : Prop := fnAlwaysOkRow.holds Try.pinned (OpenSpec.ofChange fnAlwaysOkSpec)

/-- ITS FALSE NEIGHBOUR: 'it returns false'. Refute it at one input. -/
def fnAlwaysOkWrong : ChangeSpec := { name := "fnAlwaysOk", fn := fun _ => fun
  | [d] => { results := [.lit (.bool false)], args := [d] }
  | _ => none }
def FnAlwaysOkWrongFalsely : Prop := fnAlwaysOkRow.holds Try.pinned (OpenSpec.ofChange fnAlwaysOkWrong)

/-- 'laws.FnSameOk': WHATEVER THE INPUT: true; the input reads as it did. -/
def fnSameOkSpec : ChangeSpec := { name := "fnSameOk", fn := fun _ => fun
  | [d] => { results := [.lit (.bool true)], args := [d] }
  | _ => none }
def fnSameOkRow : OpenClaim := { program := "ytcpdcokcckbggaa", sum := "0f4ebc59f5566f56d66d4cbf067c9543b8adf6133c94bdd4b21b692164904e5b", func := "loop.example/tellersandliars/laws.FnSameOk", spec := "fnSameOk", recurses := true, apart := false }
def FnSameOkSaid : Prop := fnSameOkRow.holds Try.pinned (OpenSpec.ofChange fnSameOkSpec)

/-- ITS FALSE NEIGHBOUR: 'it returns false'. Refute it at one input. -/
def fnSameOkWrong : ChangeSpec := { name := "fnSameOk", fn := fun _ => fun
  | [d] => { results := [.lit (.bool false)], args := [d] }
  | _ => none }
def FnSameOkWrongFalsely : Prop := fnSameOkRow.holds Try.pinned (OpenSpec.ofChange fnSameOkWrong)

/- THE SECOND FORM. 'bulk': how many values and letters a reading holds, each counted each time it is reached (what is shared counts as often as it is met; a slice's spare places count too). A statement '..UptoSaid' is the law's where the arguments, and the package variables that the reading takes, are together of bulk at most 1048576: NARROWER than '..Said'. Prove '..Said' where nothing that the law and all that it calls make is longer than what came in: it says more and counts as full. Else prove '..UptoSaid'. A law counts once. -/
mutual
def uptoBulk {H : Type} : DataW H → Nat
  | .lit (.string bytes) => bytes.length + 1
  | .lit _ => 1
  | .nil => 1
  | .ptr d => uptoBulk d + 1
  | .slice elems spare => uptoBulkAll elems + uptoBulkAll spare + 1
  | .agg parts => uptoBulkAll parts + 1
  | .iface _ d => uptoBulk d + 1
  | .map entries => uptoBulkEntries entries + 1
  | .held _ => 1
def uptoBulkAll {H : Type} : List (DataW H) → Nat
  | [] => 0
  | d :: r => uptoBulk d + uptoBulkAll r
def uptoBulkEntries {H : Type} : List (Lit × DataW H) → Nat
  | [] => 0
  | x :: r => uptoBulkEntry x + uptoBulkEntries r
def uptoBulkEntry {H : Type} : Lit × DataW H → Nat
  | (.string bytes, d) => bytes.length + uptoBulk d + 1
  | (_, d) => uptoBulk d + 1
 end
def uptoSmall : (H : Type) → List (DataW H) → Bool := fun _ ds => decide (uptoBulkAll ds ≤ 1048576)
def OpenSpec.upto (s : _root_.Go.ChangeSpec) : _root_.Go.OpenSpec := { _root_.Go.OpenSpec.ofChange s with cond := some uptoSmall }

/-- 'laws.FnClaimOk', WHERE WHAT IT READS IS OF BULK AT MOST 1048576: true; the input reads as it did. -/
def fnClaimOkUptoRow : OpenClaim := { program := "ytcpdcokcckbggaa", sum := "0f4ebc59f5566f56d66d4cbf067c9543b8adf6133c94bdd4b21b692164904e5b", func := "loop.example/tellersandliars/laws.FnClaimOk", spec := "fnClaimOk", apart := false, narrowed := true }
def FnClaimOkUptoSaid : Prop := fnClaimOkUptoRow.holds Try.pinned (OpenSpec.upto fnClaimOkSpec)

/-- 'laws.FnMaySay', WHERE WHAT IT READS IS OF BULK AT MOST 1048576: true; the input reads as it did. -/
def fnMaySayUptoRow : OpenClaim := { program := "ytcpdcokcckbggaa", sum := "0f4ebc59f5566f56d66d4cbf067c9543b8adf6133c94bdd4b21b692164904e5b", func := "loop.example/tellersandliars/laws.FnMaySay", spec := "fnMaySay", recurses := true, apart := false, narrowed := true }
def FnMaySayUptoSaid : Prop := fnMaySayUptoRow.holds Try.pinned (OpenSpec.upto fnMaySaySpec)

/-- 'laws.FnClaimTerm', WHERE WHAT IT READS IS OF BULK AT MOST 1048576: true; the input reads as it did. -/
def fnClaimTermUptoRow : OpenClaim := { program := "ytcpdcokcckbggaa", sum := "0f4ebc59f5566f56d66d4cbf067c9543b8adf6133c94bdd4b21b692164904e5b", func := "loop.example/tellersandliars/laws.FnClaimTerm", spec := "fnClaimTerm", recurses := true, apart := false, narrowed := true }
def FnClaimTermUptoSaid : Prop := fnClaimTermUptoRow.holds Try.pinned (OpenSpec.upto fnClaimTermSpec)

/-- 'laws.FnClaimTable', WHERE WHAT IT READS IS OF BULK AT MOST 1048576: true; the input reads as it did. -/
def fnClaimTableUptoRow : OpenClaim := { program := "ytcpdcokcckbggaa", sum := "0f4ebc59f5566f56d66d4cbf067c9543b8adf6133c94bdd4b21b692164904e5b", func := "loop.example/tellersandliars/laws.FnClaimTable", spec := "fnClaimTable", recurses := true, apart := false, narrowed := true }
def FnClaimTableUptoSaid : Prop := fnClaimTableUptoRow.holds Try.pinned (OpenSpec.upto fnClaimTableSpec)

/-- 'laws.FnDenyClaim', WHERE WHAT IT READS IS OF BULK AT MOST 1048576: true; the input reads as it did. -/
def fnDenyClaimUptoRow : OpenClaim := { program := "ytcpdcokcckbggaa", sum := "0f4ebc59f5566f56d66d4cbf067c9543b8adf6133c94bdd4b21b692164904e5b", func := "loop.example/tellersandliars/laws.FnDenyClaim", spec := "fnDenyClaim", recurses := true, apart := false, narrowed := true }
def FnDenyClaimUptoSaid : Prop := fnDenyClaimUptoRow.holds Try.pinned (OpenSpec.upto fnDenyClaimSpec)

/-- 'laws.FnStoryOk', WHERE WHAT IT READS IS OF BULK AT MOST 1048576: true; the input reads as it did. -/
def fnStoryOkUptoRow : OpenClaim := { program := "ytcpdcokcckbggaa", sum := "0f4ebc59f5566f56d66d4cbf067c9543b8adf6133c94bdd4b21b692164904e5b", func := "loop.example/tellersandliars/laws.FnStoryOk", spec := "fnStoryOk", apart := false, narrowed := true }
def FnStoryOkUptoSaid : Prop := fnStoryOkUptoRow.holds Try.pinned (OpenSpec.upto fnStoryOkSpec)

/-- 'laws.FnStoryTable', WHERE WHAT IT READS IS OF BULK AT MOST 1048576: true; the input reads as it did. -/
def fnStoryTableUptoRow : OpenClaim := { program := "ytcpdcokcckbggaa", sum := "0f4ebc59f5566f56d66d4cbf067c9543b8adf6133c94bdd4b21b692164904e5b", func := "loop.example/tellersandliars/laws.FnStoryTable", spec := "fnStoryTable", recurses := true, apart := false, narrowed := true }
def FnStoryTableUptoSaid : Prop := fnStoryTableUptoRow.holds Try.pinned (OpenSpec.upto fnStoryTableSpec)

/-- 'laws.FnTwoClaims', WHERE WHAT IT READS IS OF BULK AT MOST 1048576: true; the input reads as it did. -/
def fnTwoClaimsUptoRow : OpenClaim := { program := "ytcpdcokcckbggaa", sum := "0f4ebc59f5566f56d66d4cbf067c9543b8adf6133c94bdd4b21b692164904e5b", func := "loop.example/tellersandliars/laws.FnTwoClaims", spec := "fnTwoClaims", recurses := true, apart := false, narrowed := true }
def FnTwoClaimsUptoSaid : Prop := fnTwoClaimsUptoRow.holds Try.pinned (OpenSpec.upto fnTwoClaimsSpec)

/-- 'laws.FnMirrorStory', WHERE WHAT IT READS IS OF BULK AT MOST 1048576: true; the input reads as it did. -/
def fnMirrorStoryUptoRow : OpenClaim := { program := "ytcpdcokcckbggaa", sum := "0f4ebc59f5566f56d66d4cbf067c9543b8adf6133c94bdd4b21b692164904e5b", func := "loop.example/tellersandliars/laws.FnMirrorStory", spec := "fnMirrorStory", recurses := true, apart := false, narrowed := true }
def FnMirrorStoryUptoSaid : Prop := fnMirrorStoryUptoRow.holds Try.pinned (OpenSpec.upto fnMirrorStorySpec)

/-- 'laws.FnOwnKind', WHERE WHAT IT READS IS OF BULK AT MOST 1048576: true; the input reads as it did. -/
def fnOwnKindUptoRow : OpenClaim := { program := "ytcpdcokcckbggaa", sum := "0f4ebc59f5566f56d66d4cbf067c9543b8adf6133c94bdd4b21b692164904e5b", func := "loop.example/tellersandliars/laws.FnOwnKind", spec := "fnOwnKind", recurses := true, apart := false, narrowed := true }
def FnOwnKindUptoSaid : Prop := fnOwnKindUptoRow.holds Try.pinned (OpenSpec.upto fnOwnKindSpec)

/-- 'laws.FnAlwaysOk', WHERE WHAT IT READS IS OF BULK AT MOST 1048576: true; the input reads as it did. -/
def fnAlwaysOkUptoRow : OpenClaim := { program := "ytcpdcokcckbggaa", sum := "0f4ebc59f5566f56d66d4cbf067c9543b8adf6133c94bdd4b21b692164904e5b", func := "loop.example/tellersandliars/laws.FnAlwaysOk", spec := "fnAlwaysOk", recurses := true, apart := false, narrowed := true }
def FnAlwaysOkUptoSaid : Prop := fnAlwaysOkUptoRow.holds Try.pinned (OpenSpec.upto fnAlwaysOkSpec)

/-- 'laws.FnSameOk', WHERE WHAT IT READS IS OF BULK AT MOST 1048576: true; the input reads as it did. -/
def fnSameOkUptoRow : OpenClaim := { program := "ytcpdcokcckbggaa", sum := "0f4ebc59f5566f56d66d4cbf067c9543b8adf6133c94bdd4b21b692164904e5b", func := "loop.example/tellersandliars/laws.FnSameOk", spec := "fnSameOk", recurses := true, apart := false, narrowed := true }
def FnSameOkUptoSaid : Prop := fnSameOkUptoRow.holds Try.pinned (OpenSpec.upto fnSameOkSpec)

end Rows
end Go.Proofs.Ytcpdcokcckbggaa
