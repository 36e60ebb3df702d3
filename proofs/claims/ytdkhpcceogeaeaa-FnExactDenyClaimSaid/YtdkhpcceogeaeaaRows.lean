/-
  No cell of these rows narrows 'for every input' (looked for: loops, veiled, ifaces, maps, wideKeys, modest, calm, conditions, laid).
  DERIVED. THE GIVEN ROWS OF THIS SEAT. 8 by the template 'for every input the law returns true; each argument reads behind the call as it read before'; 0 by the template 'total and deterministic' (their statements: YtdkhpcceogeaeaaTotals.lean).
  GIVEN WITH THE SEED: the statements are not yours to turn. If you find one false, say at which input.
  Laid BY PROGRAM, IN A SANDBOX (cutbox-rows.mjs): the forced cells as the released guide's own fill.sh prints them over the translation 1feae3c902517b74… (all of the seat's roots in one cut). By AI agents, Wed Nov 11 2026. No macro, syntax, notation, axiom, sorry.
-/
import Derived.Test.YtdkhpcceogeaeaaChecked
import GoSem.Claim
import GoSem.ClaimJoined
import GoSem.ClaimMapViews
import Derived.JoinedTies
import Derived.KernelRfl
namespace Go.Proofs.Ytdkhpcceogeaeaa
/- THE CELL 'sum', in the pinned program and in every row, IS THE sha256 OF THE DUMP (.gsa) THAT YtdkhpcceogeaeaaProg.lean LOADS. Nothing in Lean hashes anything: it is a label: what it is worth is what the hold of that sum in a sandbox is worth. -/
noncomputable def Try.pinned : Pinned := { name := "ytdkhpcceogeaeaa", sum := "1feae3c902517b743998140d21c6262ec06613204f6086bc8322da434027ae25", checked := Try.checked }
namespace Rows
def none {H : Type} : Left H := { results := [], args := [] }

/-- 'laws.FnExactClaimOk': WHATEVER THE INPUT: true; the input reads as it did. -/
def fnExactClaimOkSpec : ChangeSpec := { name := "fnExactClaimOk", fn := fun _ => fun
  | [d1, d2] => { results := [.lit (.bool true)], args := [d1, d2] }
  | _ => none }
def fnExactClaimOkRow : OpenClaim := { program := "ytdkhpcceogeaeaa", sum := "1feae3c902517b743998140d21c6262ec06613204f6086bc8322da434027ae25", func := "loop.example/tellersandliars/laws.FnExactClaimOk", spec := "fnExactClaimOk", apart := false }
def FnExactClaimOkSaid : Prop := fnExactClaimOkRow.holds Try.pinned (OpenSpec.ofChange fnExactClaimOkSpec)

/-- ITS FALSE NEIGHBOUR: 'it returns false'. Refute it at one input. -/
def fnExactClaimOkWrong : ChangeSpec := { name := "fnExactClaimOk", fn := fun _ => fun
  | [d1, d2] => { results := [.lit (.bool false)], args := [d1, d2] }
  | _ => none }
def FnExactClaimOkWrongFalsely : Prop := fnExactClaimOkRow.holds Try.pinned (OpenSpec.ofChange fnExactClaimOkWrong)

/-- 'laws.FnExactMaySay': WHATEVER THE INPUT: true; the input reads as it did. -/
def fnExactMaySaySpec : ChangeSpec := { name := "fnExactMaySay", fn := fun _ => fun
  | [d1, d2, d3] => { results := [.lit (.bool true)], args := [d1, d2, d3] }
  | _ => none }
def fnExactMaySayRow : OpenClaim := { program := "ytdkhpcceogeaeaa", sum := "1feae3c902517b743998140d21c6262ec06613204f6086bc8322da434027ae25", func := "loop.example/tellersandliars/laws.FnExactMaySay", spec := "fnExactMaySay", recurses := true, apart := false }
def FnExactMaySaySaid : Prop := fnExactMaySayRow.holds Try.pinned (OpenSpec.ofChange fnExactMaySaySpec)

/-- ITS FALSE NEIGHBOUR: 'it returns false'. Refute it at one input. -/
def fnExactMaySayWrong : ChangeSpec := { name := "fnExactMaySay", fn := fun _ => fun
  | [d1, d2, d3] => { results := [.lit (.bool false)], args := [d1, d2, d3] }
  | _ => none }
def FnExactMaySayWrongFalsely : Prop := fnExactMaySayRow.holds Try.pinned (OpenSpec.ofChange fnExactMaySayWrong)

/-- 'laws.FnExactClaimTerm': WHATEVER THE INPUT: true; the input reads as it did. -/
def fnExactClaimTermSpec : ChangeSpec := { name := "fnExactClaimTerm", fn := fun _ => fun
  | [d1, d2] => { results := [.lit (.bool true)], args := [d1, d2] }
  | _ => none }
def fnExactClaimTermRow : OpenClaim := { program := "ytdkhpcceogeaeaa", sum := "1feae3c902517b743998140d21c6262ec06613204f6086bc8322da434027ae25", func := "loop.example/tellersandliars/laws.FnExactClaimTerm", spec := "fnExactClaimTerm", apart := false }
def FnExactClaimTermSaid : Prop := fnExactClaimTermRow.holds Try.pinned (OpenSpec.ofChange fnExactClaimTermSpec)

/-- ITS FALSE NEIGHBOUR: 'it returns false'. Refute it at one input. -/
def fnExactClaimTermWrong : ChangeSpec := { name := "fnExactClaimTerm", fn := fun _ => fun
  | [d1, d2] => { results := [.lit (.bool false)], args := [d1, d2] }
  | _ => none }
def FnExactClaimTermWrongFalsely : Prop := fnExactClaimTermRow.holds Try.pinned (OpenSpec.ofChange fnExactClaimTermWrong)

/-- 'laws.FnExactClaimTable': WHATEVER THE INPUT: true; the input reads as it did. -/
def fnExactClaimTableSpec : ChangeSpec := { name := "fnExactClaimTable", fn := fun _ => fun
  | [d1, d2] => { results := [.lit (.bool true)], args := [d1, d2] }
  | _ => none }
def fnExactClaimTableRow : OpenClaim := { program := "ytdkhpcceogeaeaa", sum := "1feae3c902517b743998140d21c6262ec06613204f6086bc8322da434027ae25", func := "loop.example/tellersandliars/laws.FnExactClaimTable", spec := "fnExactClaimTable", recurses := true, apart := false }
def FnExactClaimTableSaid : Prop := fnExactClaimTableRow.holds Try.pinned (OpenSpec.ofChange fnExactClaimTableSpec)

/-- ITS FALSE NEIGHBOUR: 'it returns false'. Refute it at one input. -/
def fnExactClaimTableWrong : ChangeSpec := { name := "fnExactClaimTable", fn := fun _ => fun
  | [d1, d2] => { results := [.lit (.bool false)], args := [d1, d2] }
  | _ => none }
def FnExactClaimTableWrongFalsely : Prop := fnExactClaimTableRow.holds Try.pinned (OpenSpec.ofChange fnExactClaimTableWrong)

/-- 'laws.FnExactDenyClaim': WHATEVER THE INPUT: true; the input reads as it did. -/
def fnExactDenyClaimSpec : ChangeSpec := { name := "fnExactDenyClaim", fn := fun _ => fun
  | [d1, d2] => { results := [.lit (.bool true)], args := [d1, d2] }
  | _ => none }
def fnExactDenyClaimRow : OpenClaim := { program := "ytdkhpcceogeaeaa", sum := "1feae3c902517b743998140d21c6262ec06613204f6086bc8322da434027ae25", func := "loop.example/tellersandliars/laws.FnExactDenyClaim", spec := "fnExactDenyClaim", apart := false }
def FnExactDenyClaimSaid : Prop := fnExactDenyClaimRow.holds Try.pinned (OpenSpec.ofChange fnExactDenyClaimSpec)

/-- ITS FALSE NEIGHBOUR: 'it returns false'. Refute it at one input. -/
def fnExactDenyClaimWrong : ChangeSpec := { name := "fnExactDenyClaim", fn := fun _ => fun
  | [d1, d2] => { results := [.lit (.bool false)], args := [d1, d2] }
  | _ => none }
def FnExactDenyClaimWrongFalsely : Prop := fnExactDenyClaimRow.holds Try.pinned (OpenSpec.ofChange fnExactDenyClaimWrong)

/-- 'laws.FnExactStoryOk': WHATEVER THE INPUT: true; the input reads as it did. -/
def fnExactStoryOkSpec : ChangeSpec := { name := "fnExactStoryOk", fn := fun _ => fun
  | [d1, d2] => { results := [.lit (.bool true)], args := [d1, d2] }
  | _ => none }
def fnExactStoryOkRow : OpenClaim := { program := "ytdkhpcceogeaeaa", sum := "1feae3c902517b743998140d21c6262ec06613204f6086bc8322da434027ae25", func := "loop.example/tellersandliars/laws.FnExactStoryOk", spec := "fnExactStoryOk", apart := false }
def FnExactStoryOkSaid : Prop := fnExactStoryOkRow.holds Try.pinned (OpenSpec.ofChange fnExactStoryOkSpec)

/-- ITS FALSE NEIGHBOUR: 'it returns false'. Refute it at one input. -/
def fnExactStoryOkWrong : ChangeSpec := { name := "fnExactStoryOk", fn := fun _ => fun
  | [d1, d2] => { results := [.lit (.bool false)], args := [d1, d2] }
  | _ => none }
def FnExactStoryOkWrongFalsely : Prop := fnExactStoryOkRow.holds Try.pinned (OpenSpec.ofChange fnExactStoryOkWrong)

/-- 'laws.FnExactStoryTable': WHATEVER THE INPUT: true; the input reads as it did. -/
def fnExactStoryTableSpec : ChangeSpec := { name := "fnExactStoryTable", fn := fun _ => fun
  | [d1, d2] => { results := [.lit (.bool true)], args := [d1, d2] }
  | _ => none }
def fnExactStoryTableRow : OpenClaim := { program := "ytdkhpcceogeaeaa", sum := "1feae3c902517b743998140d21c6262ec06613204f6086bc8322da434027ae25", func := "loop.example/tellersandliars/laws.FnExactStoryTable", spec := "fnExactStoryTable", recurses := true, apart := false }
def FnExactStoryTableSaid : Prop := fnExactStoryTableRow.holds Try.pinned (OpenSpec.ofChange fnExactStoryTableSpec)

/-- ITS FALSE NEIGHBOUR: 'it returns false'. Refute it at one input. -/
def fnExactStoryTableWrong : ChangeSpec := { name := "fnExactStoryTable", fn := fun _ => fun
  | [d1, d2] => { results := [.lit (.bool false)], args := [d1, d2] }
  | _ => none }
def FnExactStoryTableWrongFalsely : Prop := fnExactStoryTableRow.holds Try.pinned (OpenSpec.ofChange fnExactStoryTableWrong)

/-- 'laws.FnExactAlwaysOk': WHATEVER THE INPUT: true; the input reads as it did. -/
def fnExactAlwaysOkSpec : ChangeSpec := { name := "fnExactAlwaysOk", fn := fun _ => fun
  | [d1, d2] => { results := [.lit (.bool true)], args := [d1, d2] }
  | _ => none }
def fnExactAlwaysOkRow : OpenClaim := { program := "ytdkhpcceogeaeaa", sum := "1feae3c902517b743998140d21c6262ec06613204f6086bc8322da434027ae25", func := "loop.example/tellersandliars/laws.FnExactAlwaysOk", spec := "fnExactAlwaysOk", recurses := true, apart := false }
def FnExactAlwaysOkSaid : Prop := fnExactAlwaysOkRow.holds Try.pinned (OpenSpec.ofChange fnExactAlwaysOkSpec)

/-- ITS FALSE NEIGHBOUR: 'it returns false'. Refute it at one input. -/
def fnExactAlwaysOkWrong : ChangeSpec := { name := "fnExactAlwaysOk", fn := fun _ => fun
  | [d1, d2] => { results := [.lit (.bool false)], args := [d1, d2] }
  | _ => none }
def FnExactAlwaysOkWrongFalsely : Prop := fnExactAlwaysOkRow.holds Try.pinned (OpenSpec.ofChange fnExactAlwaysOkWrong)

/- THE SECOND FORM. 'bulk': how many values and letters a reading holds, each counted each time it is reached (what is shared counts as often as it is met; a slice's spare places count too). A statement '..UptoSaid' is the law's where the arguments, and the package variables that the reading takes, are together of bulk at most 1048576: NARROWER than '..Said'. Prove '..Said' where nothing that the law and all that it calls make is longer than what came in: it says more and counts as full. Else prove '..UptoSaid'. A law counts once. -/
mutual
def uptoBulk {H : Type} : DataW H → Nat
  | .lit (.string bytes) => bytes.length + 1
  | .lit _ => 1
  | .nil => 1
  | .ptr d => uptoBulk d + 1
  | .slice elems spare => uptoBulkAll elems + uptoBulkAll spare + 1
  | .agg parts => uptoBulkAll parts + 1
  | .iface _ d => uptoBulk d + 1
  | .map entries => uptoBulkEntries entries + 1
  | .held _ => 1
def uptoBulkAll {H : Type} : List (DataW H) → Nat
  | [] => 0
  | d :: r => uptoBulk d + uptoBulkAll r
def uptoBulkEntries {H : Type} : List (Lit × DataW H) → Nat
  | [] => 0
  | x :: r => uptoBulkEntry x + uptoBulkEntries r
def uptoBulkEntry {H : Type} : Lit × DataW H → Nat
  | (.string bytes, d) => bytes.length + uptoBulk d + 1
  | (_, d) => uptoBulk d + 1
 end
def uptoSmall : (H : Type) → List (DataW H) → Bool := fun _ ds => decide (uptoBulkAll ds ≤ 1048576)
def OpenSpec.upto (s : _root_.Go.ChangeSpec) : _root_.Go.OpenSpec := { _root_.Go.OpenSpec.ofChange s with cond := some uptoSmall }

/-- 'laws.FnExactClaimOk', WHERE WHAT IT READS IS OF BULK AT MOST 1048576: true; the input reads as it did. -/
def fnExactClaimOkUptoRow : OpenClaim := { program := "ytdkhpcceogeaeaa", sum := "1feae3c902517b743998140d21c6262ec06613204f6086bc8322da434027ae25", func := "loop.example/tellersandliars/laws.FnExactClaimOk", spec := "fnExactClaimOk", apart := false, narrowed := true }
def FnExactClaimOkUptoSaid : Prop := fnExactClaimOkUptoRow.holds Try.pinned (OpenSpec.upto fnExactClaimOkSpec)

/-- 'laws.FnExactMaySay', WHERE WHAT IT READS IS OF BULK AT MOST 1048576: true; the input reads as it did. -/
def fnExactMaySayUptoRow : OpenClaim := { program := "ytdkhpcceogeaeaa", sum := "1feae3c902517b743998140d21c6262ec06613204f6086bc8322da434027ae25", func := "loop.example/tellersandliars/laws.FnExactMaySay", spec := "fnExactMaySay", recurses := true, apart := false, narrowed := true }
def FnExactMaySayUptoSaid : Prop := fnExactMaySayUptoRow.holds Try.pinned (OpenSpec.upto fnExactMaySaySpec)

/-- 'laws.FnExactClaimTerm', WHERE WHAT IT READS IS OF BULK AT MOST 1048576: true; the input reads as it did. -/
def fnExactClaimTermUptoRow : OpenClaim := { program := "ytdkhpcceogeaeaa", sum := "1feae3c902517b743998140d21c6262ec06613204f6086bc8322da434027ae25", func := "loop.example/tellersandliars/laws.FnExactClaimTerm", spec := "fnExactClaimTerm", apart := false, narrowed := true }
def FnExactClaimTermUptoSaid : Prop := fnExactClaimTermUptoRow.holds Try.pinned (OpenSpec.upto fnExactClaimTermSpec)

/-- 'laws.FnExactClaimTable', WHERE WHAT IT READS IS OF BULK AT MOST 1048576: true; the input reads as it did. -/
def fnExactClaimTableUptoRow : OpenClaim := { program := "ytdkhpcceogeaeaa", sum := "1feae3c902517b743998140d21c6262ec06613204f6086bc8322da434027ae25", func := "loop.example/tellersandliars/laws.FnExactClaimTable", spec := "fnExactClaimTable", recurses := true, apart := false, narrowed := true }
def FnExactClaimTableUptoSaid : Prop := fnExactClaimTableUptoRow.holds Try.pinned (OpenSpec.upto fnExactClaimTableSpec)

/-- 'laws.FnExactDenyClaim', WHERE WHAT IT READS IS OF BULK AT MOST 1048576: true; the input reads as it did. -/
def fnExactDenyClaimUptoRow : OpenClaim := { program := "ytdkhpcceogeaeaa", sum := "1feae3c902517b743998140d21c6262ec06613204f6086bc8322da434027ae25", func := "loop.example/tellersandliars/laws.FnExactDenyClaim", spec := "fnExactDenyClaim", apart := false, narrowed := true }
def FnExactDenyClaimUptoSaid : Prop := fnExactDenyClaimUptoRow.holds Try.pinned (OpenSpec.upto fnExactDenyClaimSpec)

/-- 'laws.FnExactStoryOk', WHERE WHAT IT READS IS OF BULK AT MOST 1048576: true; the input reads as it did. -/
def fnExactStoryOkUptoRow : OpenClaim := { program := "ytdkhpcceogeaeaa", sum := "1feae3c902517b743998140d21c6262ec06613204f6086bc8322da434027ae25", func := "loop.example/tellersandliars/laws.FnExactStoryOk", spec := "fnExactStoryOk", apart := false, narrowed := true }
def FnExactStoryOkUptoSaid : Prop := fnExactStoryOkUptoRow.holds Try.pinned (OpenSpec.upto fnExactStoryOkSpec)

/-- 'laws.FnExactStoryTable', WHERE WHAT IT READS IS OF BULK AT MOST 1048576: true; the input reads as it did. -/
def fnExactStoryTableUptoRow : OpenClaim := { program := "ytdkhpcceogeaeaa", sum := "1feae3c902517b743998140d21c6262ec06613204f6086bc8322da434027ae25", func := "loop.example/tellersandliars/laws.FnExactStoryTable", spec := "fnExactStoryTable", recurses := true, apart := false, narrowed := true }
def FnExactStoryTableUptoSaid : Prop := fnExactStoryTableUptoRow.holds Try.pinned (OpenSpec.upto fnExactStoryTableSpec)

/-- 'laws.FnExactAlwaysOk', WHERE WHAT IT READS IS OF BULK AT MOST 1048576: true; the input reads as it did. -/
def fnExactAlwaysOkUptoRow : OpenClaim := { program := "ytdkhpcceogeaeaa", sum := "1feae3c902517b743998140d21c6262ec06613204f6086bc8322da434027ae25", func := "loop.example/tellersandliars/laws.FnExactAlwaysOk", spec := "fnExactAlwaysOk", recurses := true, apart := false, narrowed := true }
def FnExactAlwaysOkUptoSaid : Prop := fnExactAlwaysOkUptoRow.holds Try.pinned (OpenSpec.upto fnExactAlwaysOkSpec)

end Rows
end Go.Proofs.Ytdkhpcceogeaeaa
