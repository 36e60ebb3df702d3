/-
  No cell of these rows narrows 'for every input' (looked for: loops, veiled, ifaces, maps, wideKeys, modest, calm, conditions, laid).
  DERIVED. THE GIVEN ROWS OF THIS SEAT. 4 by the template 'for every input the law returns true; each argument reads behind the call as it read before'; 0 by the template 'total and deterministic' (their statements: YtbnickgjnglblaaTotals.lean).
  GIVEN WITH THE SEED: the statements are not yours to turn. If you find one false, say at which input.
  Laid BY PROGRAM, IN A SANDBOX (cutbox-rows.mjs): the forced cells as the released guide's own fill.sh prints them over the translation feb305f3238928a8… (all of the seat's roots in one cut). By AI agents, Wed Nov 11 2026. No macro, syntax, notation, axiom, sorry.
-/
import Derived.Test.YtbnickgjnglblaaChecked
import GoSem.Claim
import GoSem.ClaimJoined
import GoSem.ClaimMapViews
import Derived.JoinedTies
import Derived.KernelRfl
namespace Go.Proofs.Ytbnickgjnglblaa
/- THE CELL 'sum', in the pinned program and in every row, IS THE sha256 OF THE DUMP (.gsa) THAT YtbnickgjnglblaaProg.lean LOADS. Nothing in Lean hashes anything: it is a label: what it is worth is what the hold of that sum in a sandbox is worth. -/
noncomputable def Try.pinned : Pinned := { name := "ytbnickgjnglblaa", sum := "feb305f3238928a8c37bd6f32e39626171d4a8e9c1e59824f4d910111f431129", checked := Try.checked }
namespace Rows
def none {H : Type} : Left H := { results := [], args := [] }

/-- 'laws.FnMajorityTable': WHATEVER THE INPUT: true; the input reads as it did. -/
def fnMajorityTableSpec : ChangeSpec := { name := "fnMajorityTable", fn := fun _ => fun
  | [d] => { results := [.lit (.bool true)], args := [d] }
  | _ => none }
def fnMajorityTableRow : OpenClaim := { program := "ytbnickgjnglblaa", sum := "feb305f3238928a8c37bd6f32e39626171d4a8e9c1e59824f4d910111f431129", func := "loop.example/tellersandliars/laws.FnMajorityTable", spec := "fnMajorityTable", apart := false }
def FnMajorityTableSaid : Prop := fnMajorityTableRow.holds Try.pinned (OpenSpec.ofChange fnMajorityTableSpec)

/-- ITS FALSE NEIGHBOUR: 'it returns false'. Refute it at one input. -/
def fnMajorityTableWrong : ChangeSpec := { name := "fnMajorityTable", fn := fun _ => fun
  | [d] => { results := [.lit (.bool false)], args := [d] }
  | _ => none }
def FnMajorityTableWrongFalsely : Prop := fnMajorityTableRow.holds Try.pinned (OpenSpec.ofChange fnMajorityTableWrong)

/-- 'laws.FnAskedTable': WHATEVER THE INPUT: true; the input reads as it did. -/
def fnAskedTableSpec : ChangeSpec := { name := "fnAskedTable", fn := fun _ => fun
  | [d] => { results := [.lit (.bool true)], args := [d] }
  | _ => none }
def fnAskedTableRow : OpenClaim := { program := "ytbnickgjnglblaa", sum := "feb305f3238928a8c37bd6f32e39626171d4a8e9c1e59824f4d910111f431129", func := "loop.example/tellersandliars/laws.FnAskedTable", spec := "fnAskedTable", recurses := true, apart := false }
def FnAskedTableSaid : Prop := fnAskedTableRow.holds Try.pinned (OpenSpec.ofChange fnAskedTableSpec)

/-- ITS FALSE NEIGHBOUR: 'it returns false'. Refute it at one input. -/
def fnAskedTableWrong : ChangeSpec := { name := "fnAskedTable", fn := fun _ => fun
  | [d] => { results := [.lit (.bool false)], args := [d] }
  | _ => none }
def FnAskedTableWrongFalsely : Prop := fnAskedTableRow.holds Try.pinned (OpenSpec.ofChange fnAskedTableWrong)

/-- 'laws.FnExactMajorityTable': WHATEVER THE INPUT: true; the input reads as it did. -/
def fnExactMajorityTableSpec : ChangeSpec := { name := "fnExactMajorityTable", fn := fun _ => fun
  | [d] => { results := [.lit (.bool true)], args := [d] }
  | _ => none }
def fnExactMajorityTableRow : OpenClaim := { program := "ytbnickgjnglblaa", sum := "feb305f3238928a8c37bd6f32e39626171d4a8e9c1e59824f4d910111f431129", func := "loop.example/tellersandliars/laws.FnExactMajorityTable", spec := "fnExactMajorityTable", apart := false }
def FnExactMajorityTableSaid : Prop := fnExactMajorityTableRow.holds Try.pinned (OpenSpec.ofChange fnExactMajorityTableSpec)

/-- ITS FALSE NEIGHBOUR: 'it returns false'. Refute it at one input. -/
def fnExactMajorityTableWrong : ChangeSpec := { name := "fnExactMajorityTable", fn := fun _ => fun
  | [d] => { results := [.lit (.bool false)], args := [d] }
  | _ => none }
def FnExactMajorityTableWrongFalsely : Prop := fnExactMajorityTableRow.holds Try.pinned (OpenSpec.ofChange fnExactMajorityTableWrong)

/-- 'laws.FnExactAskedTable': WHATEVER THE INPUT: true; the input reads as it did. -/
def fnExactAskedTableSpec : ChangeSpec := { name := "fnExactAskedTable", fn := fun _ => fun
  | [d1, d2, d3, d4, d5] => { results := [.lit (.bool true)], args := [d1, d2, d3, d4, d5] }
  | _ => none }
def fnExactAskedTableRow : OpenClaim := { program := "ytbnickgjnglblaa", sum := "feb305f3238928a8c37bd6f32e39626171d4a8e9c1e59824f4d910111f431129", func := "loop.example/tellersandliars/laws.FnExactAskedTable", spec := "fnExactAskedTable", recurses := true, apart := false }
def FnExactAskedTableSaid : Prop := fnExactAskedTableRow.holds Try.pinned (OpenSpec.ofChange fnExactAskedTableSpec)

/-- ITS FALSE NEIGHBOUR: 'it returns false'. Refute it at one input. -/
def fnExactAskedTableWrong : ChangeSpec := { name := "fnExactAskedTable", fn := fun _ => fun
  | [d1, d2, d3, d4, d5] => { results := [.lit (.bool false)], args := [d1, d2, d3, d4, d5] }
  | _ => none }
def FnExactAskedTableWrongFalsely : Prop := fnExactAskedTableRow.holds Try.pinned (OpenSpec.ofChange fnExactAskedTableWrong)

/- THE SECOND FORM. 'bulk': how many values and letters a reading holds, each counted each time it is reached (what is shared counts as often as it is met; a slice's spare places count too). A statement '..UptoSaid' is the law's where the arguments, and the package variables that the reading takes, are together of bulk at most 1048576: NARROWER than '..Said'. Prove '..Said' where nothing that the law and all that it calls make is longer than what came in: it says more and counts as full. Else prove '..UptoSaid'. A law counts once. -/
mutual
def uptoBulk {H : Type} : DataW H → Nat
  | .lit (.string bytes) => bytes.length + 1
  | .lit _ => 1
  | .nil => 1
  | .ptr d => uptoBulk d + 1
  | .slice elems spare => uptoBulkAll elems + uptoBulkAll spare + 1
  | .agg parts => uptoBulkAll parts + 1
  | .iface _ d => uptoBulk d + 1
  | .map entries => uptoBulkEntries entries + 1
  | .held _ => 1
def uptoBulkAll {H : Type} : List (DataW H) → Nat
  | [] => 0
  | d :: r => uptoBulk d + uptoBulkAll r
def uptoBulkEntries {H : Type} : List (Lit × DataW H) → Nat
  | [] => 0
  | x :: r => uptoBulkEntry x + uptoBulkEntries r
def uptoBulkEntry {H : Type} : Lit × DataW H → Nat
  | (.string bytes, d) => bytes.length + uptoBulk d + 1
  | (_, d) => uptoBulk d + 1
 end
def uptoSmall : (H : Type) → List (DataW H) → Bool := fun _ ds => decide (uptoBulkAll ds ≤ 1048576)
def OpenSpec.upto (s : _root_.Go.ChangeSpec) : _root_.Go.OpenSpec := { _root_.Go.OpenSpec.ofChange s with cond := some uptoSmall }

/-- 'laws.FnMajorityTable', WHERE WHAT IT READS IS OF BULK AT MOST 1048576: true; the input reads as it did. -/
def fnMajorityTableUptoRow : OpenClaim := { program := "ytbnickgjnglblaa", sum := "feb305f3238928a8c37bd6f32e39626171d4a8e9c1e59824f4d910111f431129", func := "loop.example/tellersandliars/laws.FnMajorityTable", spec := "fnMajorityTable", apart := false, narrowed := true }
def FnMajorityTableUptoSaid : Prop := fnMajorityTableUptoRow.holds Try.pinned (OpenSpec.upto fnMajorityTableSpec)

/-- 'laws.FnAskedTable', WHERE WHAT IT READS IS OF BULK AT MOST 1048576: true; the input reads as it did. -/
def fnAskedTableUptoRow : OpenClaim := { program := "ytbnickgjnglblaa", sum := "feb305f3238928a8c37bd6f32e39626171d4a8e9c1e59824f4d910111f431129", func := "loop.example/tellersandliars/laws.FnAskedTable", spec := "fnAskedTable", recurses := true, apart := false, narrowed := true }
def FnAskedTableUptoSaid : Prop := fnAskedTableUptoRow.holds Try.pinned (OpenSpec.upto fnAskedTableSpec)

/-- 'laws.FnExactMajorityTable', WHERE WHAT IT READS IS OF BULK AT MOST 1048576: true; the input reads as it did. -/
def fnExactMajorityTableUptoRow : OpenClaim := { program := "ytbnickgjnglblaa", sum := "feb305f3238928a8c37bd6f32e39626171d4a8e9c1e59824f4d910111f431129", func := "loop.example/tellersandliars/laws.FnExactMajorityTable", spec := "fnExactMajorityTable", apart := false, narrowed := true }
def FnExactMajorityTableUptoSaid : Prop := fnExactMajorityTableUptoRow.holds Try.pinned (OpenSpec.upto fnExactMajorityTableSpec)

/-- 'laws.FnExactAskedTable', WHERE WHAT IT READS IS OF BULK AT MOST 1048576: true; the input reads as it did. -/
def fnExactAskedTableUptoRow : OpenClaim := { program := "ytbnickgjnglblaa", sum := "feb305f3238928a8c37bd6f32e39626171d4a8e9c1e59824f4d910111f431129", func := "loop.example/tellersandliars/laws.FnExactAskedTable", spec := "fnExactAskedTable", recurses := true, apart := false, narrowed := true }
def FnExactAskedTableUptoSaid : Prop := fnExactAskedTableUptoRow.holds Try.pinned (OpenSpec.upto fnExactAskedTableSpec)

end Rows
end Go.Proofs.Ytbnickgjnglblaa
