/-
  No cell of these rows narrows 'for every input' (looked for: loops, veiled, ifaces, maps, wideKeys, modest, calm, conditions, laid).
  DERIVED. THE GIVEN ROWS OF THIS SEAT. 14 by the template 'for every input the law returns true; each argument reads behind the call as it read before'; 0 by the template 'total and deterministic' (their statements: YtpccldbcmanhdaaTotals.lean).
  GIVEN WITH THE SEED: the statements are not yours to turn. If you find one false, say at which input.
  Laid BY PROGRAM, IN A SANDBOX (cutbox-rows.mjs): the forced cells as the released guide's own fill.sh prints them over the translation 885e428b5b54fbb7… (all of the seat's roots in one cut). By AI agents, Wed Nov 11 2026. No macro, syntax, notation, axiom, sorry.
-/
import Derived.Test.YtpccldbcmanhdaaChecked
import GoSem.Claim
import GoSem.ClaimJoined
import GoSem.ClaimMapViews
import Derived.JoinedTies
import Derived.KernelRfl
namespace Go.Proofs.Ytpccldbcmanhdaa
/- THE CELL 'sum', in the pinned program and in every row, IS THE sha256 OF THE DUMP (.gsa) THAT YtpccldbcmanhdaaProg.lean LOADS. Nothing in Lean hashes anything: it is a label: what it is worth is what the hold of that sum in a sandbox is worth. -/
noncomputable def Try.pinned : Pinned := { name := "ytpccldbcmanhdaa", sum := "885e428b5b54fbb7138133edf7ce1dd16ca34398155beef527befa34cbdfa121", checked := Try.checked }
namespace Rows
def none {H : Type} : Left H := { results := [], args := [] }

/-- 'laws.FnSayCount': WHATEVER THE INPUT: true; the input reads as it did. -/
def fnSayCountSpec : ChangeSpec := { name := "fnSayCount", fn := fun _ => fun
  | [d] => { results := [.lit (.bool true)], args := [d] }
  | _ => none }
def fnSayCountRow : OpenClaim := { program := "ytpccldbcmanhdaa", sum := "885e428b5b54fbb7138133edf7ce1dd16ca34398155beef527befa34cbdfa121", func := "loop.example/tellersandliars/laws.FnSayCount", spec := "fnSayCount", recurses := true, apart := false }
def FnSayCountSaid : Prop := fnSayCountRow.holds Try.pinned (OpenSpec.ofChange fnSayCountSpec)

/-- ITS FALSE NEIGHBOUR: 'it returns false'. Refute it at one input. -/
def fnSayCountWrong : ChangeSpec := { name := "fnSayCount", fn := fun _ => fun
  | [d] => { results := [.lit (.bool false)], args := [d] }
  | _ => none }
def FnSayCountWrongFalsely : Prop := fnSayCountRow.holds Try.pinned (OpenSpec.ofChange fnSayCountWrong)

/-- 'laws.FnNeverSaid': WHATEVER THE INPUT: true; the input reads as it did. -/
def fnNeverSaidSpec : ChangeSpec := { name := "fnNeverSaid", fn := fun _ => fun
  | [d] => { results := [.lit (.bool true)], args := [d] }
  | _ => none }
def fnNeverSaidRow : OpenClaim := { program := "ytpccldbcmanhdaa", sum := "885e428b5b54fbb7138133edf7ce1dd16ca34398155beef527befa34cbdfa121", func := "loop.example/tellersandliars/laws.FnNeverSaid", spec := "fnNeverSaid", recurses := true, apart := false }
def FnNeverSaidSaid : Prop := fnNeverSaidRow.holds Try.pinned (OpenSpec.ofChange fnNeverSaidSpec)

/-- ITS FALSE NEIGHBOUR: 'it returns false'. Refute it at one input. -/
def fnNeverSaidWrong : ChangeSpec := { name := "fnNeverSaid", fn := fun _ => fun
  | [d] => { results := [.lit (.bool false)], args := [d] }
  | _ => none }
def FnNeverSaidWrongFalsely : Prop := fnNeverSaidRow.holds Try.pinned (OpenSpec.ofChange fnNeverSaidWrong)

/-- 'laws.FnAlwaysSaid': WHATEVER THE INPUT: true; the input reads as it did. -/
def fnAlwaysSaidSpec : ChangeSpec := { name := "fnAlwaysSaid", fn := fun _ => fun
  | [d] => { results := [.lit (.bool true)], args := [d] }
  | _ => none }
def fnAlwaysSaidRow : OpenClaim := { program := "ytpccldbcmanhdaa", sum := "885e428b5b54fbb7138133edf7ce1dd16ca34398155beef527befa34cbdfa121", func := "loop.example/tellersandliars/laws.FnAlwaysSaid", spec := "fnAlwaysSaid", recurses := true, apart := false }
def FnAlwaysSaidSaid : Prop := fnAlwaysSaidRow.holds Try.pinned (OpenSpec.ofChange fnAlwaysSaidSpec)

/-- ITS FALSE NEIGHBOUR: 'it returns false'. Refute it at one input. -/
def fnAlwaysSaidWrong : ChangeSpec := { name := "fnAlwaysSaid", fn := fun _ => fun
  | [d] => { results := [.lit (.bool false)], args := [d] }
  | _ => none }
def FnAlwaysSaidWrongFalsely : Prop := fnAlwaysSaidRow.holds Try.pinned (OpenSpec.ofChange fnAlwaysSaidWrong)

/-- 'laws.FnNestedClaim': WHATEVER THE INPUT: true; the input reads as it did. -/
def fnNestedClaimSpec : ChangeSpec := { name := "fnNestedClaim", fn := fun _ => fun
  | [d] => { results := [.lit (.bool true)], args := [d] }
  | _ => none }
def fnNestedClaimRow : OpenClaim := { program := "ytpccldbcmanhdaa", sum := "885e428b5b54fbb7138133edf7ce1dd16ca34398155beef527befa34cbdfa121", func := "loop.example/tellersandliars/laws.FnNestedClaim", spec := "fnNestedClaim", recurses := true, apart := false }
def FnNestedClaimSaid : Prop := fnNestedClaimRow.holds Try.pinned (OpenSpec.ofChange fnNestedClaimSpec)

/-- ITS FALSE NEIGHBOUR: 'it returns false'. Refute it at one input. -/
def fnNestedClaimWrong : ChangeSpec := { name := "fnNestedClaim", fn := fun _ => fun
  | [d] => { results := [.lit (.bool false)], args := [d] }
  | _ => none }
def FnNestedClaimWrongFalsely : Prop := fnNestedClaimRow.holds Try.pinned (OpenSpec.ofChange fnNestedClaimWrong)

/-- 'laws.FnKindClaim': WHATEVER THE INPUT: true; the input reads as it did. -/
def fnKindClaimSpec : ChangeSpec := { name := "fnKindClaim", fn := fun _ => fun
  | [d] => { results := [.lit (.bool true)], args := [d] }
  | _ => none }
def fnKindClaimRow : OpenClaim := { program := "ytpccldbcmanhdaa", sum := "885e428b5b54fbb7138133edf7ce1dd16ca34398155beef527befa34cbdfa121", func := "loop.example/tellersandliars/laws.FnKindClaim", spec := "fnKindClaim", recurses := true, apart := false }
def FnKindClaimSaid : Prop := fnKindClaimRow.holds Try.pinned (OpenSpec.ofChange fnKindClaimSpec)

/-- ITS FALSE NEIGHBOUR: 'it returns false'. Refute it at one input. -/
def fnKindClaimWrong : ChangeSpec := { name := "fnKindClaim", fn := fun _ => fun
  | [d] => { results := [.lit (.bool false)], args := [d] }
  | _ => none }
def FnKindClaimWrongFalsely : Prop := fnKindClaimRow.holds Try.pinned (OpenSpec.ofChange fnKindClaimWrong)

/-- 'laws.FnExactSayCount': WHATEVER THE INPUT: true; the input reads as it did. -/
def fnExactSayCountSpec : ChangeSpec := { name := "fnExactSayCount", fn := fun _ => fun
  | [d1, d2] => { results := [.lit (.bool true)], args := [d1, d2] }
  | _ => none }
def fnExactSayCountRow : OpenClaim := { program := "ytpccldbcmanhdaa", sum := "885e428b5b54fbb7138133edf7ce1dd16ca34398155beef527befa34cbdfa121", func := "loop.example/tellersandliars/laws.FnExactSayCount", spec := "fnExactSayCount", recurses := true, apart := false }
def FnExactSayCountSaid : Prop := fnExactSayCountRow.holds Try.pinned (OpenSpec.ofChange fnExactSayCountSpec)

/-- ITS FALSE NEIGHBOUR: 'it returns false'. Refute it at one input. -/
def fnExactSayCountWrong : ChangeSpec := { name := "fnExactSayCount", fn := fun _ => fun
  | [d1, d2] => { results := [.lit (.bool false)], args := [d1, d2] }
  | _ => none }
def FnExactSayCountWrongFalsely : Prop := fnExactSayCountRow.holds Try.pinned (OpenSpec.ofChange fnExactSayCountWrong)

/-- 'laws.FnExactNeverSaid': WHATEVER THE INPUT: true; the input reads as it did. -/
def fnExactNeverSaidSpec : ChangeSpec := { name := "fnExactNeverSaid", fn := fun _ => fun
  | [d1, d2] => { results := [.lit (.bool true)], args := [d1, d2] }
  | _ => none }
def fnExactNeverSaidRow : OpenClaim := { program := "ytpccldbcmanhdaa", sum := "885e428b5b54fbb7138133edf7ce1dd16ca34398155beef527befa34cbdfa121", func := "loop.example/tellersandliars/laws.FnExactNeverSaid", spec := "fnExactNeverSaid", recurses := true, apart := false }
def FnExactNeverSaidSaid : Prop := fnExactNeverSaidRow.holds Try.pinned (OpenSpec.ofChange fnExactNeverSaidSpec)

/-- ITS FALSE NEIGHBOUR: 'it returns false'. Refute it at one input. -/
def fnExactNeverSaidWrong : ChangeSpec := { name := "fnExactNeverSaid", fn := fun _ => fun
  | [d1, d2] => { results := [.lit (.bool false)], args := [d1, d2] }
  | _ => none }
def FnExactNeverSaidWrongFalsely : Prop := fnExactNeverSaidRow.holds Try.pinned (OpenSpec.ofChange fnExactNeverSaidWrong)

/-- 'laws.FnExactAlwaysSaid': WHATEVER THE INPUT: true; the input reads as it did. -/
def fnExactAlwaysSaidSpec : ChangeSpec := { name := "fnExactAlwaysSaid", fn := fun _ => fun
  | [d1, d2] => { results := [.lit (.bool true)], args := [d1, d2] }
  | _ => none }
def fnExactAlwaysSaidRow : OpenClaim := { program := "ytpccldbcmanhdaa", sum := "885e428b5b54fbb7138133edf7ce1dd16ca34398155beef527befa34cbdfa121", func := "loop.example/tellersandliars/laws.FnExactAlwaysSaid", spec := "fnExactAlwaysSaid", recurses := true, apart := false }
def FnExactAlwaysSaidSaid : Prop := fnExactAlwaysSaidRow.holds Try.pinned (OpenSpec.ofChange fnExactAlwaysSaidSpec)

/-- ITS FALSE NEIGHBOUR: 'it returns false'. Refute it at one input. -/
def fnExactAlwaysSaidWrong : ChangeSpec := { name := "fnExactAlwaysSaid", fn := fun _ => fun
  | [d1, d2] => { results := [.lit (.bool false)], args := [d1, d2] }
  | _ => none }
def FnExactAlwaysSaidWrongFalsely : Prop := fnExactAlwaysSaidRow.holds Try.pinned (OpenSpec.ofChange fnExactAlwaysSaidWrong)

/-- 'laws.FnExactNestedClaim': WHATEVER THE INPUT: true; the input reads as it did. -/
def fnExactNestedClaimSpec : ChangeSpec := { name := "fnExactNestedClaim", fn := fun _ => fun
  | [d1, d2, d3] => { results := [.lit (.bool true)], args := [d1, d2, d3] }
  | _ => none }
def fnExactNestedClaimRow : OpenClaim := { program := "ytpccldbcmanhdaa", sum := "885e428b5b54fbb7138133edf7ce1dd16ca34398155beef527befa34cbdfa121", func := "loop.example/tellersandliars/laws.FnExactNestedClaim", spec := "fnExactNestedClaim", apart := false }
def FnExactNestedClaimSaid : Prop := fnExactNestedClaimRow.holds Try.pinned (OpenSpec.ofChange fnExactNestedClaimSpec)

/-- ITS FALSE NEIGHBOUR: 'it returns false'. Refute it at one input. -/
def fnExactNestedClaimWrong : ChangeSpec := { name := "fnExactNestedClaim", fn := fun _ => fun
  | [d1, d2, d3] => { results := [.lit (.bool false)], args := [d1, d2, d3] }
  | _ => none }
def FnExactNestedClaimWrongFalsely : Prop := fnExactNestedClaimRow.holds Try.pinned (OpenSpec.ofChange fnExactNestedClaimWrong)

/-- 'laws.FnExactKindClaim': WHATEVER THE INPUT: true; the input reads as it did. -/
def fnExactKindClaimSpec : ChangeSpec := { name := "fnExactKindClaim", fn := fun _ => fun
  | [d1, d2, d3, d4] => { results := [.lit (.bool true)], args := [d1, d2, d3, d4] }
  | _ => none }
def fnExactKindClaimRow : OpenClaim := { program := "ytpccldbcmanhdaa", sum := "885e428b5b54fbb7138133edf7ce1dd16ca34398155beef527befa34cbdfa121", func := "loop.example/tellersandliars/laws.FnExactKindClaim", spec := "fnExactKindClaim", apart := false }
def FnExactKindClaimSaid : Prop := fnExactKindClaimRow.holds Try.pinned (OpenSpec.ofChange fnExactKindClaimSpec)

/-- ITS FALSE NEIGHBOUR: 'it returns false'. Refute it at one input. -/
def fnExactKindClaimWrong : ChangeSpec := { name := "fnExactKindClaim", fn := fun _ => fun
  | [d1, d2, d3, d4] => { results := [.lit (.bool false)], args := [d1, d2, d3, d4] }
  | _ => none }
def FnExactKindClaimWrongFalsely : Prop := fnExactKindClaimRow.holds Try.pinned (OpenSpec.ofChange fnExactKindClaimWrong)

/-- 'laws.FnMaySay': WHATEVER THE INPUT: true; the input reads as it did. -/
def fnMaySaySpec : ChangeSpec := { name := "fnMaySay", fn := fun _ => fun
  | [d] => { results := [.lit (.bool true)], args := [d] }
  | _ => none }
def fnMaySayRow : OpenClaim := { program := "ytpccldbcmanhdaa", sum := "885e428b5b54fbb7138133edf7ce1dd16ca34398155beef527befa34cbdfa121", func := "loop.example/tellersandliars/laws.FnMaySay", spec := "fnMaySay", recurses := true, apart := false }
def FnMaySaySaid : Prop := fnMaySayRow.holds Try.pinned (OpenSpec.ofChange fnMaySaySpec)

/-- ITS FALSE NEIGHBOUR: 'it returns false'. Refute it at one input. -/
def fnMaySayWrong : ChangeSpec := { name := "fnMaySay", fn := fun _ => fun
  | [d] => { results := [.lit (.bool false)], args := [d] }
  | _ => none }
def FnMaySayWrongFalsely : Prop := fnMaySayRow.holds Try.pinned (OpenSpec.ofChange fnMaySayWrong)

/-- 'laws.FnClaimTable': WHATEVER THE INPUT: true; the input reads as it did. -/
def fnClaimTableSpec : ChangeSpec := { name := "fnClaimTable", fn := fun _ => fun
  | [d] => { results := [.lit (.bool true)], args := [d] }
  | _ => none }
def fnClaimTableRow : OpenClaim := { program := "ytpccldbcmanhdaa", sum := "885e428b5b54fbb7138133edf7ce1dd16ca34398155beef527befa34cbdfa121", func := "loop.example/tellersandliars/laws.FnClaimTable", spec := "fnClaimTable", recurses := true, apart := false }
def FnClaimTableSaid : Prop := fnClaimTableRow.holds Try.pinned (OpenSpec.ofChange fnClaimTableSpec)

/-- ITS FALSE NEIGHBOUR: 'it returns false'. Refute it at one input. -/
def fnClaimTableWrong : ChangeSpec := { name := "fnClaimTable", fn := fun _ => fun
  | [d] => { results := [.lit (.bool false)], args := [d] }
  | _ => none }
def FnClaimTableWrongFalsely : Prop := fnClaimTableRow.holds Try.pinned (OpenSpec.ofChange fnClaimTableWrong)

/-- 'laws.FnDenyClaim': WHATEVER THE INPUT: true; the input reads as it did. -/
def fnDenyClaimSpec : ChangeSpec := { name := "fnDenyClaim", fn := fun _ => fun
  | [d] => { results := [.lit (.bool true)], args := [d] }
  | _ => none }
def fnDenyClaimRow : OpenClaim := { program := "ytpccldbcmanhdaa", sum := "885e428b5b54fbb7138133edf7ce1dd16ca34398155beef527befa34cbdfa121", func := "loop.example/tellersandliars/laws.FnDenyClaim", spec := "fnDenyClaim", recurses := true, apart := false }
def FnDenyClaimSaid : Prop := fnDenyClaimRow.holds Try.pinned (OpenSpec.ofChange fnDenyClaimSpec)

/-- ITS FALSE NEIGHBOUR: 'it returns false'. Refute it at one input. -/
def fnDenyClaimWrong : ChangeSpec := { name := "fnDenyClaim", fn := fun _ => fun
  | [d] => { results := [.lit (.bool false)], args := [d] }
  | _ => none }
def FnDenyClaimWrongFalsely : Prop := fnDenyClaimRow.holds Try.pinned (OpenSpec.ofChange fnDenyClaimWrong)

/-- 'laws.FnExactDenyClaim': WHATEVER THE INPUT: true; the input reads as it did. -/
def fnExactDenyClaimSpec : ChangeSpec := { name := "fnExactDenyClaim", fn := fun _ => fun
  | [d1, d2] => { results := [.lit (.bool true)], args := [d1, d2] }
  | _ => none }
def fnExactDenyClaimRow : OpenClaim := { program := "ytpccldbcmanhdaa", sum := "885e428b5b54fbb7138133edf7ce1dd16ca34398155beef527befa34cbdfa121", func := "loop.example/tellersandliars/laws.FnExactDenyClaim", spec := "fnExactDenyClaim", apart := false }
def FnExactDenyClaimSaid : Prop := fnExactDenyClaimRow.holds Try.pinned (OpenSpec.ofChange fnExactDenyClaimSpec)

/-- ITS FALSE NEIGHBOUR: 'it returns false'. Refute it at one input. -/
def fnExactDenyClaimWrong : ChangeSpec := { name := "fnExactDenyClaim", fn := fun _ => fun
  | [d1, d2] => { results := [.lit (.bool false)], args := [d1, d2] }
  | _ => none }
def FnExactDenyClaimWrongFalsely : Prop := fnExactDenyClaimRow.holds Try.pinned (OpenSpec.ofChange fnExactDenyClaimWrong)

/- THE SECOND FORM. 'bulk': how many values and letters a reading holds, each counted each time it is reached (what is shared counts as often as it is met; a slice's spare places count too). A statement '..UptoSaid' is the law's where the arguments, and the package variables that the reading takes, are together of bulk at most 1048576: NARROWER than '..Said'. Prove '..Said' where nothing that the law and all that it calls make is longer than what came in: it says more and counts as full. Else prove '..UptoSaid'. A law counts once. -/
mutual
def uptoBulk {H : Type} : DataW H → Nat
  | .lit (.string bytes) => bytes.length + 1
  | .lit _ => 1
  | .nil => 1
  | .ptr d => uptoBulk d + 1
  | .slice elems spare => uptoBulkAll elems + uptoBulkAll spare + 1
  | .agg parts => uptoBulkAll parts + 1
  | .iface _ d => uptoBulk d + 1
  | .map entries => uptoBulkEntries entries + 1
  | .held _ => 1
def uptoBulkAll {H : Type} : List (DataW H) → Nat
  | [] => 0
  | d :: r => uptoBulk d + uptoBulkAll r
def uptoBulkEntries {H : Type} : List (Lit × DataW H) → Nat
  | [] => 0
  | x :: r => uptoBulkEntry x + uptoBulkEntries r
def uptoBulkEntry {H : Type} : Lit × DataW H → Nat
  | (.string bytes, d) => bytes.length + uptoBulk d + 1
  | (_, d) => uptoBulk d + 1
 end
def uptoSmall : (H : Type) → List (DataW H) → Bool := fun _ ds => decide (uptoBulkAll ds ≤ 1048576)
def OpenSpec.upto (s : _root_.Go.ChangeSpec) : _root_.Go.OpenSpec := { _root_.Go.OpenSpec.ofChange s with cond := some uptoSmall }

/-- 'laws.FnSayCount', WHERE WHAT IT READS IS OF BULK AT MOST 1048576: true; the input reads as it did. -/
def fnSayCountUptoRow : OpenClaim := { program := "ytpccldbcmanhdaa", sum := "885e428b5b54fbb7138133edf7ce1dd16ca34398155beef527befa34cbdfa121", func := "loop.example/tellersandliars/laws.FnSayCount", spec := "fnSayCount", recurses := true, apart := false, narrowed := true }
def FnSayCountUptoSaid : Prop := fnSayCountUptoRow.holds Try.pinned (OpenSpec.upto fnSayCountSpec)

/-- 'laws.FnNeverSaid', WHERE WHAT IT READS IS OF BULK AT MOST 1048576: true; the input reads as it did. -/
def fnNeverSaidUptoRow : OpenClaim := { program := "ytpccldbcmanhdaa", sum := "885e428b5b54fbb7138133edf7ce1dd16ca34398155beef527befa34cbdfa121", func := "loop.example/tellersandliars/laws.FnNeverSaid", spec := "fnNeverSaid", recurses := true, apart := false, narrowed := true }
def FnNeverSaidUptoSaid : Prop := fnNeverSaidUptoRow.holds Try.pinned (OpenSpec.upto fnNeverSaidSpec)

/-- 'laws.FnAlwaysSaid', WHERE WHAT IT READS IS OF BULK AT MOST 1048576: true; the input reads as it did. -/
def fnAlwaysSaidUptoRow : OpenClaim := { program := "ytpccldbcmanhdaa", sum := "885e428b5b54fbb7138133edf7ce1dd16ca34398155beef527befa34cbdfa121", func := "loop.example/tellersandliars/laws.FnAlwaysSaid", spec := "fnAlwaysSaid", recurses := true, apart := false, narrowed := true }
def FnAlwaysSaidUptoSaid : Prop := fnAlwaysSaidUptoRow.holds Try.pinned (OpenSpec.upto fnAlwaysSaidSpec)

/-- 'laws.FnNestedClaim', WHERE WHAT IT READS IS OF BULK AT MOST 1048576: true; the input reads as it did. -/
def fnNestedClaimUptoRow : OpenClaim := { program := "ytpccldbcmanhdaa", sum := "885e428b5b54fbb7138133edf7ce1dd16ca34398155beef527befa34cbdfa121", func := "loop.example/tellersandliars/laws.FnNestedClaim", spec := "fnNestedClaim", recurses := true, apart := false, narrowed := true }
def FnNestedClaimUptoSaid : Prop := fnNestedClaimUptoRow.holds Try.pinned (OpenSpec.upto fnNestedClaimSpec)

/-- 'laws.FnKindClaim', WHERE WHAT IT READS IS OF BULK AT MOST 1048576: true; the input reads as it did. -/
def fnKindClaimUptoRow : OpenClaim := { program := "ytpccldbcmanhdaa", sum := "885e428b5b54fbb7138133edf7ce1dd16ca34398155beef527befa34cbdfa121", func := "loop.example/tellersandliars/laws.FnKindClaim", spec := "fnKindClaim", recurses := true, apart := false, narrowed := true }
def FnKindClaimUptoSaid : Prop := fnKindClaimUptoRow.holds Try.pinned (OpenSpec.upto fnKindClaimSpec)

/-- 'laws.FnExactSayCount', WHERE WHAT IT READS IS OF BULK AT MOST 1048576: true; the input reads as it did. -/
def fnExactSayCountUptoRow : OpenClaim := { program := "ytpccldbcmanhdaa", sum := "885e428b5b54fbb7138133edf7ce1dd16ca34398155beef527befa34cbdfa121", func := "loop.example/tellersandliars/laws.FnExactSayCount", spec := "fnExactSayCount", recurses := true, apart := false, narrowed := true }
def FnExactSayCountUptoSaid : Prop := fnExactSayCountUptoRow.holds Try.pinned (OpenSpec.upto fnExactSayCountSpec)

/-- 'laws.FnExactNeverSaid', WHERE WHAT IT READS IS OF BULK AT MOST 1048576: true; the input reads as it did. -/
def fnExactNeverSaidUptoRow : OpenClaim := { program := "ytpccldbcmanhdaa", sum := "885e428b5b54fbb7138133edf7ce1dd16ca34398155beef527befa34cbdfa121", func := "loop.example/tellersandliars/laws.FnExactNeverSaid", spec := "fnExactNeverSaid", recurses := true, apart := false, narrowed := true }
def FnExactNeverSaidUptoSaid : Prop := fnExactNeverSaidUptoRow.holds Try.pinned (OpenSpec.upto fnExactNeverSaidSpec)

/-- 'laws.FnExactAlwaysSaid', WHERE WHAT IT READS IS OF BULK AT MOST 1048576: true; the input reads as it did. -/
def fnExactAlwaysSaidUptoRow : OpenClaim := { program := "ytpccldbcmanhdaa", sum := "885e428b5b54fbb7138133edf7ce1dd16ca34398155beef527befa34cbdfa121", func := "loop.example/tellersandliars/laws.FnExactAlwaysSaid", spec := "fnExactAlwaysSaid", recurses := true, apart := false, narrowed := true }
def FnExactAlwaysSaidUptoSaid : Prop := fnExactAlwaysSaidUptoRow.holds Try.pinned (OpenSpec.upto fnExactAlwaysSaidSpec)

/-- 'laws.FnExactNestedClaim', WHERE WHAT IT READS IS OF BULK AT MOST 1048576: true; the input reads as it did. -/
def fnExactNestedClaimUptoRow : OpenClaim := { program := "ytpccldbcmanhdaa", sum := "885e428b5b54fbb7138133edf7ce1dd16ca34398155beef527befa34cbdfa121", func := "loop.example/tellersandliars/laws.FnExactNestedClaim", spec := "fnExactNestedClaim", apart := false, narrowed := true }
def FnExactNestedClaimUptoSaid : Prop := fnExactNestedClaimUptoRow.holds Try.pinned (OpenSpec.upto fnExactNestedClaimSpec)

/-- 'laws.FnExactKindClaim', WHERE WHAT IT READS IS OF BULK AT MOST 1048576: true; the input reads as it did. -/
def fnExactKindClaimUptoRow : OpenClaim := { program := "ytpccldbcmanhdaa", sum := "885e428b5b54fbb7138133edf7ce1dd16ca34398155beef527befa34cbdfa121", func := "loop.example/tellersandliars/laws.FnExactKindClaim", spec := "fnExactKindClaim", apart := false, narrowed := true }
def FnExactKindClaimUptoSaid : Prop := fnExactKindClaimUptoRow.holds Try.pinned (OpenSpec.upto fnExactKindClaimSpec)

/-- 'laws.FnMaySay', WHERE WHAT IT READS IS OF BULK AT MOST 1048576: true; the input reads as it did. -/
def fnMaySayUptoRow : OpenClaim := { program := "ytpccldbcmanhdaa", sum := "885e428b5b54fbb7138133edf7ce1dd16ca34398155beef527befa34cbdfa121", func := "loop.example/tellersandliars/laws.FnMaySay", spec := "fnMaySay", recurses := true, apart := false, narrowed := true }
def FnMaySayUptoSaid : Prop := fnMaySayUptoRow.holds Try.pinned (OpenSpec.upto fnMaySaySpec)

/-- 'laws.FnClaimTable', WHERE WHAT IT READS IS OF BULK AT MOST 1048576: true; the input reads as it did. -/
def fnClaimTableUptoRow : OpenClaim := { program := "ytpccldbcmanhdaa", sum := "885e428b5b54fbb7138133edf7ce1dd16ca34398155beef527befa34cbdfa121", func := "loop.example/tellersandliars/laws.FnClaimTable", spec := "fnClaimTable", recurses := true, apart := false, narrowed := true }
def FnClaimTableUptoSaid : Prop := fnClaimTableUptoRow.holds Try.pinned (OpenSpec.upto fnClaimTableSpec)

/-- 'laws.FnDenyClaim', WHERE WHAT IT READS IS OF BULK AT MOST 1048576: true; the input reads as it did. -/
def fnDenyClaimUptoRow : OpenClaim := { program := "ytpccldbcmanhdaa", sum := "885e428b5b54fbb7138133edf7ce1dd16ca34398155beef527befa34cbdfa121", func := "loop.example/tellersandliars/laws.FnDenyClaim", spec := "fnDenyClaim", recurses := true, apart := false, narrowed := true }
def FnDenyClaimUptoSaid : Prop := fnDenyClaimUptoRow.holds Try.pinned (OpenSpec.upto fnDenyClaimSpec)

/-- 'laws.FnExactDenyClaim', WHERE WHAT IT READS IS OF BULK AT MOST 1048576: true; the input reads as it did. -/
def fnExactDenyClaimUptoRow : OpenClaim := { program := "ytpccldbcmanhdaa", sum := "885e428b5b54fbb7138133edf7ce1dd16ca34398155beef527befa34cbdfa121", func := "loop.example/tellersandliars/laws.FnExactDenyClaim", spec := "fnExactDenyClaim", apart := false, narrowed := true }
def FnExactDenyClaimUptoSaid : Prop := fnExactDenyClaimUptoRow.holds Try.pinned (OpenSpec.upto fnExactDenyClaimSpec)

end Rows
end Go.Proofs.Ytpccldbcmanhdaa
