/-
  No cell of these rows narrows 'for every input' (looked for: loops, veiled, ifaces, maps, wideKeys, modest, calm, conditions, laid).
  DERIVED. THE GIVEN ROWS OF THIS SEAT. 13 by the template 'for every input the law returns true; each argument reads behind the call as it read before'; 0 by the template 'total and deterministic' (their statements: YtobbbmcppmohoaaTotals.lean).
  GIVEN WITH THE SEED: the statements are not yours to turn. If you find one false, say at which input.
  Laid BY PROGRAM, IN A SANDBOX (cutbox-rows.mjs): the forced cells as the released guide's own fill.sh prints them over the translation 078f008b3b3d0adc… (all of the seat's roots in one cut). By AI agents, Wed Nov 11 2026. No macro, syntax, notation, axiom, sorry.
-/
import Derived.Test.YtobbbmcppmohoaaChecked
import GoSem.Claim
import GoSem.ClaimJoined
import GoSem.ClaimMapViews
import Derived.JoinedTies
import Derived.KernelRfl
namespace Go.Proofs.Ytobbbmcppmohoaa
/- THE CELL 'sum', in the pinned program and in every row, IS THE sha256 OF THE DUMP (.gsa) THAT YtobbbmcppmohoaaProg.lean LOADS. Nothing in Lean hashes anything: it is a label: what it is worth is what the hold of that sum in a sandbox is worth. -/
noncomputable def Try.pinned : Pinned := { name := "ytobbbmcppmohoaa", sum := "078f008b3b3d0adc66593d330be30608c158eb2be1c3f39a3374ba0d3f0f293e", checked := Try.checked }
namespace Rows
def none {H : Type} : Left H := { results := [], args := [] }

/-- 'laws.FnKindsOk': WHATEVER THE INPUT: true; the input reads as it did. -/
def fnKindsOkSpec : ChangeSpec := { name := "fnKindsOk", fn := fun _ => fun
  | [d] => { results := [.lit (.bool true)], args := [d] }
  | _ => none }
def fnKindsOkRow : OpenClaim := { program := "ytobbbmcppmohoaa", sum := "078f008b3b3d0adc66593d330be30608c158eb2be1c3f39a3374ba0d3f0f293e", func := "loop.example/tellersandliars/laws.FnKindsOk", spec := "fnKindsOk", apart := false }
def FnKindsOkSaid : Prop := fnKindsOkRow.holds Try.pinned (OpenSpec.ofChange fnKindsOkSpec)

/-- ITS FALSE NEIGHBOUR: 'it returns false'. Refute it at one input. -/
def fnKindsOkWrong : ChangeSpec := { name := "fnKindsOk", fn := fun _ => fun
  | [d] => { results := [.lit (.bool false)], args := [d] }
  | _ => none }
def FnKindsOkWrongFalsely : Prop := fnKindsOkRow.holds Try.pinned (OpenSpec.ofChange fnKindsOkWrong)

/-- 'laws.FnWorldOfKinds': WHATEVER THE INPUT: true; the input reads as it did. -/
def fnWorldOfKindsSpec : ChangeSpec := { name := "fnWorldOfKinds", fn := fun _ => fun
  | [d] => { results := [.lit (.bool true)], args := [d] }
  | _ => none }
def fnWorldOfKindsRow : OpenClaim := { program := "ytobbbmcppmohoaa", sum := "078f008b3b3d0adc66593d330be30608c158eb2be1c3f39a3374ba0d3f0f293e", func := "loop.example/tellersandliars/laws.FnWorldOfKinds", spec := "fnWorldOfKinds", apart := false }
def FnWorldOfKindsSaid : Prop := fnWorldOfKindsRow.holds Try.pinned (OpenSpec.ofChange fnWorldOfKindsSpec)

/-- ITS FALSE NEIGHBOUR: 'it returns false'. Refute it at one input. -/
def fnWorldOfKindsWrong : ChangeSpec := { name := "fnWorldOfKinds", fn := fun _ => fun
  | [d] => { results := [.lit (.bool false)], args := [d] }
  | _ => none }
def FnWorldOfKindsWrongFalsely : Prop := fnWorldOfKindsRow.holds Try.pinned (OpenSpec.ofChange fnWorldOfKindsWrong)

/-- 'laws.FnSpySays': WHATEVER THE INPUT: true; the input reads as it did. -/
def fnSpySaysSpec : ChangeSpec := { name := "fnSpySays", fn := fun _ => fun
  | [d] => { results := [.lit (.bool true)], args := [d] }
  | _ => none }
def fnSpySaysRow : OpenClaim := { program := "ytobbbmcppmohoaa", sum := "078f008b3b3d0adc66593d330be30608c158eb2be1c3f39a3374ba0d3f0f293e", func := "loop.example/tellersandliars/laws.FnSpySays", spec := "fnSpySays", recurses := true, apart := false }
def FnSpySaysSaid : Prop := fnSpySaysRow.holds Try.pinned (OpenSpec.ofChange fnSpySaysSpec)

/-- ITS FALSE NEIGHBOUR: 'it returns false'. Refute it at one input. -/
def fnSpySaysWrong : ChangeSpec := { name := "fnSpySays", fn := fun _ => fun
  | [d] => { results := [.lit (.bool false)], args := [d] }
  | _ => none }
def FnSpySaysWrongFalsely : Prop := fnSpySaysRow.holds Try.pinned (OpenSpec.ofChange fnSpySaysWrong)

/-- 'laws.FnSpyStory': WHATEVER THE INPUT: true; the input reads as it did. -/
def fnSpyStorySpec : ChangeSpec := { name := "fnSpyStory", fn := fun _ => fun
  | [d] => { results := [.lit (.bool true)], args := [d] }
  | _ => none }
def fnSpyStoryRow : OpenClaim := { program := "ytobbbmcppmohoaa", sum := "078f008b3b3d0adc66593d330be30608c158eb2be1c3f39a3374ba0d3f0f293e", func := "loop.example/tellersandliars/laws.FnSpyStory", spec := "fnSpyStory", recurses := true, apart := false }
def FnSpyStorySaid : Prop := fnSpyStoryRow.holds Try.pinned (OpenSpec.ofChange fnSpyStorySpec)

/-- ITS FALSE NEIGHBOUR: 'it returns false'. Refute it at one input. -/
def fnSpyStoryWrong : ChangeSpec := { name := "fnSpyStory", fn := fun _ => fun
  | [d] => { results := [.lit (.bool false)], args := [d] }
  | _ => none }
def FnSpyStoryWrongFalsely : Prop := fnSpyStoryRow.holds Try.pinned (OpenSpec.ofChange fnSpyStoryWrong)

/-- 'laws.FnFewestSpies': WHATEVER THE INPUT: true; the input reads as it did. -/
def fnFewestSpiesSpec : ChangeSpec := { name := "fnFewestSpies", fn := fun _ => fun
  | [d] => { results := [.lit (.bool true)], args := [d] }
  | _ => none }
def fnFewestSpiesRow : OpenClaim := { program := "ytobbbmcppmohoaa", sum := "078f008b3b3d0adc66593d330be30608c158eb2be1c3f39a3374ba0d3f0f293e", func := "loop.example/tellersandliars/laws.FnFewestSpies", spec := "fnFewestSpies", recurses := true, apart := false }
def FnFewestSpiesSaid : Prop := fnFewestSpiesRow.holds Try.pinned (OpenSpec.ofChange fnFewestSpiesSpec)

/-- ITS FALSE NEIGHBOUR: 'it returns false'. Refute it at one input. -/
def fnFewestSpiesWrong : ChangeSpec := { name := "fnFewestSpies", fn := fun _ => fun
  | [d] => { results := [.lit (.bool false)], args := [d] }
  | _ => none }
def FnFewestSpiesWrongFalsely : Prop := fnFewestSpiesRow.holds Try.pinned (OpenSpec.ofChange fnFewestSpiesWrong)

/-- 'laws.FnSpyRows': WHATEVER THE INPUT: true; the input reads as it did. -/
def fnSpyRowsSpec : ChangeSpec := { name := "fnSpyRows", fn := fun _ => fun
  | [d] => { results := [.lit (.bool true)], args := [d] }
  | _ => none }
def fnSpyRowsRow : OpenClaim := { program := "ytobbbmcppmohoaa", sum := "078f008b3b3d0adc66593d330be30608c158eb2be1c3f39a3374ba0d3f0f293e", func := "loop.example/tellersandliars/laws.FnSpyRows", spec := "fnSpyRows", recurses := true, apart := false }
def FnSpyRowsSaid : Prop := fnSpyRowsRow.holds Try.pinned (OpenSpec.ofChange fnSpyRowsSpec)

/-- ITS FALSE NEIGHBOUR: 'it returns false'. Refute it at one input. -/
def fnSpyRowsWrong : ChangeSpec := { name := "fnSpyRows", fn := fun _ => fun
  | [d] => { results := [.lit (.bool false)], args := [d] }
  | _ => none }
def FnSpyRowsWrongFalsely : Prop := fnSpyRowsRow.holds Try.pinned (OpenSpec.ofChange fnSpyRowsWrong)

/-- 'laws.FnSpyBetter': WHATEVER THE INPUT: true; the input reads as it did. -/
def fnSpyBetterSpec : ChangeSpec := { name := "fnSpyBetter", fn := fun _ => fun
  | [d] => { results := [.lit (.bool true)], args := [d] }
  | _ => none }
def fnSpyBetterRow : OpenClaim := { program := "ytobbbmcppmohoaa", sum := "078f008b3b3d0adc66593d330be30608c158eb2be1c3f39a3374ba0d3f0f293e", func := "loop.example/tellersandliars/laws.FnSpyBetter", spec := "fnSpyBetter", recurses := true, apart := false }
def FnSpyBetterSaid : Prop := fnSpyBetterRow.holds Try.pinned (OpenSpec.ofChange fnSpyBetterSpec)

/-- ITS FALSE NEIGHBOUR: 'it returns false'. Refute it at one input. -/
def fnSpyBetterWrong : ChangeSpec := { name := "fnSpyBetter", fn := fun _ => fun
  | [d] => { results := [.lit (.bool false)], args := [d] }
  | _ => none }
def FnSpyBetterWrongFalsely : Prop := fnSpyBetterRow.holds Try.pinned (OpenSpec.ofChange fnSpyBetterWrong)

/-- 'laws.FnExactKindsOk': WHATEVER THE INPUT: true; the input reads as it did. -/
def fnExactKindsOkSpec : ChangeSpec := { name := "fnExactKindsOk", fn := fun _ => fun
  | [d] => { results := [.lit (.bool true)], args := [d] }
  | _ => none }
def fnExactKindsOkRow : OpenClaim := { program := "ytobbbmcppmohoaa", sum := "078f008b3b3d0adc66593d330be30608c158eb2be1c3f39a3374ba0d3f0f293e", func := "loop.example/tellersandliars/laws.FnExactKindsOk", spec := "fnExactKindsOk", apart := false }
def FnExactKindsOkSaid : Prop := fnExactKindsOkRow.holds Try.pinned (OpenSpec.ofChange fnExactKindsOkSpec)

/-- ITS FALSE NEIGHBOUR: 'it returns false'. Refute it at one input. -/
def fnExactKindsOkWrong : ChangeSpec := { name := "fnExactKindsOk", fn := fun _ => fun
  | [d] => { results := [.lit (.bool false)], args := [d] }
  | _ => none }
def FnExactKindsOkWrongFalsely : Prop := fnExactKindsOkRow.holds Try.pinned (OpenSpec.ofChange fnExactKindsOkWrong)

/-- 'laws.FnExactWorldOfKinds': WHATEVER THE INPUT: true; the input reads as it did. -/
def fnExactWorldOfKindsSpec : ChangeSpec := { name := "fnExactWorldOfKinds", fn := fun _ => fun
  | [d] => { results := [.lit (.bool true)], args := [d] }
  | _ => none }
def fnExactWorldOfKindsRow : OpenClaim := { program := "ytobbbmcppmohoaa", sum := "078f008b3b3d0adc66593d330be30608c158eb2be1c3f39a3374ba0d3f0f293e", func := "loop.example/tellersandliars/laws.FnExactWorldOfKinds", spec := "fnExactWorldOfKinds", apart := false }
def FnExactWorldOfKindsSaid : Prop := fnExactWorldOfKindsRow.holds Try.pinned (OpenSpec.ofChange fnExactWorldOfKindsSpec)

/-- ITS FALSE NEIGHBOUR: 'it returns false'. Refute it at one input. -/
def fnExactWorldOfKindsWrong : ChangeSpec := { name := "fnExactWorldOfKinds", fn := fun _ => fun
  | [d] => { results := [.lit (.bool false)], args := [d] }
  | _ => none }
def FnExactWorldOfKindsWrongFalsely : Prop := fnExactWorldOfKindsRow.holds Try.pinned (OpenSpec.ofChange fnExactWorldOfKindsWrong)

/-- 'laws.FnExactSpySays': WHATEVER THE INPUT: true; the input reads as it did. -/
def fnExactSpySaysSpec : ChangeSpec := { name := "fnExactSpySays", fn := fun _ => fun
  | [d1, d2] => { results := [.lit (.bool true)], args := [d1, d2] }
  | _ => none }
def fnExactSpySaysRow : OpenClaim := { program := "ytobbbmcppmohoaa", sum := "078f008b3b3d0adc66593d330be30608c158eb2be1c3f39a3374ba0d3f0f293e", func := "loop.example/tellersandliars/laws.FnExactSpySays", spec := "fnExactSpySays", recurses := true, apart := false }
def FnExactSpySaysSaid : Prop := fnExactSpySaysRow.holds Try.pinned (OpenSpec.ofChange fnExactSpySaysSpec)

/-- ITS FALSE NEIGHBOUR: 'it returns false'. Refute it at one input. -/
def fnExactSpySaysWrong : ChangeSpec := { name := "fnExactSpySays", fn := fun _ => fun
  | [d1, d2] => { results := [.lit (.bool false)], args := [d1, d2] }
  | _ => none }
def FnExactSpySaysWrongFalsely : Prop := fnExactSpySaysRow.holds Try.pinned (OpenSpec.ofChange fnExactSpySaysWrong)

/-- 'laws.FnExactSpyStory': WHATEVER THE INPUT: true; the input reads as it did. -/
def fnExactSpyStorySpec : ChangeSpec := { name := "fnExactSpyStory", fn := fun _ => fun
  | [d1, d2] => { results := [.lit (.bool true)], args := [d1, d2] }
  | _ => none }
def fnExactSpyStoryRow : OpenClaim := { program := "ytobbbmcppmohoaa", sum := "078f008b3b3d0adc66593d330be30608c158eb2be1c3f39a3374ba0d3f0f293e", func := "loop.example/tellersandliars/laws.FnExactSpyStory", spec := "fnExactSpyStory", recurses := true, apart := false }
def FnExactSpyStorySaid : Prop := fnExactSpyStoryRow.holds Try.pinned (OpenSpec.ofChange fnExactSpyStorySpec)

/-- ITS FALSE NEIGHBOUR: 'it returns false'. Refute it at one input. -/
def fnExactSpyStoryWrong : ChangeSpec := { name := "fnExactSpyStory", fn := fun _ => fun
  | [d1, d2] => { results := [.lit (.bool false)], args := [d1, d2] }
  | _ => none }
def FnExactSpyStoryWrongFalsely : Prop := fnExactSpyStoryRow.holds Try.pinned (OpenSpec.ofChange fnExactSpyStoryWrong)

/-- 'laws.FnExactFewestSpies': WHATEVER THE INPUT: true; the input reads as it did. -/
def fnExactFewestSpiesSpec : ChangeSpec := { name := "fnExactFewestSpies", fn := fun _ => fun
  | [d1, d2] => { results := [.lit (.bool true)], args := [d1, d2] }
  | _ => none }
def fnExactFewestSpiesRow : OpenClaim := { program := "ytobbbmcppmohoaa", sum := "078f008b3b3d0adc66593d330be30608c158eb2be1c3f39a3374ba0d3f0f293e", func := "loop.example/tellersandliars/laws.FnExactFewestSpies", spec := "fnExactFewestSpies", recurses := true, apart := false }
def FnExactFewestSpiesSaid : Prop := fnExactFewestSpiesRow.holds Try.pinned (OpenSpec.ofChange fnExactFewestSpiesSpec)

/-- ITS FALSE NEIGHBOUR: 'it returns false'. Refute it at one input. -/
def fnExactFewestSpiesWrong : ChangeSpec := { name := "fnExactFewestSpies", fn := fun _ => fun
  | [d1, d2] => { results := [.lit (.bool false)], args := [d1, d2] }
  | _ => none }
def FnExactFewestSpiesWrongFalsely : Prop := fnExactFewestSpiesRow.holds Try.pinned (OpenSpec.ofChange fnExactFewestSpiesWrong)

/-- 'laws.FnExactSpyRows': WHATEVER THE INPUT: true; the input reads as it did. -/
def fnExactSpyRowsSpec : ChangeSpec := { name := "fnExactSpyRows", fn := fun _ => fun
  | [d1, d2, d3] => { results := [.lit (.bool true)], args := [d1, d2, d3] }
  | _ => none }
def fnExactSpyRowsRow : OpenClaim := { program := "ytobbbmcppmohoaa", sum := "078f008b3b3d0adc66593d330be30608c158eb2be1c3f39a3374ba0d3f0f293e", func := "loop.example/tellersandliars/laws.FnExactSpyRows", spec := "fnExactSpyRows", recurses := true, apart := false }
def FnExactSpyRowsSaid : Prop := fnExactSpyRowsRow.holds Try.pinned (OpenSpec.ofChange fnExactSpyRowsSpec)

/-- ITS FALSE NEIGHBOUR: 'it returns false'. Refute it at one input. -/
def fnExactSpyRowsWrong : ChangeSpec := { name := "fnExactSpyRows", fn := fun _ => fun
  | [d1, d2, d3] => { results := [.lit (.bool false)], args := [d1, d2, d3] }
  | _ => none }
def FnExactSpyRowsWrongFalsely : Prop := fnExactSpyRowsRow.holds Try.pinned (OpenSpec.ofChange fnExactSpyRowsWrong)

/- THE SECOND FORM. 'bulk': how many values and letters a reading holds, each counted each time it is reached (what is shared counts as often as it is met; a slice's spare places count too). A statement '..UptoSaid' is the law's where the arguments, and the package variables that the reading takes, are together of bulk at most 1048576: NARROWER than '..Said'. Prove '..Said' where nothing that the law and all that it calls make is longer than what came in: it says more and counts as full. Else prove '..UptoSaid'. A law counts once. -/
mutual
def uptoBulk {H : Type} : DataW H → Nat
  | .lit (.string bytes) => bytes.length + 1
  | .lit _ => 1
  | .nil => 1
  | .ptr d => uptoBulk d + 1
  | .slice elems spare => uptoBulkAll elems + uptoBulkAll spare + 1
  | .agg parts => uptoBulkAll parts + 1
  | .iface _ d => uptoBulk d + 1
  | .map entries => uptoBulkEntries entries + 1
  | .held _ => 1
def uptoBulkAll {H : Type} : List (DataW H) → Nat
  | [] => 0
  | d :: r => uptoBulk d + uptoBulkAll r
def uptoBulkEntries {H : Type} : List (Lit × DataW H) → Nat
  | [] => 0
  | x :: r => uptoBulkEntry x + uptoBulkEntries r
def uptoBulkEntry {H : Type} : Lit × DataW H → Nat
  | (.string bytes, d) => bytes.length + uptoBulk d + 1
  | (_, d) => uptoBulk d + 1
 end
def uptoSmall : (H : Type) → List (DataW H) → Bool := fun _ ds => decide (uptoBulkAll ds ≤ 1048576)
def OpenSpec.upto (s : _root_.Go.ChangeSpec) : _root_.Go.OpenSpec := { _root_.Go.OpenSpec.ofChange s with cond := some uptoSmall }

/-- 'laws.FnKindsOk', WHERE WHAT IT READS IS OF BULK AT MOST 1048576: true; the input reads as it did. -/
def fnKindsOkUptoRow : OpenClaim := { program := "ytobbbmcppmohoaa", sum := "078f008b3b3d0adc66593d330be30608c158eb2be1c3f39a3374ba0d3f0f293e", func := "loop.example/tellersandliars/laws.FnKindsOk", spec := "fnKindsOk", apart := false, narrowed := true }
def FnKindsOkUptoSaid : Prop := fnKindsOkUptoRow.holds Try.pinned (OpenSpec.upto fnKindsOkSpec)

/-- 'laws.FnWorldOfKinds', WHERE WHAT IT READS IS OF BULK AT MOST 1048576: true; the input reads as it did. -/
def fnWorldOfKindsUptoRow : OpenClaim := { program := "ytobbbmcppmohoaa", sum := "078f008b3b3d0adc66593d330be30608c158eb2be1c3f39a3374ba0d3f0f293e", func := "loop.example/tellersandliars/laws.FnWorldOfKinds", spec := "fnWorldOfKinds", apart := false, narrowed := true }
def FnWorldOfKindsUptoSaid : Prop := fnWorldOfKindsUptoRow.holds Try.pinned (OpenSpec.upto fnWorldOfKindsSpec)

/-- 'laws.FnSpySays', WHERE WHAT IT READS IS OF BULK AT MOST 1048576: true; the input reads as it did. -/
def fnSpySaysUptoRow : OpenClaim := { program := "ytobbbmcppmohoaa", sum := "078f008b3b3d0adc66593d330be30608c158eb2be1c3f39a3374ba0d3f0f293e", func := "loop.example/tellersandliars/laws.FnSpySays", spec := "fnSpySays", recurses := true, apart := false, narrowed := true }
def FnSpySaysUptoSaid : Prop := fnSpySaysUptoRow.holds Try.pinned (OpenSpec.upto fnSpySaysSpec)

/-- 'laws.FnSpyStory', WHERE WHAT IT READS IS OF BULK AT MOST 1048576: true; the input reads as it did. -/
def fnSpyStoryUptoRow : OpenClaim := { program := "ytobbbmcppmohoaa", sum := "078f008b3b3d0adc66593d330be30608c158eb2be1c3f39a3374ba0d3f0f293e", func := "loop.example/tellersandliars/laws.FnSpyStory", spec := "fnSpyStory", recurses := true, apart := false, narrowed := true }
def FnSpyStoryUptoSaid : Prop := fnSpyStoryUptoRow.holds Try.pinned (OpenSpec.upto fnSpyStorySpec)

/-- 'laws.FnFewestSpies', WHERE WHAT IT READS IS OF BULK AT MOST 1048576: true; the input reads as it did. -/
def fnFewestSpiesUptoRow : OpenClaim := { program := "ytobbbmcppmohoaa", sum := "078f008b3b3d0adc66593d330be30608c158eb2be1c3f39a3374ba0d3f0f293e", func := "loop.example/tellersandliars/laws.FnFewestSpies", spec := "fnFewestSpies", recurses := true, apart := false, narrowed := true }
def FnFewestSpiesUptoSaid : Prop := fnFewestSpiesUptoRow.holds Try.pinned (OpenSpec.upto fnFewestSpiesSpec)

/-- 'laws.FnSpyRows', WHERE WHAT IT READS IS OF BULK AT MOST 1048576: true; the input reads as it did. -/
def fnSpyRowsUptoRow : OpenClaim := { program := "ytobbbmcppmohoaa", sum := "078f008b3b3d0adc66593d330be30608c158eb2be1c3f39a3374ba0d3f0f293e", func := "loop.example/tellersandliars/laws.FnSpyRows", spec := "fnSpyRows", recurses := true, apart := false, narrowed := true }
def FnSpyRowsUptoSaid : Prop := fnSpyRowsUptoRow.holds Try.pinned (OpenSpec.upto fnSpyRowsSpec)

/-- 'laws.FnSpyBetter', WHERE WHAT IT READS IS OF BULK AT MOST 1048576: true; the input reads as it did. -/
def fnSpyBetterUptoRow : OpenClaim := { program := "ytobbbmcppmohoaa", sum := "078f008b3b3d0adc66593d330be30608c158eb2be1c3f39a3374ba0d3f0f293e", func := "loop.example/tellersandliars/laws.FnSpyBetter", spec := "fnSpyBetter", recurses := true, apart := false, narrowed := true }
def FnSpyBetterUptoSaid : Prop := fnSpyBetterUptoRow.holds Try.pinned (OpenSpec.upto fnSpyBetterSpec)

/-- 'laws.FnExactKindsOk', WHERE WHAT IT READS IS OF BULK AT MOST 1048576: true; the input reads as it did. -/
def fnExactKindsOkUptoRow : OpenClaim := { program := "ytobbbmcppmohoaa", sum := "078f008b3b3d0adc66593d330be30608c158eb2be1c3f39a3374ba0d3f0f293e", func := "loop.example/tellersandliars/laws.FnExactKindsOk", spec := "fnExactKindsOk", apart := false, narrowed := true }
def FnExactKindsOkUptoSaid : Prop := fnExactKindsOkUptoRow.holds Try.pinned (OpenSpec.upto fnExactKindsOkSpec)

/-- 'laws.FnExactWorldOfKinds', WHERE WHAT IT READS IS OF BULK AT MOST 1048576: true; the input reads as it did. -/
def fnExactWorldOfKindsUptoRow : OpenClaim := { program := "ytobbbmcppmohoaa", sum := "078f008b3b3d0adc66593d330be30608c158eb2be1c3f39a3374ba0d3f0f293e", func := "loop.example/tellersandliars/laws.FnExactWorldOfKinds", spec := "fnExactWorldOfKinds", apart := false, narrowed := true }
def FnExactWorldOfKindsUptoSaid : Prop := fnExactWorldOfKindsUptoRow.holds Try.pinned (OpenSpec.upto fnExactWorldOfKindsSpec)

/-- 'laws.FnExactSpySays', WHERE WHAT IT READS IS OF BULK AT MOST 1048576: true; the input reads as it did. -/
def fnExactSpySaysUptoRow : OpenClaim := { program := "ytobbbmcppmohoaa", sum := "078f008b3b3d0adc66593d330be30608c158eb2be1c3f39a3374ba0d3f0f293e", func := "loop.example/tellersandliars/laws.FnExactSpySays", spec := "fnExactSpySays", recurses := true, apart := false, narrowed := true }
def FnExactSpySaysUptoSaid : Prop := fnExactSpySaysUptoRow.holds Try.pinned (OpenSpec.upto fnExactSpySaysSpec)

/-- 'laws.FnExactSpyStory', WHERE WHAT IT READS IS OF BULK AT MOST 1048576: true; the input reads as it did. -/
def fnExactSpyStoryUptoRow : OpenClaim := { program := "ytobbbmcppmohoaa", sum := "078f008b3b3d0adc66593d330be30608c158eb2be1c3f39a3374ba0d3f0f293e", func := "loop.example/tellersandliars/laws.FnExactSpyStory", spec := "fnExactSpyStory", recurses := true, apart := false, narrowed := true }
def FnExactSpyStoryUptoSaid : Prop := fnExactSpyStoryUptoRow.holds Try.pinned (OpenSpec.upto fnExactSpyStorySpec)

/-- 'laws.FnExactFewestSpies', WHERE WHAT IT READS IS OF BULK AT MOST 1048576: true; the input reads as it did. -/
def fnExactFewestSpiesUptoRow : OpenClaim := { program := "ytobbbmcppmohoaa", sum := "078f008b3b3d0adc66593d330be30608c158eb2be1c3f39a3374ba0d3f0f293e", func := "loop.example/tellersandliars/laws.FnExactFewestSpies", spec := "fnExactFewestSpies", recurses := true, apart := false, narrowed := true }
def FnExactFewestSpiesUptoSaid : Prop := fnExactFewestSpiesUptoRow.holds Try.pinned (OpenSpec.upto fnExactFewestSpiesSpec)

/-- 'laws.FnExactSpyRows', WHERE WHAT IT READS IS OF BULK AT MOST 1048576: true; the input reads as it did. -/
def fnExactSpyRowsUptoRow : OpenClaim := { program := "ytobbbmcppmohoaa", sum := "078f008b3b3d0adc66593d330be30608c158eb2be1c3f39a3374ba0d3f0f293e", func := "loop.example/tellersandliars/laws.FnExactSpyRows", spec := "fnExactSpyRows", recurses := true, apart := false, narrowed := true }
def FnExactSpyRowsUptoSaid : Prop := fnExactSpyRowsUptoRow.holds Try.pinned (OpenSpec.upto fnExactSpyRowsSpec)

end Rows
end Go.Proofs.Ytobbbmcppmohoaa
