/-
  No cell of these rows narrows 'for every input' (looked for: loops, veiled, ifaces, maps, wideKeys, modest, calm, conditions, laid).
  DERIVED. THE GIVEN ROWS OF THIS SEAT. 7 by the template 'for every input the law returns true; each argument reads behind the call as it read before'; 0 by the template 'total and deterministic' (their statements: YtbcmepcjhobemaaTotals.lean).
  GIVEN WITH THE SEED: the statements are not yours to turn. If you find one false, say at which input.
  Laid BY PROGRAM, IN A SANDBOX (cutbox-rows.mjs): the forced cells as the released guide's own fill.sh prints them over the translation 9a76617b6bc2e5b0… (all of the seat's roots in one cut). By AI agents, Wed Nov 11 2026. No macro, syntax, notation, axiom, sorry.
-/
import Derived.Test.YtbcmepcjhobemaaChecked
import GoSem.Claim
import GoSem.ClaimJoined
import GoSem.ClaimMapViews
import Derived.JoinedTies
import Derived.KernelRfl
namespace Go.Proofs.Ytbcmepcjhobemaa
/- THE CELL 'sum', in the pinned program and in every row, IS THE sha256 OF THE DUMP (.gsa) THAT YtbcmepcjhobemaaProg.lean LOADS. Nothing in Lean hashes anything: it is a label: what it is worth is what the hold of that sum in a sandbox is worth. -/
noncomputable def Try.pinned : Pinned := { name := "ytbcmepcjhobemaa", sum := "9a76617b6bc2e5b02f0b55fa1a7dffd1e65da07ea05c2caa1d06f64ac8492121", checked := Try.checked }
namespace Rows
def none {H : Type} : Left H := { results := [], args := [] }

/-- 'laws.FnWordIn': WHATEVER THE INPUT: true; the input reads as it did. -/
def fnWordInSpec : ChangeSpec := { name := "fnWordIn", fn := fun _ => fun
  | [d] => { results := [.lit (.bool true)], args := [d] }
  | _ => none }
def fnWordInRow : OpenClaim := { program := "ytbcmepcjhobemaa", sum := "9a76617b6bc2e5b02f0b55fa1a7dffd1e65da07ea05c2caa1d06f64ac8492121", func := "loop.example/tellersandliars/laws.FnWordIn", spec := "fnWordIn", recurses := true, apart := false }
def FnWordInSaid : Prop := fnWordInRow.holds Try.pinned (OpenSpec.ofChange fnWordInSpec)

/-- ITS FALSE NEIGHBOUR: 'it returns false'. Refute it at one input. -/
def fnWordInWrong : ChangeSpec := { name := "fnWordIn", fn := fun _ => fun
  | [d] => { results := [.lit (.bool false)], args := [d] }
  | _ => none }
def FnWordInWrongFalsely : Prop := fnWordInRow.holds Try.pinned (OpenSpec.ofChange fnWordInWrong)

/-- 'laws.FnStrangeTerm': WHATEVER THE INPUT: true; the input reads as it did. -/
def fnStrangeTermSpec : ChangeSpec := { name := "fnStrangeTerm", fn := fun _ => fun
  | [d] => { results := [.lit (.bool true)], args := [d] }
  | _ => none }
def fnStrangeTermRow : OpenClaim := { program := "ytbcmepcjhobemaa", sum := "9a76617b6bc2e5b02f0b55fa1a7dffd1e65da07ea05c2caa1d06f64ac8492121", func := "loop.example/tellersandliars/laws.FnStrangeTerm", spec := "fnStrangeTerm", unfollowed := true, recurses := true, apart := false }
def FnStrangeTermSaid : Prop := fnStrangeTermRow.holds Try.pinned (OpenSpec.ofChange fnStrangeTermSpec)

/-- ITS FALSE NEIGHBOUR: 'it returns false'. Refute it at one input. -/
def fnStrangeTermWrong : ChangeSpec := { name := "fnStrangeTerm", fn := fun _ => fun
  | [d] => { results := [.lit (.bool false)], args := [d] }
  | _ => none }
def FnStrangeTermWrongFalsely : Prop := fnStrangeTermRow.holds Try.pinned (OpenSpec.ofChange fnStrangeTermWrong)

/-- 'laws.FnWordTable': WHATEVER THE INPUT: true; the input reads as it did. -/
def fnWordTableSpec : ChangeSpec := { name := "fnWordTable", fn := fun _ => fun
  | [d] => { results := [.lit (.bool true)], args := [d] }
  | _ => none }
def fnWordTableRow : OpenClaim := { program := "ytbcmepcjhobemaa", sum := "9a76617b6bc2e5b02f0b55fa1a7dffd1e65da07ea05c2caa1d06f64ac8492121", func := "loop.example/tellersandliars/laws.FnWordTable", spec := "fnWordTable", unfollowed := true, recurses := true, apart := false }
def FnWordTableSaid : Prop := fnWordTableRow.holds Try.pinned (OpenSpec.ofChange fnWordTableSpec)

/-- ITS FALSE NEIGHBOUR: 'it returns false'. Refute it at one input. -/
def fnWordTableWrong : ChangeSpec := { name := "fnWordTable", fn := fun _ => fun
  | [d] => { results := [.lit (.bool false)], args := [d] }
  | _ => none }
def FnWordTableWrongFalsely : Prop := fnWordTableRow.holds Try.pinned (OpenSpec.ofChange fnWordTableWrong)

/-- 'laws.FnStrangeSame': WHATEVER THE INPUT: true; the input reads as it did. -/
def fnStrangeSameSpec : ChangeSpec := { name := "fnStrangeSame", fn := fun _ => fun
  | [d] => { results := [.lit (.bool true)], args := [d] }
  | _ => none }
def fnStrangeSameRow : OpenClaim := { program := "ytbcmepcjhobemaa", sum := "9a76617b6bc2e5b02f0b55fa1a7dffd1e65da07ea05c2caa1d06f64ac8492121", func := "loop.example/tellersandliars/laws.FnStrangeSame", spec := "fnStrangeSame", unfollowed := true, recurses := true, apart := false }
def FnStrangeSameSaid : Prop := fnStrangeSameRow.holds Try.pinned (OpenSpec.ofChange fnStrangeSameSpec)

/-- ITS FALSE NEIGHBOUR: 'it returns false'. Refute it at one input. -/
def fnStrangeSameWrong : ChangeSpec := { name := "fnStrangeSame", fn := fun _ => fun
  | [d] => { results := [.lit (.bool false)], args := [d] }
  | _ => none }
def FnStrangeSameWrongFalsely : Prop := fnStrangeSameRow.holds Try.pinned (OpenSpec.ofChange fnStrangeSameWrong)

/-- 'laws.FnExactWordIn': WHATEVER THE INPUT: true; the input reads as it did. -/
def fnExactWordInSpec : ChangeSpec := { name := "fnExactWordIn", fn := fun _ => fun
  | [d1, d2, d3, d4] => { results := [.lit (.bool true)], args := [d1, d2, d3, d4] }
  | _ => none }
def fnExactWordInRow : OpenClaim := { program := "ytbcmepcjhobemaa", sum := "9a76617b6bc2e5b02f0b55fa1a7dffd1e65da07ea05c2caa1d06f64ac8492121", func := "loop.example/tellersandliars/laws.FnExactWordIn", spec := "fnExactWordIn", recurses := true, apart := false }
def FnExactWordInSaid : Prop := fnExactWordInRow.holds Try.pinned (OpenSpec.ofChange fnExactWordInSpec)

/-- ITS FALSE NEIGHBOUR: 'it returns false'. Refute it at one input. -/
def fnExactWordInWrong : ChangeSpec := { name := "fnExactWordIn", fn := fun _ => fun
  | [d1, d2, d3, d4] => { results := [.lit (.bool false)], args := [d1, d2, d3, d4] }
  | _ => none }
def FnExactWordInWrongFalsely : Prop := fnExactWordInRow.holds Try.pinned (OpenSpec.ofChange fnExactWordInWrong)

/-- 'laws.FnExactStrangeTerm': WHATEVER THE INPUT: true; the input reads as it did. -/
def fnExactStrangeTermSpec : ChangeSpec := { name := "fnExactStrangeTerm", fn := fun _ => fun
  | [d1, d2, d3] => { results := [.lit (.bool true)], args := [d1, d2, d3] }
  | _ => none }
def fnExactStrangeTermRow : OpenClaim := { program := "ytbcmepcjhobemaa", sum := "9a76617b6bc2e5b02f0b55fa1a7dffd1e65da07ea05c2caa1d06f64ac8492121", func := "loop.example/tellersandliars/laws.FnExactStrangeTerm", spec := "fnExactStrangeTerm", unfollowed := true, recurses := true, apart := false }
def FnExactStrangeTermSaid : Prop := fnExactStrangeTermRow.holds Try.pinned (OpenSpec.ofChange fnExactStrangeTermSpec)

/-- ITS FALSE NEIGHBOUR: 'it returns false'. Refute it at one input. -/
def fnExactStrangeTermWrong : ChangeSpec := { name := "fnExactStrangeTerm", fn := fun _ => fun
  | [d1, d2, d3] => { results := [.lit (.bool false)], args := [d1, d2, d3] }
  | _ => none }
def FnExactStrangeTermWrongFalsely : Prop := fnExactStrangeTermRow.holds Try.pinned (OpenSpec.ofChange fnExactStrangeTermWrong)

/-- 'laws.FnExactWordTable': WHATEVER THE INPUT: true; the input reads as it did. -/
def fnExactWordTableSpec : ChangeSpec := { name := "fnExactWordTable", fn := fun _ => fun
  | [d1, d2, d3] => { results := [.lit (.bool true)], args := [d1, d2, d3] }
  | _ => none }
def fnExactWordTableRow : OpenClaim := { program := "ytbcmepcjhobemaa", sum := "9a76617b6bc2e5b02f0b55fa1a7dffd1e65da07ea05c2caa1d06f64ac8492121", func := "loop.example/tellersandliars/laws.FnExactWordTable", spec := "fnExactWordTable", recurses := true, apart := false }
def FnExactWordTableSaid : Prop := fnExactWordTableRow.holds Try.pinned (OpenSpec.ofChange fnExactWordTableSpec)

/-- ITS FALSE NEIGHBOUR: 'it returns false'. Refute it at one input. -/
def fnExactWordTableWrong : ChangeSpec := { name := "fnExactWordTable", fn := fun _ => fun
  | [d1, d2, d3] => { results := [.lit (.bool false)], args := [d1, d2, d3] }
  | _ => none }
def FnExactWordTableWrongFalsely : Prop := fnExactWordTableRow.holds Try.pinned (OpenSpec.ofChange fnExactWordTableWrong)

/- THE SECOND FORM. 'bulk': how many values and letters a reading holds, each counted each time it is reached (what is shared counts as often as it is met; a slice's spare places count too). A statement '..UptoSaid' is the law's where the arguments, and the package variables that the reading takes, are together of bulk at most 1048576: NARROWER than '..Said'. Prove '..Said' where nothing that the law and all that it calls make is longer than what came in: it says more and counts as full. Else prove '..UptoSaid'. A law counts once. -/
mutual
def uptoBulk {H : Type} : DataW H → Nat
  | .lit (.string bytes) => bytes.length + 1
  | .lit _ => 1
  | .nil => 1
  | .ptr d => uptoBulk d + 1
  | .slice elems spare => uptoBulkAll elems + uptoBulkAll spare + 1
  | .agg parts => uptoBulkAll parts + 1
  | .iface _ d => uptoBulk d + 1
  | .map entries => uptoBulkEntries entries + 1
  | .held _ => 1
def uptoBulkAll {H : Type} : List (DataW H) → Nat
  | [] => 0
  | d :: r => uptoBulk d + uptoBulkAll r
def uptoBulkEntries {H : Type} : List (Lit × DataW H) → Nat
  | [] => 0
  | x :: r => uptoBulkEntry x + uptoBulkEntries r
def uptoBulkEntry {H : Type} : Lit × DataW H → Nat
  | (.string bytes, d) => bytes.length + uptoBulk d + 1
  | (_, d) => uptoBulk d + 1
 end
def uptoSmall : (H : Type) → List (DataW H) → Bool := fun _ ds => decide (uptoBulkAll ds ≤ 1048576)
def OpenSpec.upto (s : _root_.Go.ChangeSpec) : _root_.Go.OpenSpec := { _root_.Go.OpenSpec.ofChange s with cond := some uptoSmall }

/-- 'laws.FnWordIn', WHERE WHAT IT READS IS OF BULK AT MOST 1048576: true; the input reads as it did. -/
def fnWordInUptoRow : OpenClaim := { program := "ytbcmepcjhobemaa", sum := "9a76617b6bc2e5b02f0b55fa1a7dffd1e65da07ea05c2caa1d06f64ac8492121", func := "loop.example/tellersandliars/laws.FnWordIn", spec := "fnWordIn", recurses := true, apart := false, narrowed := true }
def FnWordInUptoSaid : Prop := fnWordInUptoRow.holds Try.pinned (OpenSpec.upto fnWordInSpec)

/-- 'laws.FnStrangeTerm', WHERE WHAT IT READS IS OF BULK AT MOST 1048576: true; the input reads as it did. -/
def fnStrangeTermUptoRow : OpenClaim := { program := "ytbcmepcjhobemaa", sum := "9a76617b6bc2e5b02f0b55fa1a7dffd1e65da07ea05c2caa1d06f64ac8492121", func := "loop.example/tellersandliars/laws.FnStrangeTerm", spec := "fnStrangeTerm", unfollowed := true, recurses := true, apart := false, narrowed := true }
def FnStrangeTermUptoSaid : Prop := fnStrangeTermUptoRow.holds Try.pinned (OpenSpec.upto fnStrangeTermSpec)

/-- 'laws.FnWordTable', WHERE WHAT IT READS IS OF BULK AT MOST 1048576: true; the input reads as it did. -/
def fnWordTableUptoRow : OpenClaim := { program := "ytbcmepcjhobemaa", sum := "9a76617b6bc2e5b02f0b55fa1a7dffd1e65da07ea05c2caa1d06f64ac8492121", func := "loop.example/tellersandliars/laws.FnWordTable", spec := "fnWordTable", unfollowed := true, recurses := true, apart := false, narrowed := true }
def FnWordTableUptoSaid : Prop := fnWordTableUptoRow.holds Try.pinned (OpenSpec.upto fnWordTableSpec)

/-- 'laws.FnStrangeSame', WHERE WHAT IT READS IS OF BULK AT MOST 1048576: true; the input reads as it did. -/
def fnStrangeSameUptoRow : OpenClaim := { program := "ytbcmepcjhobemaa", sum := "9a76617b6bc2e5b02f0b55fa1a7dffd1e65da07ea05c2caa1d06f64ac8492121", func := "loop.example/tellersandliars/laws.FnStrangeSame", spec := "fnStrangeSame", unfollowed := true, recurses := true, apart := false, narrowed := true }
def FnStrangeSameUptoSaid : Prop := fnStrangeSameUptoRow.holds Try.pinned (OpenSpec.upto fnStrangeSameSpec)

/-- 'laws.FnExactWordIn', WHERE WHAT IT READS IS OF BULK AT MOST 1048576: true; the input reads as it did. -/
def fnExactWordInUptoRow : OpenClaim := { program := "ytbcmepcjhobemaa", sum := "9a76617b6bc2e5b02f0b55fa1a7dffd1e65da07ea05c2caa1d06f64ac8492121", func := "loop.example/tellersandliars/laws.FnExactWordIn", spec := "fnExactWordIn", recurses := true, apart := false, narrowed := true }
def FnExactWordInUptoSaid : Prop := fnExactWordInUptoRow.holds Try.pinned (OpenSpec.upto fnExactWordInSpec)

/-- 'laws.FnExactStrangeTerm', WHERE WHAT IT READS IS OF BULK AT MOST 1048576: true; the input reads as it did. -/
def fnExactStrangeTermUptoRow : OpenClaim := { program := "ytbcmepcjhobemaa", sum := "9a76617b6bc2e5b02f0b55fa1a7dffd1e65da07ea05c2caa1d06f64ac8492121", func := "loop.example/tellersandliars/laws.FnExactStrangeTerm", spec := "fnExactStrangeTerm", unfollowed := true, recurses := true, apart := false, narrowed := true }
def FnExactStrangeTermUptoSaid : Prop := fnExactStrangeTermUptoRow.holds Try.pinned (OpenSpec.upto fnExactStrangeTermSpec)

/-- 'laws.FnExactWordTable', WHERE WHAT IT READS IS OF BULK AT MOST 1048576: true; the input reads as it did. -/
def fnExactWordTableUptoRow : OpenClaim := { program := "ytbcmepcjhobemaa", sum := "9a76617b6bc2e5b02f0b55fa1a7dffd1e65da07ea05c2caa1d06f64ac8492121", func := "loop.example/tellersandliars/laws.FnExactWordTable", spec := "fnExactWordTable", recurses := true, apart := false, narrowed := true }
def FnExactWordTableUptoSaid : Prop := fnExactWordTableUptoRow.holds Try.pinned (OpenSpec.upto fnExactWordTableSpec)

end Rows
end Go.Proofs.Ytbcmepcjhobemaa
