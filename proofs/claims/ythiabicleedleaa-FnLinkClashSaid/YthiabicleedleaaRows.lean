/-
  No cell of these rows narrows 'for every input' (looked for: loops, veiled, ifaces, maps, wideKeys, modest, calm, conditions, laid).
  DERIVED. THE GIVEN ROWS OF THIS SEAT. 6 by the template 'for every input the law returns true; each argument reads behind the call as it read before'; 0 by the template 'total and deterministic' (their statements: YthiabicleedleaaTotals.lean).
  GIVEN WITH THE SEED: the statements are not yours to turn. If you find one false, say at which input.
  Laid BY PROGRAM, IN A SANDBOX (cutbox-rows.mjs): the forced cells as the released guide's own fill.sh prints them over the translation 00dd1d6b6a85d601… (all of the seat's roots in one cut). By AI agents, Wed Nov 11 2026. No macro, syntax, notation, axiom, sorry.
-/
import Derived.Test.YthiabicleedleaaChecked
import GoSem.Claim
import GoSem.ClaimJoined
import GoSem.ClaimMapViews
import Derived.JoinedTies
import Derived.KernelRfl
namespace Go.Proofs.Ythiabicleedleaa
/- THE CELL 'sum', in the pinned program and in every row, IS THE sha256 OF THE DUMP (.gsa) THAT YthiabicleedleaaProg.lean LOADS. Nothing in Lean hashes anything: it is a label: what it is worth is what the hold of that sum in a sandbox is worth. -/
noncomputable def Try.pinned : Pinned := { name := "ythiabicleedleaa", sum := "00dd1d6b6a85d6012e1d784200ac5d9e9408aba1f868cd5e828fb09d3776b1cb", checked := Try.checked }
namespace Rows
def none {H : Type} : Left H := { results := [], args := [] }

/-- 'laws.FnMadeStory': WHATEVER THE INPUT: true; the input reads as it did. -/
def fnMadeStorySpec : ChangeSpec := { name := "fnMadeStory", fn := fun _ => fun
  | [d] => { results := [.lit (.bool true)], args := [d] }
  | _ => none }
def fnMadeStoryRow : OpenClaim := { program := "ythiabicleedleaa", sum := "00dd1d6b6a85d6012e1d784200ac5d9e9408aba1f868cd5e828fb09d3776b1cb", func := "loop.example/tellersandliars/laws.FnMadeStory", spec := "fnMadeStory", recurses := true, apart := false }
def FnMadeStorySaid : Prop := fnMadeStoryRow.holds Try.pinned (OpenSpec.ofChange fnMadeStorySpec)

/-- ITS FALSE NEIGHBOUR: 'it returns false'. Refute it at one input. -/
def fnMadeStoryWrong : ChangeSpec := { name := "fnMadeStory", fn := fun _ => fun
  | [d] => { results := [.lit (.bool false)], args := [d] }
  | _ => none }
def FnMadeStoryWrongFalsely : Prop := fnMadeStoryRow.holds Try.pinned (OpenSpec.ofChange fnMadeStoryWrong)

/-- 'laws.FnLinksOk': WHATEVER THE INPUT: true; the input reads as it did. -/
def fnLinksOkSpec : ChangeSpec := { name := "fnLinksOk", fn := fun _ => fun
  | [d] => { results := [.lit (.bool true)], args := [d] }
  | _ => none }
def fnLinksOkRow : OpenClaim := { program := "ythiabicleedleaa", sum := "00dd1d6b6a85d6012e1d784200ac5d9e9408aba1f868cd5e828fb09d3776b1cb", func := "loop.example/tellersandliars/laws.FnLinksOk", spec := "fnLinksOk", apart := false }
def FnLinksOkSaid : Prop := fnLinksOkRow.holds Try.pinned (OpenSpec.ofChange fnLinksOkSpec)

/-- ITS FALSE NEIGHBOUR: 'it returns false'. Refute it at one input. -/
def fnLinksOkWrong : ChangeSpec := { name := "fnLinksOk", fn := fun _ => fun
  | [d] => { results := [.lit (.bool false)], args := [d] }
  | _ => none }
def FnLinksOkWrongFalsely : Prop := fnLinksOkRow.holds Try.pinned (OpenSpec.ofChange fnLinksOkWrong)

/-- 'laws.FnLinkStory': WHATEVER THE INPUT: true; the input reads as it did. -/
def fnLinkStorySpec : ChangeSpec := { name := "fnLinkStory", fn := fun _ => fun
  | [d] => { results := [.lit (.bool true)], args := [d] }
  | _ => none }
def fnLinkStoryRow : OpenClaim := { program := "ythiabicleedleaa", sum := "00dd1d6b6a85d6012e1d784200ac5d9e9408aba1f868cd5e828fb09d3776b1cb", func := "loop.example/tellersandliars/laws.FnLinkStory", spec := "fnLinkStory", recurses := true, apart := false }
def FnLinkStorySaid : Prop := fnLinkStoryRow.holds Try.pinned (OpenSpec.ofChange fnLinkStorySpec)

/-- ITS FALSE NEIGHBOUR: 'it returns false'. Refute it at one input. -/
def fnLinkStoryWrong : ChangeSpec := { name := "fnLinkStory", fn := fun _ => fun
  | [d] => { results := [.lit (.bool false)], args := [d] }
  | _ => none }
def FnLinkStoryWrongFalsely : Prop := fnLinkStoryRow.holds Try.pinned (OpenSpec.ofChange fnLinkStoryWrong)

/-- 'laws.FnLinkGroups': WHATEVER THE INPUT: true; the input reads as it did. -/
def fnLinkGroupsSpec : ChangeSpec := { name := "fnLinkGroups", fn := fun _ => fun
  | [d] => { results := [.lit (.bool true)], args := [d] }
  | _ => none }
def fnLinkGroupsRow : OpenClaim := { program := "ythiabicleedleaa", sum := "00dd1d6b6a85d6012e1d784200ac5d9e9408aba1f868cd5e828fb09d3776b1cb", func := "loop.example/tellersandliars/laws.FnLinkGroups", spec := "fnLinkGroups", apart := false }
def FnLinkGroupsSaid : Prop := fnLinkGroupsRow.holds Try.pinned (OpenSpec.ofChange fnLinkGroupsSpec)

/-- ITS FALSE NEIGHBOUR: 'it returns false'. Refute it at one input. -/
def fnLinkGroupsWrong : ChangeSpec := { name := "fnLinkGroups", fn := fun _ => fun
  | [d] => { results := [.lit (.bool false)], args := [d] }
  | _ => none }
def FnLinkGroupsWrongFalsely : Prop := fnLinkGroupsRow.holds Try.pinned (OpenSpec.ofChange fnLinkGroupsWrong)

/-- 'laws.FnLinkWorlds': WHATEVER THE INPUT: true; the input reads as it did. -/
def fnLinkWorldsSpec : ChangeSpec := { name := "fnLinkWorlds", fn := fun _ => fun
  | [d] => { results := [.lit (.bool true)], args := [d] }
  | _ => none }
def fnLinkWorldsRow : OpenClaim := { program := "ythiabicleedleaa", sum := "00dd1d6b6a85d6012e1d784200ac5d9e9408aba1f868cd5e828fb09d3776b1cb", func := "loop.example/tellersandliars/laws.FnLinkWorlds", spec := "fnLinkWorlds", recurses := true, apart := false }
def FnLinkWorldsSaid : Prop := fnLinkWorldsRow.holds Try.pinned (OpenSpec.ofChange fnLinkWorldsSpec)

/-- ITS FALSE NEIGHBOUR: 'it returns false'. Refute it at one input. -/
def fnLinkWorldsWrong : ChangeSpec := { name := "fnLinkWorlds", fn := fun _ => fun
  | [d] => { results := [.lit (.bool false)], args := [d] }
  | _ => none }
def FnLinkWorldsWrongFalsely : Prop := fnLinkWorldsRow.holds Try.pinned (OpenSpec.ofChange fnLinkWorldsWrong)

/-- 'laws.FnLinkClash': WHATEVER THE INPUT: true; the input reads as it did. -/
def fnLinkClashSpec : ChangeSpec := { name := "fnLinkClash", fn := fun _ => fun
  | [d] => { results := [.lit (.bool true)], args := [d] }
  | _ => none }
def fnLinkClashRow : OpenClaim := { program := "ythiabicleedleaa", sum := "00dd1d6b6a85d6012e1d784200ac5d9e9408aba1f868cd5e828fb09d3776b1cb", func := "loop.example/tellersandliars/laws.FnLinkClash", spec := "fnLinkClash", recurses := true, apart := false }
def FnLinkClashSaid : Prop := fnLinkClashRow.holds Try.pinned (OpenSpec.ofChange fnLinkClashSpec)

/-- ITS FALSE NEIGHBOUR: 'it returns false'. Refute it at one input. -/
def fnLinkClashWrong : ChangeSpec := { name := "fnLinkClash", fn := fun _ => fun
  | [d] => { results := [.lit (.bool false)], args := [d] }
  | _ => none }
def FnLinkClashWrongFalsely : Prop := fnLinkClashRow.holds Try.pinned (OpenSpec.ofChange fnLinkClashWrong)

/- THE SECOND FORM. 'bulk': how many values and letters a reading holds, each counted each time it is reached (what is shared counts as often as it is met; a slice's spare places count too). A statement '..UptoSaid' is the law's where the arguments, and the package variables that the reading takes, are together of bulk at most 1048576: NARROWER than '..Said'. Prove '..Said' where nothing that the law and all that it calls make is longer than what came in: it says more and counts as full. Else prove '..UptoSaid'. A law counts once. -/
mutual
def uptoBulk {H : Type} : DataW H → Nat
  | .lit (.string bytes) => bytes.length + 1
  | .lit _ => 1
  | .nil => 1
  | .ptr d => uptoBulk d + 1
  | .slice elems spare => uptoBulkAll elems + uptoBulkAll spare + 1
  | .agg parts => uptoBulkAll parts + 1
  | .iface _ d => uptoBulk d + 1
  | .map entries => uptoBulkEntries entries + 1
  | .held _ => 1
def uptoBulkAll {H : Type} : List (DataW H) → Nat
  | [] => 0
  | d :: r => uptoBulk d + uptoBulkAll r
def uptoBulkEntries {H : Type} : List (Lit × DataW H) → Nat
  | [] => 0
  | x :: r => uptoBulkEntry x + uptoBulkEntries r
def uptoBulkEntry {H : Type} : Lit × DataW H → Nat
  | (.string bytes, d) => bytes.length + uptoBulk d + 1
  | (_, d) => uptoBulk d + 1
 end
def uptoSmall : (H : Type) → List (DataW H) → Bool := fun _ ds => decide (uptoBulkAll ds ≤ 1048576)
def OpenSpec.upto (s : _root_.Go.ChangeSpec) : _root_.Go.OpenSpec := { _root_.Go.OpenSpec.ofChange s with cond := some uptoSmall }

/-- 'laws.FnMadeStory', WHERE WHAT IT READS IS OF BULK AT MOST 1048576: true; the input reads as it did. -/
def fnMadeStoryUptoRow : OpenClaim := { program := "ythiabicleedleaa", sum := "00dd1d6b6a85d6012e1d784200ac5d9e9408aba1f868cd5e828fb09d3776b1cb", func := "loop.example/tellersandliars/laws.FnMadeStory", spec := "fnMadeStory", recurses := true, apart := false, narrowed := true }
def FnMadeStoryUptoSaid : Prop := fnMadeStoryUptoRow.holds Try.pinned (OpenSpec.upto fnMadeStorySpec)

/-- 'laws.FnLinksOk', WHERE WHAT IT READS IS OF BULK AT MOST 1048576: true; the input reads as it did. -/
def fnLinksOkUptoRow : OpenClaim := { program := "ythiabicleedleaa", sum := "00dd1d6b6a85d6012e1d784200ac5d9e9408aba1f868cd5e828fb09d3776b1cb", func := "loop.example/tellersandliars/laws.FnLinksOk", spec := "fnLinksOk", apart := false, narrowed := true }
def FnLinksOkUptoSaid : Prop := fnLinksOkUptoRow.holds Try.pinned (OpenSpec.upto fnLinksOkSpec)

/-- 'laws.FnLinkStory', WHERE WHAT IT READS IS OF BULK AT MOST 1048576: true; the input reads as it did. -/
def fnLinkStoryUptoRow : OpenClaim := { program := "ythiabicleedleaa", sum := "00dd1d6b6a85d6012e1d784200ac5d9e9408aba1f868cd5e828fb09d3776b1cb", func := "loop.example/tellersandliars/laws.FnLinkStory", spec := "fnLinkStory", recurses := true, apart := false, narrowed := true }
def FnLinkStoryUptoSaid : Prop := fnLinkStoryUptoRow.holds Try.pinned (OpenSpec.upto fnLinkStorySpec)

/-- 'laws.FnLinkGroups', WHERE WHAT IT READS IS OF BULK AT MOST 1048576: true; the input reads as it did. -/
def fnLinkGroupsUptoRow : OpenClaim := { program := "ythiabicleedleaa", sum := "00dd1d6b6a85d6012e1d784200ac5d9e9408aba1f868cd5e828fb09d3776b1cb", func := "loop.example/tellersandliars/laws.FnLinkGroups", spec := "fnLinkGroups", apart := false, narrowed := true }
def FnLinkGroupsUptoSaid : Prop := fnLinkGroupsUptoRow.holds Try.pinned (OpenSpec.upto fnLinkGroupsSpec)

/-- 'laws.FnLinkWorlds', WHERE WHAT IT READS IS OF BULK AT MOST 1048576: true; the input reads as it did. -/
def fnLinkWorldsUptoRow : OpenClaim := { program := "ythiabicleedleaa", sum := "00dd1d6b6a85d6012e1d784200ac5d9e9408aba1f868cd5e828fb09d3776b1cb", func := "loop.example/tellersandliars/laws.FnLinkWorlds", spec := "fnLinkWorlds", recurses := true, apart := false, narrowed := true }
def FnLinkWorldsUptoSaid : Prop := fnLinkWorldsUptoRow.holds Try.pinned (OpenSpec.upto fnLinkWorldsSpec)

/-- 'laws.FnLinkClash', WHERE WHAT IT READS IS OF BULK AT MOST 1048576: true; the input reads as it did. -/
def fnLinkClashUptoRow : OpenClaim := { program := "ythiabicleedleaa", sum := "00dd1d6b6a85d6012e1d784200ac5d9e9408aba1f868cd5e828fb09d3776b1cb", func := "loop.example/tellersandliars/laws.FnLinkClash", spec := "fnLinkClash", recurses := true, apart := false, narrowed := true }
def FnLinkClashUptoSaid : Prop := fnLinkClashUptoRow.holds Try.pinned (OpenSpec.upto fnLinkClashSpec)

end Rows
end Go.Proofs.Ythiabicleedleaa
