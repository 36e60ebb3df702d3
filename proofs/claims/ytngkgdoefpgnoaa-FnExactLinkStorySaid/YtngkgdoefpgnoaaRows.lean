/-
  No cell of these rows narrows 'for every input' (looked for: loops, veiled, ifaces, maps, wideKeys, modest, calm, conditions, laid).
  DERIVED. THE GIVEN ROWS OF THIS SEAT. 5 by the template 'for every input the law returns true; each argument reads behind the call as it read before'; 0 by the template 'total and deterministic' (their statements: YtngkgdoefpgnoaaTotals.lean).
  GIVEN WITH THE SEED: the statements are not yours to turn. If you find one false, say at which input.
  Laid BY PROGRAM, IN A SANDBOX (cutbox-rows.mjs): the forced cells as the released guide's own fill.sh prints them over the translation 1bf4a70c9b1faffe… (all of the seat's roots in one cut). By AI agents, Wed Nov 11 2026. No macro, syntax, notation, axiom, sorry.
-/
import Derived.Test.YtngkgdoefpgnoaaChecked
import GoSem.Claim
import GoSem.ClaimJoined
import GoSem.ClaimMapViews
import Derived.JoinedTies
import Derived.KernelRfl
namespace Go.Proofs.Ytngkgdoefpgnoaa
/- THE CELL 'sum', in the pinned program and in every row, IS THE sha256 OF THE DUMP (.gsa) THAT YtngkgdoefpgnoaaProg.lean LOADS. Nothing in Lean hashes anything: it is a label: what it is worth is what the hold of that sum in a sandbox is worth. -/
noncomputable def Try.pinned : Pinned := { name := "ytngkgdoefpgnoaa", sum := "1bf4a70c9b1faffecc580b9b263d685d2d6edca642bb2d9e84ea361fa86c83fe", checked := Try.checked }
namespace Rows
def none {H : Type} : Left H := { results := [], args := [] }

/-- 'laws.FnExactMadeStory': WHATEVER THE INPUT: true; the input reads as it did. -/
def fnExactMadeStorySpec : ChangeSpec := { name := "fnExactMadeStory", fn := fun _ => fun
  | [d1, d2, d3] => { results := [.lit (.bool true)], args := [d1, d2, d3] }
  | _ => none }
def fnExactMadeStoryRow : OpenClaim := { program := "ytngkgdoefpgnoaa", sum := "1bf4a70c9b1faffecc580b9b263d685d2d6edca642bb2d9e84ea361fa86c83fe", func := "loop.example/tellersandliars/laws.FnExactMadeStory", spec := "fnExactMadeStory", recurses := true, apart := false }
def FnExactMadeStorySaid : Prop := fnExactMadeStoryRow.holds Try.pinned (OpenSpec.ofChange fnExactMadeStorySpec)

/-- ITS FALSE NEIGHBOUR: 'it returns false'. Refute it at one input. -/
def fnExactMadeStoryWrong : ChangeSpec := { name := "fnExactMadeStory", fn := fun _ => fun
  | [d1, d2, d3] => { results := [.lit (.bool false)], args := [d1, d2, d3] }
  | _ => none }
def FnExactMadeStoryWrongFalsely : Prop := fnExactMadeStoryRow.holds Try.pinned (OpenSpec.ofChange fnExactMadeStoryWrong)

/-- 'laws.FnExactLinksOk': WHATEVER THE INPUT: true; the input reads as it did. -/
def fnExactLinksOkSpec : ChangeSpec := { name := "fnExactLinksOk", fn := fun _ => fun
  | [d1, d2] => { results := [.lit (.bool true)], args := [d1, d2] }
  | _ => none }
def fnExactLinksOkRow : OpenClaim := { program := "ytngkgdoefpgnoaa", sum := "1bf4a70c9b1faffecc580b9b263d685d2d6edca642bb2d9e84ea361fa86c83fe", func := "loop.example/tellersandliars/laws.FnExactLinksOk", spec := "fnExactLinksOk", apart := false }
def FnExactLinksOkSaid : Prop := fnExactLinksOkRow.holds Try.pinned (OpenSpec.ofChange fnExactLinksOkSpec)

/-- ITS FALSE NEIGHBOUR: 'it returns false'. Refute it at one input. -/
def fnExactLinksOkWrong : ChangeSpec := { name := "fnExactLinksOk", fn := fun _ => fun
  | [d1, d2] => { results := [.lit (.bool false)], args := [d1, d2] }
  | _ => none }
def FnExactLinksOkWrongFalsely : Prop := fnExactLinksOkRow.holds Try.pinned (OpenSpec.ofChange fnExactLinksOkWrong)

/-- 'laws.FnExactLinkStory': WHATEVER THE INPUT: true; the input reads as it did. -/
def fnExactLinkStorySpec : ChangeSpec := { name := "fnExactLinkStory", fn := fun _ => fun
  | [d1, d2] => { results := [.lit (.bool true)], args := [d1, d2] }
  | _ => none }
def fnExactLinkStoryRow : OpenClaim := { program := "ytngkgdoefpgnoaa", sum := "1bf4a70c9b1faffecc580b9b263d685d2d6edca642bb2d9e84ea361fa86c83fe", func := "loop.example/tellersandliars/laws.FnExactLinkStory", spec := "fnExactLinkStory", apart := false }
def FnExactLinkStorySaid : Prop := fnExactLinkStoryRow.holds Try.pinned (OpenSpec.ofChange fnExactLinkStorySpec)

/-- ITS FALSE NEIGHBOUR: 'it returns false'. Refute it at one input. -/
def fnExactLinkStoryWrong : ChangeSpec := { name := "fnExactLinkStory", fn := fun _ => fun
  | [d1, d2] => { results := [.lit (.bool false)], args := [d1, d2] }
  | _ => none }
def FnExactLinkStoryWrongFalsely : Prop := fnExactLinkStoryRow.holds Try.pinned (OpenSpec.ofChange fnExactLinkStoryWrong)

/-- 'laws.FnExactLinkGroups': WHATEVER THE INPUT: true; the input reads as it did. -/
def fnExactLinkGroupsSpec : ChangeSpec := { name := "fnExactLinkGroups", fn := fun _ => fun
  | [d1, d2] => { results := [.lit (.bool true)], args := [d1, d2] }
  | _ => none }
def fnExactLinkGroupsRow : OpenClaim := { program := "ytngkgdoefpgnoaa", sum := "1bf4a70c9b1faffecc580b9b263d685d2d6edca642bb2d9e84ea361fa86c83fe", func := "loop.example/tellersandliars/laws.FnExactLinkGroups", spec := "fnExactLinkGroups", apart := false }
def FnExactLinkGroupsSaid : Prop := fnExactLinkGroupsRow.holds Try.pinned (OpenSpec.ofChange fnExactLinkGroupsSpec)

/-- ITS FALSE NEIGHBOUR: 'it returns false'. Refute it at one input. -/
def fnExactLinkGroupsWrong : ChangeSpec := { name := "fnExactLinkGroups", fn := fun _ => fun
  | [d1, d2] => { results := [.lit (.bool false)], args := [d1, d2] }
  | _ => none }
def FnExactLinkGroupsWrongFalsely : Prop := fnExactLinkGroupsRow.holds Try.pinned (OpenSpec.ofChange fnExactLinkGroupsWrong)

/-- 'laws.FnExactLinkWorlds': WHATEVER THE INPUT: true; the input reads as it did. -/
def fnExactLinkWorldsSpec : ChangeSpec := { name := "fnExactLinkWorlds", fn := fun _ => fun
  | [d1, d2] => { results := [.lit (.bool true)], args := [d1, d2] }
  | _ => none }
def fnExactLinkWorldsRow : OpenClaim := { program := "ytngkgdoefpgnoaa", sum := "1bf4a70c9b1faffecc580b9b263d685d2d6edca642bb2d9e84ea361fa86c83fe", func := "loop.example/tellersandliars/laws.FnExactLinkWorlds", spec := "fnExactLinkWorlds", recurses := true, apart := false }
def FnExactLinkWorldsSaid : Prop := fnExactLinkWorldsRow.holds Try.pinned (OpenSpec.ofChange fnExactLinkWorldsSpec)

/-- ITS FALSE NEIGHBOUR: 'it returns false'. Refute it at one input. -/
def fnExactLinkWorldsWrong : ChangeSpec := { name := "fnExactLinkWorlds", fn := fun _ => fun
  | [d1, d2] => { results := [.lit (.bool false)], args := [d1, d2] }
  | _ => none }
def FnExactLinkWorldsWrongFalsely : Prop := fnExactLinkWorldsRow.holds Try.pinned (OpenSpec.ofChange fnExactLinkWorldsWrong)

/- THE SECOND FORM. 'bulk': how many values and letters a reading holds, each counted each time it is reached (what is shared counts as often as it is met; a slice's spare places count too). A statement '..UptoSaid' is the law's where the arguments, and the package variables that the reading takes, are together of bulk at most 1048576: NARROWER than '..Said'. Prove '..Said' where nothing that the law and all that it calls make is longer than what came in: it says more and counts as full. Else prove '..UptoSaid'. A law counts once. -/
mutual
def uptoBulk {H : Type} : DataW H → Nat
  | .lit (.string bytes) => bytes.length + 1
  | .lit _ => 1
  | .nil => 1
  | .ptr d => uptoBulk d + 1
  | .slice elems spare => uptoBulkAll elems + uptoBulkAll spare + 1
  | .agg parts => uptoBulkAll parts + 1
  | .iface _ d => uptoBulk d + 1
  | .map entries => uptoBulkEntries entries + 1
  | .held _ => 1
def uptoBulkAll {H : Type} : List (DataW H) → Nat
  | [] => 0
  | d :: r => uptoBulk d + uptoBulkAll r
def uptoBulkEntries {H : Type} : List (Lit × DataW H) → Nat
  | [] => 0
  | x :: r => uptoBulkEntry x + uptoBulkEntries r
def uptoBulkEntry {H : Type} : Lit × DataW H → Nat
  | (.string bytes, d) => bytes.length + uptoBulk d + 1
  | (_, d) => uptoBulk d + 1
 end
def uptoSmall : (H : Type) → List (DataW H) → Bool := fun _ ds => decide (uptoBulkAll ds ≤ 1048576)
def OpenSpec.upto (s : _root_.Go.ChangeSpec) : _root_.Go.OpenSpec := { _root_.Go.OpenSpec.ofChange s with cond := some uptoSmall }

/-- 'laws.FnExactMadeStory', WHERE WHAT IT READS IS OF BULK AT MOST 1048576: true; the input reads as it did. -/
def fnExactMadeStoryUptoRow : OpenClaim := { program := "ytngkgdoefpgnoaa", sum := "1bf4a70c9b1faffecc580b9b263d685d2d6edca642bb2d9e84ea361fa86c83fe", func := "loop.example/tellersandliars/laws.FnExactMadeStory", spec := "fnExactMadeStory", recurses := true, apart := false, narrowed := true }
def FnExactMadeStoryUptoSaid : Prop := fnExactMadeStoryUptoRow.holds Try.pinned (OpenSpec.upto fnExactMadeStorySpec)

/-- 'laws.FnExactLinksOk', WHERE WHAT IT READS IS OF BULK AT MOST 1048576: true; the input reads as it did. -/
def fnExactLinksOkUptoRow : OpenClaim := { program := "ytngkgdoefpgnoaa", sum := "1bf4a70c9b1faffecc580b9b263d685d2d6edca642bb2d9e84ea361fa86c83fe", func := "loop.example/tellersandliars/laws.FnExactLinksOk", spec := "fnExactLinksOk", apart := false, narrowed := true }
def FnExactLinksOkUptoSaid : Prop := fnExactLinksOkUptoRow.holds Try.pinned (OpenSpec.upto fnExactLinksOkSpec)

/-- 'laws.FnExactLinkStory', WHERE WHAT IT READS IS OF BULK AT MOST 1048576: true; the input reads as it did. -/
def fnExactLinkStoryUptoRow : OpenClaim := { program := "ytngkgdoefpgnoaa", sum := "1bf4a70c9b1faffecc580b9b263d685d2d6edca642bb2d9e84ea361fa86c83fe", func := "loop.example/tellersandliars/laws.FnExactLinkStory", spec := "fnExactLinkStory", apart := false, narrowed := true }
def FnExactLinkStoryUptoSaid : Prop := fnExactLinkStoryUptoRow.holds Try.pinned (OpenSpec.upto fnExactLinkStorySpec)

/-- 'laws.FnExactLinkGroups', WHERE WHAT IT READS IS OF BULK AT MOST 1048576: true; the input reads as it did. -/
def fnExactLinkGroupsUptoRow : OpenClaim := { program := "ytngkgdoefpgnoaa", sum := "1bf4a70c9b1faffecc580b9b263d685d2d6edca642bb2d9e84ea361fa86c83fe", func := "loop.example/tellersandliars/laws.FnExactLinkGroups", spec := "fnExactLinkGroups", apart := false, narrowed := true }
def FnExactLinkGroupsUptoSaid : Prop := fnExactLinkGroupsUptoRow.holds Try.pinned (OpenSpec.upto fnExactLinkGroupsSpec)

/-- 'laws.FnExactLinkWorlds', WHERE WHAT IT READS IS OF BULK AT MOST 1048576: true; the input reads as it did. -/
def fnExactLinkWorldsUptoRow : OpenClaim := { program := "ytngkgdoefpgnoaa", sum := "1bf4a70c9b1faffecc580b9b263d685d2d6edca642bb2d9e84ea361fa86c83fe", func := "loop.example/tellersandliars/laws.FnExactLinkWorlds", spec := "fnExactLinkWorlds", recurses := true, apart := false, narrowed := true }
def FnExactLinkWorldsUptoSaid : Prop := fnExactLinkWorldsUptoRow.holds Try.pinned (OpenSpec.upto fnExactLinkWorldsSpec)

end Rows
end Go.Proofs.Ytngkgdoefpgnoaa
