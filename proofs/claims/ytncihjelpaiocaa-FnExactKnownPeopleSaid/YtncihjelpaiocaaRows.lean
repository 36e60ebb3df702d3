/-
  No cell of these rows narrows 'for every input' (looked for: loops, veiled, ifaces, maps, wideKeys, modest, calm, conditions, laid).
  DERIVED. THE GIVEN ROWS OF THIS SEAT. 11 by the template 'for every input the law returns true; each argument reads behind the call as it read before'; 0 by the template 'total and deterministic' (their statements: YtncihjelpaiocaaTotals.lean).
  GIVEN WITH THE SEED: the statements are not yours to turn. If you find one false, say at which input.
  Laid BY PROGRAM, IN A SANDBOX (cutbox-rows.mjs): the forced cells as the released guide's own fill.sh prints them over the translation 21490327661d9ed2… (all of the seat's roots in one cut). By AI agents, Wed Nov 11 2026. No macro, syntax, notation, axiom, sorry.
-/
import Derived.Test.YtncihjelpaiocaaChecked
import GoSem.Claim
import GoSem.ClaimJoined
import GoSem.ClaimMapViews
import Derived.JoinedTies
import Derived.KernelRfl
namespace Go.Proofs.Ytncihjelpaiocaa
/- THE CELL 'sum', in the pinned program and in every row, IS THE sha256 OF THE DUMP (.gsa) THAT YtncihjelpaiocaaProg.lean LOADS. Nothing in Lean hashes anything: it is a label: what it is worth is what the hold of that sum in a sandbox is worth. -/
noncomputable def Try.pinned : Pinned := { name := "ytncihjelpaiocaa", sum := "21490327661d9ed298edbeed8508a0ab72579cdfb39c26f49b3d71ba597a1701", checked := Try.checked }
namespace Rows
def none {H : Type} : Left H := { results := [], args := [] }

/-- 'laws.FnClashOk': WHATEVER THE INPUT: true; the input reads as it did. -/
def fnClashOkSpec : ChangeSpec := { name := "fnClashOk", fn := fun _ => fun
  | [d] => { results := [.lit (.bool true)], args := [d] }
  | _ => none }
def fnClashOkRow : OpenClaim := { program := "ytncihjelpaiocaa", sum := "21490327661d9ed298edbeed8508a0ab72579cdfb39c26f49b3d71ba597a1701", func := "loop.example/tellersandliars/laws.FnClashOk", spec := "fnClashOk", recurses := true, apart := false }
def FnClashOkSaid : Prop := fnClashOkRow.holds Try.pinned (OpenSpec.ofChange fnClashOkSpec)

/-- ITS FALSE NEIGHBOUR: 'it returns false'. Refute it at one input. -/
def fnClashOkWrong : ChangeSpec := { name := "fnClashOk", fn := fun _ => fun
  | [d] => { results := [.lit (.bool false)], args := [d] }
  | _ => none }
def FnClashOkWrongFalsely : Prop := fnClashOkRow.holds Try.pinned (OpenSpec.ofChange fnClashOkWrong)

/-- 'laws.FnOnlyWorld': WHATEVER THE INPUT: true; the input reads as it did. -/
def fnOnlyWorldSpec : ChangeSpec := { name := "fnOnlyWorld", fn := fun _ => fun
  | [d] => { results := [.lit (.bool true)], args := [d] }
  | _ => none }
def fnOnlyWorldRow : OpenClaim := { program := "ytncihjelpaiocaa", sum := "21490327661d9ed298edbeed8508a0ab72579cdfb39c26f49b3d71ba597a1701", func := "loop.example/tellersandliars/laws.FnOnlyWorld", spec := "fnOnlyWorld", recurses := true, apart := false }
def FnOnlyWorldSaid : Prop := fnOnlyWorldRow.holds Try.pinned (OpenSpec.ofChange fnOnlyWorldSpec)

/-- ITS FALSE NEIGHBOUR: 'it returns false'. Refute it at one input. -/
def fnOnlyWorldWrong : ChangeSpec := { name := "fnOnlyWorld", fn := fun _ => fun
  | [d] => { results := [.lit (.bool false)], args := [d] }
  | _ => none }
def FnOnlyWorldWrongFalsely : Prop := fnOnlyWorldRow.holds Try.pinned (OpenSpec.ofChange fnOnlyWorldWrong)

/-- 'laws.FnKnownPeople': WHATEVER THE INPUT: true; the input reads as it did. -/
def fnKnownPeopleSpec : ChangeSpec := { name := "fnKnownPeople", fn := fun _ => fun
  | [d] => { results := [.lit (.bool true)], args := [d] }
  | _ => none }
def fnKnownPeopleRow : OpenClaim := { program := "ytncihjelpaiocaa", sum := "21490327661d9ed298edbeed8508a0ab72579cdfb39c26f49b3d71ba597a1701", func := "loop.example/tellersandliars/laws.FnKnownPeople", spec := "fnKnownPeople", recurses := true, apart := false }
def FnKnownPeopleSaid : Prop := fnKnownPeopleRow.holds Try.pinned (OpenSpec.ofChange fnKnownPeopleSpec)

/-- ITS FALSE NEIGHBOUR: 'it returns false'. Refute it at one input. -/
def fnKnownPeopleWrong : ChangeSpec := { name := "fnKnownPeople", fn := fun _ => fun
  | [d] => { results := [.lit (.bool false)], args := [d] }
  | _ => none }
def FnKnownPeopleWrongFalsely : Prop := fnKnownPeopleRow.holds Try.pinned (OpenSpec.ofChange fnKnownPeopleWrong)

/-- 'laws.FnNeedlessClaims': WHATEVER THE INPUT: true; the input reads as it did. -/
def fnNeedlessClaimsSpec : ChangeSpec := { name := "fnNeedlessClaims", fn := fun _ => fun
  | [d] => { results := [.lit (.bool true)], args := [d] }
  | _ => none }
def fnNeedlessClaimsRow : OpenClaim := { program := "ytncihjelpaiocaa", sum := "21490327661d9ed298edbeed8508a0ab72579cdfb39c26f49b3d71ba597a1701", func := "loop.example/tellersandliars/laws.FnNeedlessClaims", spec := "fnNeedlessClaims", recurses := true, apart := false }
def FnNeedlessClaimsSaid : Prop := fnNeedlessClaimsRow.holds Try.pinned (OpenSpec.ofChange fnNeedlessClaimsSpec)

/-- ITS FALSE NEIGHBOUR: 'it returns false'. Refute it at one input. -/
def fnNeedlessClaimsWrong : ChangeSpec := { name := "fnNeedlessClaims", fn := fun _ => fun
  | [d] => { results := [.lit (.bool false)], args := [d] }
  | _ => none }
def FnNeedlessClaimsWrongFalsely : Prop := fnNeedlessClaimsRow.holds Try.pinned (OpenSpec.ofChange fnNeedlessClaimsWrong)

/-- 'laws.FnLeastStory': WHATEVER THE INPUT: true; the input reads as it did. -/
def fnLeastStorySpec : ChangeSpec := { name := "fnLeastStory", fn := fun _ => fun
  | [d] => { results := [.lit (.bool true)], args := [d] }
  | _ => none }
def fnLeastStoryRow : OpenClaim := { program := "ytncihjelpaiocaa", sum := "21490327661d9ed298edbeed8508a0ab72579cdfb39c26f49b3d71ba597a1701", func := "loop.example/tellersandliars/laws.FnLeastStory", spec := "fnLeastStory", recurses := true, apart := false }
def FnLeastStorySaid : Prop := fnLeastStoryRow.holds Try.pinned (OpenSpec.ofChange fnLeastStorySpec)

/-- ITS FALSE NEIGHBOUR: 'it returns false'. Refute it at one input. -/
def fnLeastStoryWrong : ChangeSpec := { name := "fnLeastStory", fn := fun _ => fun
  | [d] => { results := [.lit (.bool false)], args := [d] }
  | _ => none }
def FnLeastStoryWrongFalsely : Prop := fnLeastStoryRow.holds Try.pinned (OpenSpec.ofChange fnLeastStoryWrong)

/-- 'laws.FnKnownFollows': WHATEVER THE INPUT: true; the input reads as it did. -/
def fnKnownFollowsSpec : ChangeSpec := { name := "fnKnownFollows", fn := fun _ => fun
  | [d] => { results := [.lit (.bool true)], args := [d] }
  | _ => none }
def fnKnownFollowsRow : OpenClaim := { program := "ytncihjelpaiocaa", sum := "21490327661d9ed298edbeed8508a0ab72579cdfb39c26f49b3d71ba597a1701", func := "loop.example/tellersandliars/laws.FnKnownFollows", spec := "fnKnownFollows", recurses := true, apart := false }
def FnKnownFollowsSaid : Prop := fnKnownFollowsRow.holds Try.pinned (OpenSpec.ofChange fnKnownFollowsSpec)

/-- ITS FALSE NEIGHBOUR: 'it returns false'. Refute it at one input. -/
def fnKnownFollowsWrong : ChangeSpec := { name := "fnKnownFollows", fn := fun _ => fun
  | [d] => { results := [.lit (.bool false)], args := [d] }
  | _ => none }
def FnKnownFollowsWrongFalsely : Prop := fnKnownFollowsRow.holds Try.pinned (OpenSpec.ofChange fnKnownFollowsWrong)

/-- 'laws.FnExactClashOk': WHATEVER THE INPUT: true; the input reads as it did. -/
def fnExactClashOkSpec : ChangeSpec := { name := "fnExactClashOk", fn := fun _ => fun
  | [d1, d2] => { results := [.lit (.bool true)], args := [d1, d2] }
  | _ => none }
def fnExactClashOkRow : OpenClaim := { program := "ytncihjelpaiocaa", sum := "21490327661d9ed298edbeed8508a0ab72579cdfb39c26f49b3d71ba597a1701", func := "loop.example/tellersandliars/laws.FnExactClashOk", spec := "fnExactClashOk", recurses := true, apart := false }
def FnExactClashOkSaid : Prop := fnExactClashOkRow.holds Try.pinned (OpenSpec.ofChange fnExactClashOkSpec)

/-- ITS FALSE NEIGHBOUR: 'it returns false'. Refute it at one input. -/
def fnExactClashOkWrong : ChangeSpec := { name := "fnExactClashOk", fn := fun _ => fun
  | [d1, d2] => { results := [.lit (.bool false)], args := [d1, d2] }
  | _ => none }
def FnExactClashOkWrongFalsely : Prop := fnExactClashOkRow.holds Try.pinned (OpenSpec.ofChange fnExactClashOkWrong)

/-- 'laws.FnExactOnlyWorld': WHATEVER THE INPUT: true; the input reads as it did. -/
def fnExactOnlyWorldSpec : ChangeSpec := { name := "fnExactOnlyWorld", fn := fun _ => fun
  | [d1, d2] => { results := [.lit (.bool true)], args := [d1, d2] }
  | _ => none }
def fnExactOnlyWorldRow : OpenClaim := { program := "ytncihjelpaiocaa", sum := "21490327661d9ed298edbeed8508a0ab72579cdfb39c26f49b3d71ba597a1701", func := "loop.example/tellersandliars/laws.FnExactOnlyWorld", spec := "fnExactOnlyWorld", recurses := true, apart := false }
def FnExactOnlyWorldSaid : Prop := fnExactOnlyWorldRow.holds Try.pinned (OpenSpec.ofChange fnExactOnlyWorldSpec)

/-- ITS FALSE NEIGHBOUR: 'it returns false'. Refute it at one input. -/
def fnExactOnlyWorldWrong : ChangeSpec := { name := "fnExactOnlyWorld", fn := fun _ => fun
  | [d1, d2] => { results := [.lit (.bool false)], args := [d1, d2] }
  | _ => none }
def FnExactOnlyWorldWrongFalsely : Prop := fnExactOnlyWorldRow.holds Try.pinned (OpenSpec.ofChange fnExactOnlyWorldWrong)

/-- 'laws.FnExactKnownPeople': WHATEVER THE INPUT: true; the input reads as it did. -/
def fnExactKnownPeopleSpec : ChangeSpec := { name := "fnExactKnownPeople", fn := fun _ => fun
  | [d1, d2] => { results := [.lit (.bool true)], args := [d1, d2] }
  | _ => none }
def fnExactKnownPeopleRow : OpenClaim := { program := "ytncihjelpaiocaa", sum := "21490327661d9ed298edbeed8508a0ab72579cdfb39c26f49b3d71ba597a1701", func := "loop.example/tellersandliars/laws.FnExactKnownPeople", spec := "fnExactKnownPeople", recurses := true, apart := false }
def FnExactKnownPeopleSaid : Prop := fnExactKnownPeopleRow.holds Try.pinned (OpenSpec.ofChange fnExactKnownPeopleSpec)

/-- ITS FALSE NEIGHBOUR: 'it returns false'. Refute it at one input. -/
def fnExactKnownPeopleWrong : ChangeSpec := { name := "fnExactKnownPeople", fn := fun _ => fun
  | [d1, d2] => { results := [.lit (.bool false)], args := [d1, d2] }
  | _ => none }
def FnExactKnownPeopleWrongFalsely : Prop := fnExactKnownPeopleRow.holds Try.pinned (OpenSpec.ofChange fnExactKnownPeopleWrong)

/-- 'laws.FnExactNeedlessClaims': WHATEVER THE INPUT: true; the input reads as it did. -/
def fnExactNeedlessClaimsSpec : ChangeSpec := { name := "fnExactNeedlessClaims", fn := fun _ => fun
  | [d1, d2] => { results := [.lit (.bool true)], args := [d1, d2] }
  | _ => none }
def fnExactNeedlessClaimsRow : OpenClaim := { program := "ytncihjelpaiocaa", sum := "21490327661d9ed298edbeed8508a0ab72579cdfb39c26f49b3d71ba597a1701", func := "loop.example/tellersandliars/laws.FnExactNeedlessClaims", spec := "fnExactNeedlessClaims", recurses := true, apart := false }
def FnExactNeedlessClaimsSaid : Prop := fnExactNeedlessClaimsRow.holds Try.pinned (OpenSpec.ofChange fnExactNeedlessClaimsSpec)

/-- ITS FALSE NEIGHBOUR: 'it returns false'. Refute it at one input. -/
def fnExactNeedlessClaimsWrong : ChangeSpec := { name := "fnExactNeedlessClaims", fn := fun _ => fun
  | [d1, d2] => { results := [.lit (.bool false)], args := [d1, d2] }
  | _ => none }
def FnExactNeedlessClaimsWrongFalsely : Prop := fnExactNeedlessClaimsRow.holds Try.pinned (OpenSpec.ofChange fnExactNeedlessClaimsWrong)

/-- 'laws.FnExactLeastStory': WHATEVER THE INPUT: true; the input reads as it did. -/
def fnExactLeastStorySpec : ChangeSpec := { name := "fnExactLeastStory", fn := fun _ => fun
  | [d1, d2] => { results := [.lit (.bool true)], args := [d1, d2] }
  | _ => none }
def fnExactLeastStoryRow : OpenClaim := { program := "ytncihjelpaiocaa", sum := "21490327661d9ed298edbeed8508a0ab72579cdfb39c26f49b3d71ba597a1701", func := "loop.example/tellersandliars/laws.FnExactLeastStory", spec := "fnExactLeastStory", recurses := true, apart := false }
def FnExactLeastStorySaid : Prop := fnExactLeastStoryRow.holds Try.pinned (OpenSpec.ofChange fnExactLeastStorySpec)

/-- ITS FALSE NEIGHBOUR: 'it returns false'. Refute it at one input. -/
def fnExactLeastStoryWrong : ChangeSpec := { name := "fnExactLeastStory", fn := fun _ => fun
  | [d1, d2] => { results := [.lit (.bool false)], args := [d1, d2] }
  | _ => none }
def FnExactLeastStoryWrongFalsely : Prop := fnExactLeastStoryRow.holds Try.pinned (OpenSpec.ofChange fnExactLeastStoryWrong)

/- THE SECOND FORM. 'bulk': how many values and letters a reading holds, each counted each time it is reached (what is shared counts as often as it is met; a slice's spare places count too). A statement '..UptoSaid' is the law's where the arguments, and the package variables that the reading takes, are together of bulk at most 1048576: NARROWER than '..Said'. Prove '..Said' where nothing that the law and all that it calls make is longer than what came in: it says more and counts as full. Else prove '..UptoSaid'. A law counts once. -/
mutual
def uptoBulk {H : Type} : DataW H → Nat
  | .lit (.string bytes) => bytes.length + 1
  | .lit _ => 1
  | .nil => 1
  | .ptr d => uptoBulk d + 1
  | .slice elems spare => uptoBulkAll elems + uptoBulkAll spare + 1
  | .agg parts => uptoBulkAll parts + 1
  | .iface _ d => uptoBulk d + 1
  | .map entries => uptoBulkEntries entries + 1
  | .held _ => 1
def uptoBulkAll {H : Type} : List (DataW H) → Nat
  | [] => 0
  | d :: r => uptoBulk d + uptoBulkAll r
def uptoBulkEntries {H : Type} : List (Lit × DataW H) → Nat
  | [] => 0
  | x :: r => uptoBulkEntry x + uptoBulkEntries r
def uptoBulkEntry {H : Type} : Lit × DataW H → Nat
  | (.string bytes, d) => bytes.length + uptoBulk d + 1
  | (_, d) => uptoBulk d + 1
 end
def uptoSmall : (H : Type) → List (DataW H) → Bool := fun _ ds => decide (uptoBulkAll ds ≤ 1048576)
def OpenSpec.upto (s : _root_.Go.ChangeSpec) : _root_.Go.OpenSpec := { _root_.Go.OpenSpec.ofChange s with cond := some uptoSmall }

/-- 'laws.FnClashOk', WHERE WHAT IT READS IS OF BULK AT MOST 1048576: true; the input reads as it did. -/
def fnClashOkUptoRow : OpenClaim := { program := "ytncihjelpaiocaa", sum := "21490327661d9ed298edbeed8508a0ab72579cdfb39c26f49b3d71ba597a1701", func := "loop.example/tellersandliars/laws.FnClashOk", spec := "fnClashOk", recurses := true, apart := false, narrowed := true }
def FnClashOkUptoSaid : Prop := fnClashOkUptoRow.holds Try.pinned (OpenSpec.upto fnClashOkSpec)

/-- 'laws.FnOnlyWorld', WHERE WHAT IT READS IS OF BULK AT MOST 1048576: true; the input reads as it did. -/
def fnOnlyWorldUptoRow : OpenClaim := { program := "ytncihjelpaiocaa", sum := "21490327661d9ed298edbeed8508a0ab72579cdfb39c26f49b3d71ba597a1701", func := "loop.example/tellersandliars/laws.FnOnlyWorld", spec := "fnOnlyWorld", recurses := true, apart := false, narrowed := true }
def FnOnlyWorldUptoSaid : Prop := fnOnlyWorldUptoRow.holds Try.pinned (OpenSpec.upto fnOnlyWorldSpec)

/-- 'laws.FnKnownPeople', WHERE WHAT IT READS IS OF BULK AT MOST 1048576: true; the input reads as it did. -/
def fnKnownPeopleUptoRow : OpenClaim := { program := "ytncihjelpaiocaa", sum := "21490327661d9ed298edbeed8508a0ab72579cdfb39c26f49b3d71ba597a1701", func := "loop.example/tellersandliars/laws.FnKnownPeople", spec := "fnKnownPeople", recurses := true, apart := false, narrowed := true }
def FnKnownPeopleUptoSaid : Prop := fnKnownPeopleUptoRow.holds Try.pinned (OpenSpec.upto fnKnownPeopleSpec)

/-- 'laws.FnNeedlessClaims', WHERE WHAT IT READS IS OF BULK AT MOST 1048576: true; the input reads as it did. -/
def fnNeedlessClaimsUptoRow : OpenClaim := { program := "ytncihjelpaiocaa", sum := "21490327661d9ed298edbeed8508a0ab72579cdfb39c26f49b3d71ba597a1701", func := "loop.example/tellersandliars/laws.FnNeedlessClaims", spec := "fnNeedlessClaims", recurses := true, apart := false, narrowed := true }
def FnNeedlessClaimsUptoSaid : Prop := fnNeedlessClaimsUptoRow.holds Try.pinned (OpenSpec.upto fnNeedlessClaimsSpec)

/-- 'laws.FnLeastStory', WHERE WHAT IT READS IS OF BULK AT MOST 1048576: true; the input reads as it did. -/
def fnLeastStoryUptoRow : OpenClaim := { program := "ytncihjelpaiocaa", sum := "21490327661d9ed298edbeed8508a0ab72579cdfb39c26f49b3d71ba597a1701", func := "loop.example/tellersandliars/laws.FnLeastStory", spec := "fnLeastStory", recurses := true, apart := false, narrowed := true }
def FnLeastStoryUptoSaid : Prop := fnLeastStoryUptoRow.holds Try.pinned (OpenSpec.upto fnLeastStorySpec)

/-- 'laws.FnKnownFollows', WHERE WHAT IT READS IS OF BULK AT MOST 1048576: true; the input reads as it did. -/
def fnKnownFollowsUptoRow : OpenClaim := { program := "ytncihjelpaiocaa", sum := "21490327661d9ed298edbeed8508a0ab72579cdfb39c26f49b3d71ba597a1701", func := "loop.example/tellersandliars/laws.FnKnownFollows", spec := "fnKnownFollows", recurses := true, apart := false, narrowed := true }
def FnKnownFollowsUptoSaid : Prop := fnKnownFollowsUptoRow.holds Try.pinned (OpenSpec.upto fnKnownFollowsSpec)

/-- 'laws.FnExactClashOk', WHERE WHAT IT READS IS OF BULK AT MOST 1048576: true; the input reads as it did. -/
def fnExactClashOkUptoRow : OpenClaim := { program := "ytncihjelpaiocaa", sum := "21490327661d9ed298edbeed8508a0ab72579cdfb39c26f49b3d71ba597a1701", func := "loop.example/tellersandliars/laws.FnExactClashOk", spec := "fnExactClashOk", recurses := true, apart := false, narrowed := true }
def FnExactClashOkUptoSaid : Prop := fnExactClashOkUptoRow.holds Try.pinned (OpenSpec.upto fnExactClashOkSpec)

/-- 'laws.FnExactOnlyWorld', WHERE WHAT IT READS IS OF BULK AT MOST 1048576: true; the input reads as it did. -/
def fnExactOnlyWorldUptoRow : OpenClaim := { program := "ytncihjelpaiocaa", sum := "21490327661d9ed298edbeed8508a0ab72579cdfb39c26f49b3d71ba597a1701", func := "loop.example/tellersandliars/laws.FnExactOnlyWorld", spec := "fnExactOnlyWorld", recurses := true, apart := false, narrowed := true }
def FnExactOnlyWorldUptoSaid : Prop := fnExactOnlyWorldUptoRow.holds Try.pinned (OpenSpec.upto fnExactOnlyWorldSpec)

/-- 'laws.FnExactKnownPeople', WHERE WHAT IT READS IS OF BULK AT MOST 1048576: true; the input reads as it did. -/
def fnExactKnownPeopleUptoRow : OpenClaim := { program := "ytncihjelpaiocaa", sum := "21490327661d9ed298edbeed8508a0ab72579cdfb39c26f49b3d71ba597a1701", func := "loop.example/tellersandliars/laws.FnExactKnownPeople", spec := "fnExactKnownPeople", recurses := true, apart := false, narrowed := true }
def FnExactKnownPeopleUptoSaid : Prop := fnExactKnownPeopleUptoRow.holds Try.pinned (OpenSpec.upto fnExactKnownPeopleSpec)

/-- 'laws.FnExactNeedlessClaims', WHERE WHAT IT READS IS OF BULK AT MOST 1048576: true; the input reads as it did. -/
def fnExactNeedlessClaimsUptoRow : OpenClaim := { program := "ytncihjelpaiocaa", sum := "21490327661d9ed298edbeed8508a0ab72579cdfb39c26f49b3d71ba597a1701", func := "loop.example/tellersandliars/laws.FnExactNeedlessClaims", spec := "fnExactNeedlessClaims", recurses := true, apart := false, narrowed := true }
def FnExactNeedlessClaimsUptoSaid : Prop := fnExactNeedlessClaimsUptoRow.holds Try.pinned (OpenSpec.upto fnExactNeedlessClaimsSpec)

/-- 'laws.FnExactLeastStory', WHERE WHAT IT READS IS OF BULK AT MOST 1048576: true; the input reads as it did. -/
def fnExactLeastStoryUptoRow : OpenClaim := { program := "ytncihjelpaiocaa", sum := "21490327661d9ed298edbeed8508a0ab72579cdfb39c26f49b3d71ba597a1701", func := "loop.example/tellersandliars/laws.FnExactLeastStory", spec := "fnExactLeastStory", recurses := true, apart := false, narrowed := true }
def FnExactLeastStoryUptoSaid : Prop := fnExactLeastStoryUptoRow.holds Try.pinned (OpenSpec.upto fnExactLeastStorySpec)

end Rows
end Go.Proofs.Ytncihjelpaiocaa
