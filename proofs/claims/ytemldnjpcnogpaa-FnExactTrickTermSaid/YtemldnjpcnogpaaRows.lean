/-
  No cell of these rows narrows 'for every input' (looked for: loops, veiled, ifaces, maps, wideKeys, modest, calm, conditions, laid).
  DERIVED. THE GIVEN ROWS OF THIS SEAT. 10 by the template 'for every input the law returns true; each argument reads behind the call as it read before'; 0 by the template 'total and deterministic' (their statements: YtemldnjpcnogpaaTotals.lean).
  GIVEN WITH THE SEED: the statements are not yours to turn. If you find one false, say at which input.
  Laid BY PROGRAM, IN A SANDBOX (cutbox-rows.mjs): the forced cells as the released guide's own fill.sh prints them over the translation 16e08a72d8be6ef3… (all of the seat's roots in one cut). By AI agents, Wed Nov 11 2026. No macro, syntax, notation, axiom, sorry.
-/
import Derived.Test.YtemldnjpcnogpaaChecked
import GoSem.Claim
import GoSem.ClaimJoined
import GoSem.ClaimMapViews
import Derived.JoinedTies
import Derived.KernelRfl
namespace Go.Proofs.Ytemldnjpcnogpaa
/- THE CELL 'sum', in the pinned program and in every row, IS THE sha256 OF THE DUMP (.gsa) THAT YtemldnjpcnogpaaProg.lean LOADS. Nothing in Lean hashes anything: it is a label: what it is worth is what the hold of that sum in a sandbox is worth. -/
noncomputable def Try.pinned : Pinned := { name := "ytemldnjpcnogpaa", sum := "16e08a72d8be6ef39d54a2f3e5a97102c8a912077e71dded7d1b6f4fdebeeb9a", checked := Try.checked }
namespace Rows
def none {H : Type} : Left H := { results := [], args := [] }

/-- 'laws.FnAnswerIn': WHATEVER THE INPUT: true; the input reads as it did. -/
def fnAnswerInSpec : ChangeSpec := { name := "fnAnswerIn", fn := fun _ => fun
  | [d] => { results := [.lit (.bool true)], args := [d] }
  | _ => none }
def fnAnswerInRow : OpenClaim := { program := "ytemldnjpcnogpaa", sum := "16e08a72d8be6ef39d54a2f3e5a97102c8a912077e71dded7d1b6f4fdebeeb9a", func := "loop.example/tellersandliars/laws.FnAnswerIn", spec := "fnAnswerIn", recurses := true, apart := false }
def FnAnswerInSaid : Prop := fnAnswerInRow.holds Try.pinned (OpenSpec.ofChange fnAnswerInSpec)

/-- ITS FALSE NEIGHBOUR: 'it returns false'. Refute it at one input. -/
def fnAnswerInWrong : ChangeSpec := { name := "fnAnswerIn", fn := fun _ => fun
  | [d] => { results := [.lit (.bool false)], args := [d] }
  | _ => none }
def FnAnswerInWrongFalsely : Prop := fnAnswerInRow.holds Try.pinned (OpenSpec.ofChange fnAnswerInWrong)

/-- 'laws.FnTrickTerm': WHATEVER THE INPUT: true; the input reads as it did. -/
def fnTrickTermSpec : ChangeSpec := { name := "fnTrickTerm", fn := fun _ => fun
  | [d] => { results := [.lit (.bool true)], args := [d] }
  | _ => none }
def fnTrickTermRow : OpenClaim := { program := "ytemldnjpcnogpaa", sum := "16e08a72d8be6ef39d54a2f3e5a97102c8a912077e71dded7d1b6f4fdebeeb9a", func := "loop.example/tellersandliars/laws.FnTrickTerm", spec := "fnTrickTerm", recurses := true, apart := false }
def FnTrickTermSaid : Prop := fnTrickTermRow.holds Try.pinned (OpenSpec.ofChange fnTrickTermSpec)

/-- ITS FALSE NEIGHBOUR: 'it returns false'. Refute it at one input. -/
def fnTrickTermWrong : ChangeSpec := { name := "fnTrickTerm", fn := fun _ => fun
  | [d] => { results := [.lit (.bool false)], args := [d] }
  | _ => none }
def FnTrickTermWrongFalsely : Prop := fnTrickTermRow.holds Try.pinned (OpenSpec.ofChange fnTrickTermWrong)

/-- 'laws.FnChainTerm': WHATEVER THE INPUT: true; the input reads as it did. -/
def fnChainTermSpec : ChangeSpec := { name := "fnChainTerm", fn := fun _ => fun
  | [d] => { results := [.lit (.bool true)], args := [d] }
  | _ => none }
def fnChainTermRow : OpenClaim := { program := "ytemldnjpcnogpaa", sum := "16e08a72d8be6ef39d54a2f3e5a97102c8a912077e71dded7d1b6f4fdebeeb9a", func := "loop.example/tellersandliars/laws.FnChainTerm", spec := "fnChainTerm", unfollowed := true, recurses := true, apart := false }
def FnChainTermSaid : Prop := fnChainTermRow.holds Try.pinned (OpenSpec.ofChange fnChainTermSpec)

/-- ITS FALSE NEIGHBOUR: 'it returns false'. Refute it at one input. -/
def fnChainTermWrong : ChangeSpec := { name := "fnChainTerm", fn := fun _ => fun
  | [d] => { results := [.lit (.bool false)], args := [d] }
  | _ => none }
def FnChainTermWrongFalsely : Prop := fnChainTermRow.holds Try.pinned (OpenSpec.ofChange fnChainTermWrong)

/-- 'laws.FnAlikeOk': WHATEVER THE INPUT: true; the input reads as it did. -/
def fnAlikeOkSpec : ChangeSpec := { name := "fnAlikeOk", fn := fun _ => fun
  | [d] => { results := [.lit (.bool true)], args := [d] }
  | _ => none }
def fnAlikeOkRow : OpenClaim := { program := "ytemldnjpcnogpaa", sum := "16e08a72d8be6ef39d54a2f3e5a97102c8a912077e71dded7d1b6f4fdebeeb9a", func := "loop.example/tellersandliars/laws.FnAlikeOk", spec := "fnAlikeOk", recurses := true, apart := false }
def FnAlikeOkSaid : Prop := fnAlikeOkRow.holds Try.pinned (OpenSpec.ofChange fnAlikeOkSpec)

/-- ITS FALSE NEIGHBOUR: 'it returns false'. Refute it at one input. -/
def fnAlikeOkWrong : ChangeSpec := { name := "fnAlikeOk", fn := fun _ => fun
  | [d] => { results := [.lit (.bool false)], args := [d] }
  | _ => none }
def FnAlikeOkWrongFalsely : Prop := fnAlikeOkRow.holds Try.pinned (OpenSpec.ofChange fnAlikeOkWrong)

/-- 'laws.FnChainBack': WHATEVER THE INPUT: true; the input reads as it did. -/
def fnChainBackSpec : ChangeSpec := { name := "fnChainBack", fn := fun _ => fun
  | [d] => { results := [.lit (.bool true)], args := [d] }
  | _ => none }
def fnChainBackRow : OpenClaim := { program := "ytemldnjpcnogpaa", sum := "16e08a72d8be6ef39d54a2f3e5a97102c8a912077e71dded7d1b6f4fdebeeb9a", func := "loop.example/tellersandliars/laws.FnChainBack", spec := "fnChainBack", unfollowed := true, recurses := true, apart := false }
def FnChainBackSaid : Prop := fnChainBackRow.holds Try.pinned (OpenSpec.ofChange fnChainBackSpec)

/-- ITS FALSE NEIGHBOUR: 'it returns false'. Refute it at one input. -/
def fnChainBackWrong : ChangeSpec := { name := "fnChainBack", fn := fun _ => fun
  | [d] => { results := [.lit (.bool false)], args := [d] }
  | _ => none }
def FnChainBackWrongFalsely : Prop := fnChainBackRow.holds Try.pinned (OpenSpec.ofChange fnChainBackWrong)

/-- 'laws.FnTrickTwice': WHATEVER THE INPUT: true; the input reads as it did. -/
def fnTrickTwiceSpec : ChangeSpec := { name := "fnTrickTwice", fn := fun _ => fun
  | [d] => { results := [.lit (.bool true)], args := [d] }
  | _ => none }
def fnTrickTwiceRow : OpenClaim := { program := "ytemldnjpcnogpaa", sum := "16e08a72d8be6ef39d54a2f3e5a97102c8a912077e71dded7d1b6f4fdebeeb9a", func := "loop.example/tellersandliars/laws.FnTrickTwice", spec := "fnTrickTwice", recurses := true, apart := false }
def FnTrickTwiceSaid : Prop := fnTrickTwiceRow.holds Try.pinned (OpenSpec.ofChange fnTrickTwiceSpec)

/-- ITS FALSE NEIGHBOUR: 'it returns false'. Refute it at one input. -/
def fnTrickTwiceWrong : ChangeSpec := { name := "fnTrickTwice", fn := fun _ => fun
  | [d] => { results := [.lit (.bool false)], args := [d] }
  | _ => none }
def FnTrickTwiceWrongFalsely : Prop := fnTrickTwiceRow.holds Try.pinned (OpenSpec.ofChange fnTrickTwiceWrong)

/-- 'laws.FnExactAnswerIn': WHATEVER THE INPUT: true; the input reads as it did. -/
def fnExactAnswerInSpec : ChangeSpec := { name := "fnExactAnswerIn", fn := fun _ => fun
  | [d1, d2, d3, d4] => { results := [.lit (.bool true)], args := [d1, d2, d3, d4] }
  | _ => none }
def fnExactAnswerInRow : OpenClaim := { program := "ytemldnjpcnogpaa", sum := "16e08a72d8be6ef39d54a2f3e5a97102c8a912077e71dded7d1b6f4fdebeeb9a", func := "loop.example/tellersandliars/laws.FnExactAnswerIn", spec := "fnExactAnswerIn", recurses := true, apart := false }
def FnExactAnswerInSaid : Prop := fnExactAnswerInRow.holds Try.pinned (OpenSpec.ofChange fnExactAnswerInSpec)

/-- ITS FALSE NEIGHBOUR: 'it returns false'. Refute it at one input. -/
def fnExactAnswerInWrong : ChangeSpec := { name := "fnExactAnswerIn", fn := fun _ => fun
  | [d1, d2, d3, d4] => { results := [.lit (.bool false)], args := [d1, d2, d3, d4] }
  | _ => none }
def FnExactAnswerInWrongFalsely : Prop := fnExactAnswerInRow.holds Try.pinned (OpenSpec.ofChange fnExactAnswerInWrong)

/-- 'laws.FnExactTrickTerm': WHATEVER THE INPUT: true; the input reads as it did. -/
def fnExactTrickTermSpec : ChangeSpec := { name := "fnExactTrickTerm", fn := fun _ => fun
  | [d1, d2, d3] => { results := [.lit (.bool true)], args := [d1, d2, d3] }
  | _ => none }
def fnExactTrickTermRow : OpenClaim := { program := "ytemldnjpcnogpaa", sum := "16e08a72d8be6ef39d54a2f3e5a97102c8a912077e71dded7d1b6f4fdebeeb9a", func := "loop.example/tellersandliars/laws.FnExactTrickTerm", spec := "fnExactTrickTerm", apart := false }
def FnExactTrickTermSaid : Prop := fnExactTrickTermRow.holds Try.pinned (OpenSpec.ofChange fnExactTrickTermSpec)

/-- ITS FALSE NEIGHBOUR: 'it returns false'. Refute it at one input. -/
def fnExactTrickTermWrong : ChangeSpec := { name := "fnExactTrickTerm", fn := fun _ => fun
  | [d1, d2, d3] => { results := [.lit (.bool false)], args := [d1, d2, d3] }
  | _ => none }
def FnExactTrickTermWrongFalsely : Prop := fnExactTrickTermRow.holds Try.pinned (OpenSpec.ofChange fnExactTrickTermWrong)

/-- 'laws.FnExactChainTerm': WHATEVER THE INPUT: true; the input reads as it did. -/
def fnExactChainTermSpec : ChangeSpec := { name := "fnExactChainTerm", fn := fun _ => fun
  | [d1, d2, d3] => { results := [.lit (.bool true)], args := [d1, d2, d3] }
  | _ => none }
def fnExactChainTermRow : OpenClaim := { program := "ytemldnjpcnogpaa", sum := "16e08a72d8be6ef39d54a2f3e5a97102c8a912077e71dded7d1b6f4fdebeeb9a", func := "loop.example/tellersandliars/laws.FnExactChainTerm", spec := "fnExactChainTerm", unfollowed := true, recurses := true, apart := false }
def FnExactChainTermSaid : Prop := fnExactChainTermRow.holds Try.pinned (OpenSpec.ofChange fnExactChainTermSpec)

/-- ITS FALSE NEIGHBOUR: 'it returns false'. Refute it at one input. -/
def fnExactChainTermWrong : ChangeSpec := { name := "fnExactChainTerm", fn := fun _ => fun
  | [d1, d2, d3] => { results := [.lit (.bool false)], args := [d1, d2, d3] }
  | _ => none }
def FnExactChainTermWrongFalsely : Prop := fnExactChainTermRow.holds Try.pinned (OpenSpec.ofChange fnExactChainTermWrong)

/-- 'laws.FnExactAlikeOk': WHATEVER THE INPUT: true; the input reads as it did. -/
def fnExactAlikeOkSpec : ChangeSpec := { name := "fnExactAlikeOk", fn := fun _ => fun
  | [d1, d2, d3] => { results := [.lit (.bool true)], args := [d1, d2, d3] }
  | _ => none }
def fnExactAlikeOkRow : OpenClaim := { program := "ytemldnjpcnogpaa", sum := "16e08a72d8be6ef39d54a2f3e5a97102c8a912077e71dded7d1b6f4fdebeeb9a", func := "loop.example/tellersandliars/laws.FnExactAlikeOk", spec := "fnExactAlikeOk", recurses := true, apart := false }
def FnExactAlikeOkSaid : Prop := fnExactAlikeOkRow.holds Try.pinned (OpenSpec.ofChange fnExactAlikeOkSpec)

/-- ITS FALSE NEIGHBOUR: 'it returns false'. Refute it at one input. -/
def fnExactAlikeOkWrong : ChangeSpec := { name := "fnExactAlikeOk", fn := fun _ => fun
  | [d1, d2, d3] => { results := [.lit (.bool false)], args := [d1, d2, d3] }
  | _ => none }
def FnExactAlikeOkWrongFalsely : Prop := fnExactAlikeOkRow.holds Try.pinned (OpenSpec.ofChange fnExactAlikeOkWrong)

/- THE SECOND FORM. 'bulk': how many values and letters a reading holds, each counted each time it is reached (what is shared counts as often as it is met; a slice's spare places count too). A statement '..UptoSaid' is the law's where the arguments, and the package variables that the reading takes, are together of bulk at most 1048576: NARROWER than '..Said'. Prove '..Said' where nothing that the law and all that it calls make is longer than what came in: it says more and counts as full. Else prove '..UptoSaid'. A law counts once. -/
mutual
def uptoBulk {H : Type} : DataW H → Nat
  | .lit (.string bytes) => bytes.length + 1
  | .lit _ => 1
  | .nil => 1
  | .ptr d => uptoBulk d + 1
  | .slice elems spare => uptoBulkAll elems + uptoBulkAll spare + 1
  | .agg parts => uptoBulkAll parts + 1
  | .iface _ d => uptoBulk d + 1
  | .map entries => uptoBulkEntries entries + 1
  | .held _ => 1
def uptoBulkAll {H : Type} : List (DataW H) → Nat
  | [] => 0
  | d :: r => uptoBulk d + uptoBulkAll r
def uptoBulkEntries {H : Type} : List (Lit × DataW H) → Nat
  | [] => 0
  | x :: r => uptoBulkEntry x + uptoBulkEntries r
def uptoBulkEntry {H : Type} : Lit × DataW H → Nat
  | (.string bytes, d) => bytes.length + uptoBulk d + 1
  | (_, d) => uptoBulk d + 1
 end
def uptoSmall : (H : Type) → List (DataW H) → Bool := fun _ ds => decide (uptoBulkAll ds ≤ 1048576)
def OpenSpec.upto (s : _root_.Go.ChangeSpec) : _root_.Go.OpenSpec := { _root_.Go.OpenSpec.ofChange s with cond := some uptoSmall }

/-- 'laws.FnAnswerIn', WHERE WHAT IT READS IS OF BULK AT MOST 1048576: true; the input reads as it did. -/
def fnAnswerInUptoRow : OpenClaim := { program := "ytemldnjpcnogpaa", sum := "16e08a72d8be6ef39d54a2f3e5a97102c8a912077e71dded7d1b6f4fdebeeb9a", func := "loop.example/tellersandliars/laws.FnAnswerIn", spec := "fnAnswerIn", recurses := true, apart := false, narrowed := true }
def FnAnswerInUptoSaid : Prop := fnAnswerInUptoRow.holds Try.pinned (OpenSpec.upto fnAnswerInSpec)

/-- 'laws.FnTrickTerm', WHERE WHAT IT READS IS OF BULK AT MOST 1048576: true; the input reads as it did. -/
def fnTrickTermUptoRow : OpenClaim := { program := "ytemldnjpcnogpaa", sum := "16e08a72d8be6ef39d54a2f3e5a97102c8a912077e71dded7d1b6f4fdebeeb9a", func := "loop.example/tellersandliars/laws.FnTrickTerm", spec := "fnTrickTerm", recurses := true, apart := false, narrowed := true }
def FnTrickTermUptoSaid : Prop := fnTrickTermUptoRow.holds Try.pinned (OpenSpec.upto fnTrickTermSpec)

/-- 'laws.FnChainTerm', WHERE WHAT IT READS IS OF BULK AT MOST 1048576: true; the input reads as it did. -/
def fnChainTermUptoRow : OpenClaim := { program := "ytemldnjpcnogpaa", sum := "16e08a72d8be6ef39d54a2f3e5a97102c8a912077e71dded7d1b6f4fdebeeb9a", func := "loop.example/tellersandliars/laws.FnChainTerm", spec := "fnChainTerm", unfollowed := true, recurses := true, apart := false, narrowed := true }
def FnChainTermUptoSaid : Prop := fnChainTermUptoRow.holds Try.pinned (OpenSpec.upto fnChainTermSpec)

/-- 'laws.FnAlikeOk', WHERE WHAT IT READS IS OF BULK AT MOST 1048576: true; the input reads as it did. -/
def fnAlikeOkUptoRow : OpenClaim := { program := "ytemldnjpcnogpaa", sum := "16e08a72d8be6ef39d54a2f3e5a97102c8a912077e71dded7d1b6f4fdebeeb9a", func := "loop.example/tellersandliars/laws.FnAlikeOk", spec := "fnAlikeOk", recurses := true, apart := false, narrowed := true }
def FnAlikeOkUptoSaid : Prop := fnAlikeOkUptoRow.holds Try.pinned (OpenSpec.upto fnAlikeOkSpec)

/-- 'laws.FnChainBack', WHERE WHAT IT READS IS OF BULK AT MOST 1048576: true; the input reads as it did. -/
def fnChainBackUptoRow : OpenClaim := { program := "ytemldnjpcnogpaa", sum := "16e08a72d8be6ef39d54a2f3e5a97102c8a912077e71dded7d1b6f4fdebeeb9a", func := "loop.example/tellersandliars/laws.FnChainBack", spec := "fnChainBack", unfollowed := true, recurses := true, apart := false, narrowed := true }
def FnChainBackUptoSaid : Prop := fnChainBackUptoRow.holds Try.pinned (OpenSpec.upto fnChainBackSpec)

/-- 'laws.FnTrickTwice', WHERE WHAT IT READS IS OF BULK AT MOST 1048576: true; the input reads as it did. -/
def fnTrickTwiceUptoRow : OpenClaim := { program := "ytemldnjpcnogpaa", sum := "16e08a72d8be6ef39d54a2f3e5a97102c8a912077e71dded7d1b6f4fdebeeb9a", func := "loop.example/tellersandliars/laws.FnTrickTwice", spec := "fnTrickTwice", recurses := true, apart := false, narrowed := true }
def FnTrickTwiceUptoSaid : Prop := fnTrickTwiceUptoRow.holds Try.pinned (OpenSpec.upto fnTrickTwiceSpec)

/-- 'laws.FnExactAnswerIn', WHERE WHAT IT READS IS OF BULK AT MOST 1048576: true; the input reads as it did. -/
def fnExactAnswerInUptoRow : OpenClaim := { program := "ytemldnjpcnogpaa", sum := "16e08a72d8be6ef39d54a2f3e5a97102c8a912077e71dded7d1b6f4fdebeeb9a", func := "loop.example/tellersandliars/laws.FnExactAnswerIn", spec := "fnExactAnswerIn", recurses := true, apart := false, narrowed := true }
def FnExactAnswerInUptoSaid : Prop := fnExactAnswerInUptoRow.holds Try.pinned (OpenSpec.upto fnExactAnswerInSpec)

/-- 'laws.FnExactTrickTerm', WHERE WHAT IT READS IS OF BULK AT MOST 1048576: true; the input reads as it did. -/
def fnExactTrickTermUptoRow : OpenClaim := { program := "ytemldnjpcnogpaa", sum := "16e08a72d8be6ef39d54a2f3e5a97102c8a912077e71dded7d1b6f4fdebeeb9a", func := "loop.example/tellersandliars/laws.FnExactTrickTerm", spec := "fnExactTrickTerm", apart := false, narrowed := true }
def FnExactTrickTermUptoSaid : Prop := fnExactTrickTermUptoRow.holds Try.pinned (OpenSpec.upto fnExactTrickTermSpec)

/-- 'laws.FnExactChainTerm', WHERE WHAT IT READS IS OF BULK AT MOST 1048576: true; the input reads as it did. -/
def fnExactChainTermUptoRow : OpenClaim := { program := "ytemldnjpcnogpaa", sum := "16e08a72d8be6ef39d54a2f3e5a97102c8a912077e71dded7d1b6f4fdebeeb9a", func := "loop.example/tellersandliars/laws.FnExactChainTerm", spec := "fnExactChainTerm", unfollowed := true, recurses := true, apart := false, narrowed := true }
def FnExactChainTermUptoSaid : Prop := fnExactChainTermUptoRow.holds Try.pinned (OpenSpec.upto fnExactChainTermSpec)

/-- 'laws.FnExactAlikeOk', WHERE WHAT IT READS IS OF BULK AT MOST 1048576: true; the input reads as it did. -/
def fnExactAlikeOkUptoRow : OpenClaim := { program := "ytemldnjpcnogpaa", sum := "16e08a72d8be6ef39d54a2f3e5a97102c8a912077e71dded7d1b6f4fdebeeb9a", func := "loop.example/tellersandliars/laws.FnExactAlikeOk", spec := "fnExactAlikeOk", recurses := true, apart := false, narrowed := true }
def FnExactAlikeOkUptoSaid : Prop := fnExactAlikeOkUptoRow.holds Try.pinned (OpenSpec.upto fnExactAlikeOkSpec)

end Rows
end Go.Proofs.Ytemldnjpcnogpaa
