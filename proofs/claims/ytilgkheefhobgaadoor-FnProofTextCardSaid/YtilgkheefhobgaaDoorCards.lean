/-
  DERIVED. GIVEN WITH THE SEED: THE CARDS: each row of YtilgkheefhobgaaDoorRows.lean that lists a variable, with what it lists TIED to the program's text (the seventh form; the later family's looks); each row that meets fmt, with fmt's text TOLD by the authors' own Lean function (tested against real Go, not proved from fmt's source: count such statements apart). THE CARD IS WHAT COUNTS. Prove the row's statement (the work); the ties are given (YtilgkheefhobgaaDoorTie.lean); close each card by the builder's one call (the guide's Derived/Test/ToyasCard.lean, 'card_holds'). Laid BY PROGRAM, IN A SANDBOX (cutbox-door.mjs). By AI agents, Wed Nov 11 2026. No macro, syntax, notation, axiom, sorry.
-/
import Derived.Test.YtilgkheefhobgaaDoorRows
import GoSem.ClaimSeven
namespace Go.Proofs.YtilgkheefhobgaaDoor
namespace Rows

/-- THE TIED CARD OF 'laws.FnProofText'. -/
def fnProofTextCard : Claim7 := { stood := { row := fnProofTextRow, standIns := [], harness := (true, "d8b78ebbf3d0b9c3a6a8302d3acb0ad33d9d70a2c34cd894c6e662251f2d397d"), looks := false }, kinds := [], alts := [], laidByText := true, laidKinds := [.data, .data, .data], laidTests := true, laidLooks := .later }
def FnProofTextCardSaid : Prop := Claim7.holds Tryd.pinned (.plain (OpenSpec.ofChange fnProofTextSpec)) fnProofTextCard

/-- THE TIED CARD OF 'laws.FnReadProof'. -/
def fnReadProofCard : Claim7 := { stood := { row := fnReadProofRow, standIns := [], harness := (true, "d8b78ebbf3d0b9c3a6a8302d3acb0ad33d9d70a2c34cd894c6e662251f2d397d"), looks := false }, kinds := [], alts := [], laidByText := true, laidKinds := [.data, .data, .data], laidTests := true, laidLooks := .later }
def FnReadProofCardSaid : Prop := Claim7.holds Tryd.pinned (.plain (OpenSpec.ofChange fnReadProofSpec)) fnReadProofCard

/-- THE SECOND FORM's CARD OF 'laws.FnProofText'. -/
def fnProofTextUptoCard : Claim7 := { stood := { row := fnProofTextUptoRow, standIns := [], harness := (true, "d8b78ebbf3d0b9c3a6a8302d3acb0ad33d9d70a2c34cd894c6e662251f2d397d"), looks := false }, kinds := [], alts := [], laidByText := true, laidKinds := [.data, .data, .data], laidTests := true, laidLooks := .later }
def FnProofTextUptoCardSaid : Prop := Claim7.holds Tryd.pinned (.plain (OpenSpec.upto fnProofTextSpec)) fnProofTextUptoCard

/-- THE SECOND FORM's CARD OF 'laws.FnReadProof'. -/
def fnReadProofUptoCard : Claim7 := { stood := { row := fnReadProofUptoRow, standIns := [], harness := (true, "d8b78ebbf3d0b9c3a6a8302d3acb0ad33d9d70a2c34cd894c6e662251f2d397d"), looks := false }, kinds := [], alts := [], laidByText := true, laidKinds := [.data, .data, .data], laidTests := true, laidLooks := .later }
def FnReadProofUptoCardSaid : Prop := Claim7.holds Tryd.pinned (.plain (OpenSpec.upto fnReadProofSpec)) fnReadProofUptoCard
end Rows
end Go.Proofs.YtilgkheefhobgaaDoor
