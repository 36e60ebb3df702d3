/-
  DERIVED. GIVEN WITH THE SEED: THE CARDS: each row of YtmcdfbjmbelklaaDoorRows.lean that lists a variable, with what it lists TIED to the program's text (the seventh form; the later family's looks); each row that meets fmt, with fmt's text TOLD by the authors' own Lean function (tested against real Go, not proved from fmt's source: count such statements apart). THE CARD IS WHAT COUNTS. Prove the row's statement (the work); the ties are given (YtmcdfbjmbelklaaDoorTie.lean); close each card by the builder's one call (the guide's Derived/Test/ToyasCard.lean, 'card_holds'). Laid BY PROGRAM, IN A SANDBOX (cutbox-door.mjs). By AI agents, Wed Nov 11 2026. No macro, syntax, notation, axiom, sorry.
-/
import Derived.Test.YtmcdfbjmbelklaaDoorRows
import GoSem.ClaimSeven
namespace Go.Proofs.YtmcdfbjmbelklaaDoor
namespace Rows

/-- THE TIED CARD OF 'laws.FnTermText'. -/
def fnTermTextCard : Claim7 := { stood := { row := fnTermTextRow, standIns := [], harness := (true, "e6fd3fea75c8f4d122068e4160a05cf0237302d06e774c9d8cc6c22ccb3d49ae"), looks := false }, kinds := [], alts := [], laidByText := true, laidKinds := [.data, .data, .data], laidTests := true, laidLooks := .later }
def FnTermTextCardSaid : Prop := Claim7.holds Tryd.pinned (.plain (OpenSpec.ofChange fnTermTextSpec)) fnTermTextCard

/-- THE TIED CARD OF 'laws.FnReadTerm'. -/
def fnReadTermCard : Claim7 := { stood := { row := fnReadTermRow, standIns := [], harness := (true, "e6fd3fea75c8f4d122068e4160a05cf0237302d06e774c9d8cc6c22ccb3d49ae"), looks := false }, kinds := [], alts := [], laidByText := true, laidKinds := [.data, .data, .data], laidTests := true, laidLooks := .later }
def FnReadTermCardSaid : Prop := Claim7.holds Tryd.pinned (.plain (OpenSpec.ofChange fnReadTermSpec)) fnReadTermCard

/-- THE TIED CARD OF 'laws.FnPeopleRead'. -/
def fnPeopleReadCard : Claim7 := { stood := { row := fnPeopleReadRow, standIns := [], harness := (true, "e6fd3fea75c8f4d122068e4160a05cf0237302d06e774c9d8cc6c22ccb3d49ae"), looks := false }, kinds := [], alts := [], laidByText := true, laidKinds := [.data, .data, .data], laidTests := true, laidLooks := .later }
def FnPeopleReadCardSaid : Prop := Claim7.holds Tryd.pinned (.plain (OpenSpec.ofChange fnPeopleReadSpec)) fnPeopleReadCard

/-- THE TIED CARD OF 'laws.FnExactTermText'. -/
def fnExactTermTextCard : Claim7 := { stood := { row := fnExactTermTextRow, standIns := [], harness := (true, "e6fd3fea75c8f4d122068e4160a05cf0237302d06e774c9d8cc6c22ccb3d49ae"), looks := false }, kinds := [], alts := [], laidByText := true, laidKinds := [.data, .data, .data], laidTests := true, laidLooks := .later }
def FnExactTermTextCardSaid : Prop := Claim7.holds Tryd.pinned (.plain (OpenSpec.ofChange fnExactTermTextSpec)) fnExactTermTextCard

/-- THE TIED CARD OF 'laws.FnExactReadTerm'. -/
def fnExactReadTermCard : Claim7 := { stood := { row := fnExactReadTermRow, standIns := [], harness := (true, "e6fd3fea75c8f4d122068e4160a05cf0237302d06e774c9d8cc6c22ccb3d49ae"), looks := false }, kinds := [], alts := [], laidByText := true, laidKinds := [.data, .data, .data], laidTests := true, laidLooks := .later }
def FnExactReadTermCardSaid : Prop := Claim7.holds Tryd.pinned (.plain (OpenSpec.ofChange fnExactReadTermSpec)) fnExactReadTermCard

/-- THE SECOND FORM's CARD OF 'laws.FnTermText'. -/
def fnTermTextUptoCard : Claim7 := { stood := { row := fnTermTextUptoRow, standIns := [], harness := (true, "e6fd3fea75c8f4d122068e4160a05cf0237302d06e774c9d8cc6c22ccb3d49ae"), looks := false }, kinds := [], alts := [], laidByText := true, laidKinds := [.data, .data, .data], laidTests := true, laidLooks := .later }
def FnTermTextUptoCardSaid : Prop := Claim7.holds Tryd.pinned (.plain (OpenSpec.upto fnTermTextSpec)) fnTermTextUptoCard

/-- THE SECOND FORM's CARD OF 'laws.FnReadTerm'. -/
def fnReadTermUptoCard : Claim7 := { stood := { row := fnReadTermUptoRow, standIns := [], harness := (true, "e6fd3fea75c8f4d122068e4160a05cf0237302d06e774c9d8cc6c22ccb3d49ae"), looks := false }, kinds := [], alts := [], laidByText := true, laidKinds := [.data, .data, .data], laidTests := true, laidLooks := .later }
def FnReadTermUptoCardSaid : Prop := Claim7.holds Tryd.pinned (.plain (OpenSpec.upto fnReadTermSpec)) fnReadTermUptoCard

/-- THE SECOND FORM's CARD OF 'laws.FnPeopleRead'. -/
def fnPeopleReadUptoCard : Claim7 := { stood := { row := fnPeopleReadUptoRow, standIns := [], harness := (true, "e6fd3fea75c8f4d122068e4160a05cf0237302d06e774c9d8cc6c22ccb3d49ae"), looks := false }, kinds := [], alts := [], laidByText := true, laidKinds := [.data, .data, .data], laidTests := true, laidLooks := .later }
def FnPeopleReadUptoCardSaid : Prop := Claim7.holds Tryd.pinned (.plain (OpenSpec.upto fnPeopleReadSpec)) fnPeopleReadUptoCard

/-- THE SECOND FORM's CARD OF 'laws.FnExactTermText'. -/
def fnExactTermTextUptoCard : Claim7 := { stood := { row := fnExactTermTextUptoRow, standIns := [], harness := (true, "e6fd3fea75c8f4d122068e4160a05cf0237302d06e774c9d8cc6c22ccb3d49ae"), looks := false }, kinds := [], alts := [], laidByText := true, laidKinds := [.data, .data, .data], laidTests := true, laidLooks := .later }
def FnExactTermTextUptoCardSaid : Prop := Claim7.holds Tryd.pinned (.plain (OpenSpec.upto fnExactTermTextSpec)) fnExactTermTextUptoCard

/-- THE SECOND FORM's CARD OF 'laws.FnExactReadTerm'. -/
def fnExactReadTermUptoCard : Claim7 := { stood := { row := fnExactReadTermUptoRow, standIns := [], harness := (true, "e6fd3fea75c8f4d122068e4160a05cf0237302d06e774c9d8cc6c22ccb3d49ae"), looks := false }, kinds := [], alts := [], laidByText := true, laidKinds := [.data, .data, .data], laidTests := true, laidLooks := .later }
def FnExactReadTermUptoCardSaid : Prop := Claim7.holds Tryd.pinned (.plain (OpenSpec.upto fnExactReadTermSpec)) fnExactReadTermUptoCard
end Rows
end Go.Proofs.YtmcdfbjmbelklaaDoor
