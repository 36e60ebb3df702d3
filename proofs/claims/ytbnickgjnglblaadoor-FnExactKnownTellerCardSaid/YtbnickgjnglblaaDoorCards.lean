/-
  DERIVED. GIVEN WITH THE SEED: THE CARDS: each row of YtbnickgjnglblaaDoorRows.lean that lists a variable, with what it lists TIED to the program's text (the seventh form; the later family's looks); each row that meets fmt, with fmt's text TOLD by the authors' own Lean function (tested against real Go, not proved from fmt's source: count such statements apart). THE CARD IS WHAT COUNTS. Prove the row's statement (the work); the ties are given (YtbnickgjnglblaaDoorTie.lean); close each card by the builder's one call (the guide's Derived/Test/ToyasCard.lean, 'card_holds'). Laid BY PROGRAM, IN A SANDBOX (cutbox-door.mjs). By AI agents, Wed Nov 11 2026. No macro, syntax, notation, axiom, sorry.
-/
import Derived.Test.YtbnickgjnglblaaDoorRows
import GoSem.ClaimSeven
namespace Go.Proofs.YtbnickgjnglblaaDoor
namespace Rows

/-- THE TIED CARD OF 'laws.FnKnownTeller'. -/
def fnKnownTellerCard : Claim7 := { stood := { row := fnKnownTellerRow, standIns := [], harness := (true, "ca30cca3a5637c22444ea8581b5475b25779dd978de80b0daaec569ab5cfd85f"), looks := false }, kinds := [], alts := [], laidByText := true, laidKinds := [.data, .data], laidTests := true, laidLooks := .later }
def FnKnownTellerCardSaid : Prop := Claim7.holds Tryd.pinned (.plain (OpenSpec.ofChange fnKnownTellerSpec)) fnKnownTellerCard

/-- THE TIED CARD OF 'laws.FnLeastAsks'. -/
def fnLeastAsksCard : Claim7 := { stood := { row := fnLeastAsksRow, standIns := [], harness := (true, "ca30cca3a5637c22444ea8581b5475b25779dd978de80b0daaec569ab5cfd85f"), looks := false }, kinds := [], alts := [], laidByText := true, laidKinds := [.data, .data], laidTests := true, laidLooks := .later }
def FnLeastAsksCardSaid : Prop := Claim7.holds Tryd.pinned (.plain (OpenSpec.ofChange fnLeastAsksSpec)) fnLeastAsksCard

/-- THE TIED CARD OF 'laws.FnAskSubset'. -/
def fnAskSubsetCard : Claim7 := { stood := { row := fnAskSubsetRow, standIns := [], harness := (true, "ca30cca3a5637c22444ea8581b5475b25779dd978de80b0daaec569ab5cfd85f"), looks := false }, kinds := [], alts := [], laidByText := true, laidKinds := [.data, .data], laidTests := true, laidLooks := .later }
def FnAskSubsetCardSaid : Prop := Claim7.holds Tryd.pinned (.plain (OpenSpec.ofChange fnAskSubsetSpec)) fnAskSubsetCard

/-- THE TIED CARD OF 'laws.FnExactKnownTeller'. -/
def fnExactKnownTellerCard : Claim7 := { stood := { row := fnExactKnownTellerRow, standIns := [], harness := (true, "ca30cca3a5637c22444ea8581b5475b25779dd978de80b0daaec569ab5cfd85f"), looks := false }, kinds := [], alts := [], laidByText := true, laidKinds := [.data, .data], laidTests := true, laidLooks := .later }
def FnExactKnownTellerCardSaid : Prop := Claim7.holds Tryd.pinned (.plain (OpenSpec.ofChange fnExactKnownTellerSpec)) fnExactKnownTellerCard

/-- THE TIED CARD OF 'laws.FnExactLeastAsks'. -/
def fnExactLeastAsksCard : Claim7 := { stood := { row := fnExactLeastAsksRow, standIns := [], harness := (true, "ca30cca3a5637c22444ea8581b5475b25779dd978de80b0daaec569ab5cfd85f"), looks := false }, kinds := [], alts := [], laidByText := true, laidKinds := [.data, .data], laidTests := true, laidLooks := .later }
def FnExactLeastAsksCardSaid : Prop := Claim7.holds Tryd.pinned (.plain (OpenSpec.ofChange fnExactLeastAsksSpec)) fnExactLeastAsksCard

/-- THE SECOND FORM's CARD OF 'laws.FnKnownTeller'. -/
def fnKnownTellerUptoCard : Claim7 := { stood := { row := fnKnownTellerUptoRow, standIns := [], harness := (true, "ca30cca3a5637c22444ea8581b5475b25779dd978de80b0daaec569ab5cfd85f"), looks := false }, kinds := [], alts := [], laidByText := true, laidKinds := [.data, .data], laidTests := true, laidLooks := .later }
def FnKnownTellerUptoCardSaid : Prop := Claim7.holds Tryd.pinned (.plain (OpenSpec.upto fnKnownTellerSpec)) fnKnownTellerUptoCard

/-- THE SECOND FORM's CARD OF 'laws.FnLeastAsks'. -/
def fnLeastAsksUptoCard : Claim7 := { stood := { row := fnLeastAsksUptoRow, standIns := [], harness := (true, "ca30cca3a5637c22444ea8581b5475b25779dd978de80b0daaec569ab5cfd85f"), looks := false }, kinds := [], alts := [], laidByText := true, laidKinds := [.data, .data], laidTests := true, laidLooks := .later }
def FnLeastAsksUptoCardSaid : Prop := Claim7.holds Tryd.pinned (.plain (OpenSpec.upto fnLeastAsksSpec)) fnLeastAsksUptoCard

/-- THE SECOND FORM's CARD OF 'laws.FnAskSubset'. -/
def fnAskSubsetUptoCard : Claim7 := { stood := { row := fnAskSubsetUptoRow, standIns := [], harness := (true, "ca30cca3a5637c22444ea8581b5475b25779dd978de80b0daaec569ab5cfd85f"), looks := false }, kinds := [], alts := [], laidByText := true, laidKinds := [.data, .data], laidTests := true, laidLooks := .later }
def FnAskSubsetUptoCardSaid : Prop := Claim7.holds Tryd.pinned (.plain (OpenSpec.upto fnAskSubsetSpec)) fnAskSubsetUptoCard

/-- THE SECOND FORM's CARD OF 'laws.FnExactKnownTeller'. -/
def fnExactKnownTellerUptoCard : Claim7 := { stood := { row := fnExactKnownTellerUptoRow, standIns := [], harness := (true, "ca30cca3a5637c22444ea8581b5475b25779dd978de80b0daaec569ab5cfd85f"), looks := false }, kinds := [], alts := [], laidByText := true, laidKinds := [.data, .data], laidTests := true, laidLooks := .later }
def FnExactKnownTellerUptoCardSaid : Prop := Claim7.holds Tryd.pinned (.plain (OpenSpec.upto fnExactKnownTellerSpec)) fnExactKnownTellerUptoCard

/-- THE SECOND FORM's CARD OF 'laws.FnExactLeastAsks'. -/
def fnExactLeastAsksUptoCard : Claim7 := { stood := { row := fnExactLeastAsksUptoRow, standIns := [], harness := (true, "ca30cca3a5637c22444ea8581b5475b25779dd978de80b0daaec569ab5cfd85f"), looks := false }, kinds := [], alts := [], laidByText := true, laidKinds := [.data, .data], laidTests := true, laidLooks := .later }
def FnExactLeastAsksUptoCardSaid : Prop := Claim7.holds Tryd.pinned (.plain (OpenSpec.upto fnExactLeastAsksSpec)) fnExactLeastAsksUptoCard
end Rows
end Go.Proofs.YtbnickgjnglblaaDoor
