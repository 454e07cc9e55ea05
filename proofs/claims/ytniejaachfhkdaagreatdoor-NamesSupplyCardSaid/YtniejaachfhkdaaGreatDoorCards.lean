/-
  DERIVED. GIVEN WITH THE SEED: THE CARDS: each row of YtniejaachfhkdaaGreatDoorRows.lean that lists a variable, with what it lists TIED to the program's text (the seventh form; the later family's looks); each row that meets fmt, with fmt's text TOLD by the authors' own Lean function (tested against real Go, not proved from fmt's source: count such statements apart). THE CARD IS WHAT COUNTS. Prove the row's statement (the work); the ties are given (YtniejaachfhkdaaGreatDoorTie.lean); close each card by the builder's one call (the guide's Derived/Test/ToyasCard.lean, 'card_holds'). Laid BY PROGRAM, IN A SANDBOX (cutbox-door.mjs). By AI agents, Wed Nov 11 2026. No macro, syntax, notation, axiom, sorry.
-/
import Derived.Test.YtniejaachfhkdaaGreatDoorRows
import GoSem.ClaimSeven
namespace Go.Proofs.YtniejaachfhkdaaGreatDoor
namespace Rows

/-- THE TIED CARD OF 'lazyclaw01.NamesClassify'. -/
def namesClassifyCard : Claim7 := { stood := { row := namesClassifyRow, standIns := [], harness := (true, "e38f79e49447d02de74033a771f3a27e17c4ebc39d71f9326ea344dab5449109"), looks := true }, kinds := [], alts := [], laidByText := true, laidKinds := [.data, .data, .data, .data, .sentinel, .sentinel, .pinned], laidTests := true, laidLooks := .later }
def NamesClassifyCardSaid : Prop := Claim7.holds Tryz.pinned (.plain (OpenSpec.ofChange namesClassifySpec)) namesClassifyCard

/-- THE TIED CARD OF 'lazyclaw01.NamesMade'. -/
def namesMadeCard : Claim7 := { stood := { row := namesMadeRow, standIns := [], harness := (true, "e38f79e49447d02de74033a771f3a27e17c4ebc39d71f9326ea344dab5449109"), looks := true }, kinds := [], alts := [], laidByText := true, laidKinds := [.data, .data, .data, .data, .sentinel, .sentinel, .pinned], laidTests := true, laidLooks := .later }
def NamesMadeCardSaid : Prop := Claim7.holds Tryz.pinned (.plain (OpenSpec.ofChange namesMadeSpec)) namesMadeCard

/-- THE TIED CARD OF 'lazyclaw01.NamesSupply'. -/
def namesSupplyCard : Claim7 := { stood := { row := namesSupplyRow, standIns := [], harness := (true, "e38f79e49447d02de74033a771f3a27e17c4ebc39d71f9326ea344dab5449109"), looks := true }, kinds := [], alts := [], laidByText := true, laidKinds := [.data, .data, .data, .data, .sentinel, .sentinel, .pinned], laidTests := true, laidLooks := .later }
def NamesSupplyCardSaid : Prop := Claim7.holds Tryz.pinned (.plain (OpenSpec.ofChange namesSupplySpec)) namesSupplyCard

/-- THE TIED CARD OF 'lazyclaw01.NamesClones'. -/
def namesClonesCard : Claim7 := { stood := { row := namesClonesRow, standIns := [], harness := (true, "e38f79e49447d02de74033a771f3a27e17c4ebc39d71f9326ea344dab5449109"), looks := true }, kinds := [], alts := [], laidByText := true, laidKinds := [.data, .data, .data, .data, .sentinel, .sentinel, .pinned], laidTests := true, laidLooks := .later }
def NamesClonesCardSaid : Prop := Claim7.holds Tryz.pinned (.plain (OpenSpec.ofChange namesClonesSpec)) namesClonesCard

/-- THE TIED CARD OF 'lazyclaw02.LexerLexes'. -/
def lexerLexesCard : Claim7 := { stood := { row := lexerLexesRow, standIns := [], harness := (true, "e38f79e49447d02de74033a771f3a27e17c4ebc39d71f9326ea344dab5449109"), looks := true }, kinds := [], alts := [], laidByText := true, laidKinds := [.data, .data, .data, .data, .sentinel, .sentinel, .pinned], laidTests := true, laidLooks := .later }
def LexerLexesCardSaid : Prop := Claim7.holds Tryz.pinned (.plain (OpenSpec.ofChange lexerLexesSpec)) lexerLexesCard

/-- THE TIED CARD OF 'lazyclaw02.LexerLimits'. -/
def lexerLimitsCard : Claim7 := { stood := { row := lexerLimitsRow, standIns := [], harness := (true, "e38f79e49447d02de74033a771f3a27e17c4ebc39d71f9326ea344dab5449109"), looks := true }, kinds := [], alts := [], laidByText := true, laidKinds := [.data, .data, .data, .data, .sentinel, .sentinel, .pinned], laidTests := true, laidLooks := .later }
def LexerLimitsCardSaid : Prop := Claim7.holds Tryz.pinned (.plain (OpenSpec.ofChange lexerLimitsSpec)) lexerLimitsCard

/-- THE TIED CARD OF 'lazyclaw02.LexerRenders'. -/
def lexerRendersCard : Claim7 := { stood := { row := lexerRendersRow, standIns := [], harness := (true, "e38f79e49447d02de74033a771f3a27e17c4ebc39d71f9326ea344dab5449109"), looks := true }, kinds := [], alts := [], laidByText := true, laidKinds := [.data, .data, .data, .data, .sentinel, .sentinel, .pinned], laidTests := true, laidLooks := .later }
def LexerRendersCardSaid : Prop := Claim7.holds Tryz.pinned (.plain (OpenSpec.ofChange lexerRendersSpec)) lexerRendersCard

/-- THE TIED CARD OF 'lazyclaw02.LexerRoundTrip'. -/
def lexerRoundTripCard : Claim7 := { stood := { row := lexerRoundTripRow, standIns := [], harness := (true, "e38f79e49447d02de74033a771f3a27e17c4ebc39d71f9326ea344dab5449109"), looks := true }, kinds := [], alts := [], laidByText := true, laidKinds := [.data, .data, .data, .data, .sentinel, .sentinel, .pinned], laidTests := true, laidLooks := .later }
def LexerRoundTripCardSaid : Prop := Claim7.holds Tryz.pinned (.plain (OpenSpec.ofChange lexerRoundTripSpec)) lexerRoundTripCard

/-- THE SECOND FORM's CARD OF 'lazyclaw01.NamesClassify'. -/
def namesClassifyUptoCard : Claim7 := { stood := { row := namesClassifyUptoRow, standIns := [], harness := (true, "e38f79e49447d02de74033a771f3a27e17c4ebc39d71f9326ea344dab5449109"), looks := true }, kinds := [], alts := [], laidByText := true, laidKinds := [.data, .data, .data, .data, .sentinel, .sentinel, .pinned], laidTests := true, laidLooks := .later }
def NamesClassifyUptoCardSaid : Prop := Claim7.holds Tryz.pinned (.plain (OpenSpec.upto namesClassifySpec)) namesClassifyUptoCard

/-- THE SECOND FORM's CARD OF 'lazyclaw01.NamesMade'. -/
def namesMadeUptoCard : Claim7 := { stood := { row := namesMadeUptoRow, standIns := [], harness := (true, "e38f79e49447d02de74033a771f3a27e17c4ebc39d71f9326ea344dab5449109"), looks := true }, kinds := [], alts := [], laidByText := true, laidKinds := [.data, .data, .data, .data, .sentinel, .sentinel, .pinned], laidTests := true, laidLooks := .later }
def NamesMadeUptoCardSaid : Prop := Claim7.holds Tryz.pinned (.plain (OpenSpec.upto namesMadeSpec)) namesMadeUptoCard

/-- THE SECOND FORM's CARD OF 'lazyclaw01.NamesSupply'. -/
def namesSupplyUptoCard : Claim7 := { stood := { row := namesSupplyUptoRow, standIns := [], harness := (true, "e38f79e49447d02de74033a771f3a27e17c4ebc39d71f9326ea344dab5449109"), looks := true }, kinds := [], alts := [], laidByText := true, laidKinds := [.data, .data, .data, .data, .sentinel, .sentinel, .pinned], laidTests := true, laidLooks := .later }
def NamesSupplyUptoCardSaid : Prop := Claim7.holds Tryz.pinned (.plain (OpenSpec.upto namesSupplySpec)) namesSupplyUptoCard

/-- THE SECOND FORM's CARD OF 'lazyclaw01.NamesClones'. -/
def namesClonesUptoCard : Claim7 := { stood := { row := namesClonesUptoRow, standIns := [], harness := (true, "e38f79e49447d02de74033a771f3a27e17c4ebc39d71f9326ea344dab5449109"), looks := true }, kinds := [], alts := [], laidByText := true, laidKinds := [.data, .data, .data, .data, .sentinel, .sentinel, .pinned], laidTests := true, laidLooks := .later }
def NamesClonesUptoCardSaid : Prop := Claim7.holds Tryz.pinned (.plain (OpenSpec.upto namesClonesSpec)) namesClonesUptoCard

/-- THE SECOND FORM's CARD OF 'lazyclaw02.LexerLexes'. -/
def lexerLexesUptoCard : Claim7 := { stood := { row := lexerLexesUptoRow, standIns := [], harness := (true, "e38f79e49447d02de74033a771f3a27e17c4ebc39d71f9326ea344dab5449109"), looks := true }, kinds := [], alts := [], laidByText := true, laidKinds := [.data, .data, .data, .data, .sentinel, .sentinel, .pinned], laidTests := true, laidLooks := .later }
def LexerLexesUptoCardSaid : Prop := Claim7.holds Tryz.pinned (.plain (OpenSpec.upto lexerLexesSpec)) lexerLexesUptoCard

/-- THE SECOND FORM's CARD OF 'lazyclaw02.LexerLimits'. -/
def lexerLimitsUptoCard : Claim7 := { stood := { row := lexerLimitsUptoRow, standIns := [], harness := (true, "e38f79e49447d02de74033a771f3a27e17c4ebc39d71f9326ea344dab5449109"), looks := true }, kinds := [], alts := [], laidByText := true, laidKinds := [.data, .data, .data, .data, .sentinel, .sentinel, .pinned], laidTests := true, laidLooks := .later }
def LexerLimitsUptoCardSaid : Prop := Claim7.holds Tryz.pinned (.plain (OpenSpec.upto lexerLimitsSpec)) lexerLimitsUptoCard

/-- THE SECOND FORM's CARD OF 'lazyclaw02.LexerRenders'. -/
def lexerRendersUptoCard : Claim7 := { stood := { row := lexerRendersUptoRow, standIns := [], harness := (true, "e38f79e49447d02de74033a771f3a27e17c4ebc39d71f9326ea344dab5449109"), looks := true }, kinds := [], alts := [], laidByText := true, laidKinds := [.data, .data, .data, .data, .sentinel, .sentinel, .pinned], laidTests := true, laidLooks := .later }
def LexerRendersUptoCardSaid : Prop := Claim7.holds Tryz.pinned (.plain (OpenSpec.upto lexerRendersSpec)) lexerRendersUptoCard

/-- THE SECOND FORM's CARD OF 'lazyclaw02.LexerRoundTrip'. -/
def lexerRoundTripUptoCard : Claim7 := { stood := { row := lexerRoundTripUptoRow, standIns := [], harness := (true, "e38f79e49447d02de74033a771f3a27e17c4ebc39d71f9326ea344dab5449109"), looks := true }, kinds := [], alts := [], laidByText := true, laidKinds := [.data, .data, .data, .data, .sentinel, .sentinel, .pinned], laidTests := true, laidLooks := .later }
def LexerRoundTripUptoCardSaid : Prop := Claim7.holds Tryz.pinned (.plain (OpenSpec.upto lexerRoundTripSpec)) lexerRoundTripUptoCard
end Rows
end Go.Proofs.YtniejaachfhkdaaGreatDoor
