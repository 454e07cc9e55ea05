/-
  DERIVED. GIVEN WITH THE SEED: THE CARDS: each row of YtniejaachfhkdaaDoorRows.lean that lists a variable, with what it lists TIED to the program's text (the seventh form; the later family's looks); each row that meets fmt, with fmt's text TOLD by the authors' own Lean function (tested against real Go, not proved from fmt's source: count such statements apart). THE CARD IS WHAT COUNTS. Prove the row's statement (the work); the ties are given (YtniejaachfhkdaaDoorTie.lean); close each card by the builder's one call (the guide's Derived/Test/ToyasCard.lean, 'card_holds'). Laid BY PROGRAM, IN A SANDBOX (cutbox-door.mjs). By AI agents, Wed Nov 11 2026. No macro, syntax, notation, axiom, sorry.
-/
import Derived.Test.YtniejaachfhkdaaDoorRows
import GoSem.ClaimSeven
namespace Go.Proofs.YtniejaachfhkdaaDoor
namespace Rows

/-- THE TIED CARD OF 'lazyclaw01.NamesQualify'. -/
def namesQualifyCard : Claim7 := { stood := { row := namesQualifyRow, standIns := [], harness := (true, "c3861f2c260119c555af9dff6776b7a9c97309c7fe8f359b93c32a6ac9e0e0c2"), looks := true }, kinds := [], alts := [], laidByText := true, laidKinds := [.data, .data, .data, .data, .sentinel, .sentinel, .pinned], laidTests := true, laidLooks := .later }
def NamesQualifyCardSaid : Prop := Claim7.holds Tryd.pinned (.plain (OpenSpec.ofChange namesQualifySpec)) namesQualifyCard

/-- THE TIED CARD OF 'lazyclaw01.NamesRoundTrip'. -/
def namesRoundTripCard : Claim7 := { stood := { row := namesRoundTripRow, standIns := [], harness := (true, "c3861f2c260119c555af9dff6776b7a9c97309c7fe8f359b93c32a6ac9e0e0c2"), looks := true }, kinds := [], alts := [], laidByText := true, laidKinds := [.data, .data, .data, .data, .sentinel, .sentinel, .pinned], laidTests := true, laidLooks := .later }
def NamesRoundTripCardSaid : Prop := Claim7.holds Tryd.pinned (.plain (OpenSpec.ofChange namesRoundTripSpec)) namesRoundTripCard

/-- THE TIED CARD OF 'lazyclaw01.NamesUnique'. -/
def namesUniqueCard : Claim7 := { stood := { row := namesUniqueRow, standIns := [], harness := (true, "c3861f2c260119c555af9dff6776b7a9c97309c7fe8f359b93c32a6ac9e0e0c2"), looks := true }, kinds := [], alts := [], laidByText := true, laidKinds := [.data, .data, .data, .data, .sentinel, .sentinel, .pinned], laidTests := true, laidLooks := .later }
def NamesUniqueCardSaid : Prop := Claim7.holds Tryd.pinned (.plain (OpenSpec.ofChange namesUniqueSpec)) namesUniqueCard

/-- THE TIED CARD OF 'lazyclaw01.NamesNil'. -/
def namesNilCard : Claim7 := { stood := { row := namesNilRow, standIns := [], harness := (true, "c3861f2c260119c555af9dff6776b7a9c97309c7fe8f359b93c32a6ac9e0e0c2"), looks := true }, kinds := [], alts := [], laidByText := true, laidKinds := [.data, .data, .data, .data, .sentinel, .sentinel, .pinned], laidTests := true, laidLooks := .later }
def NamesNilCardSaid : Prop := Claim7.holds Tryd.pinned (.plain (OpenSpec.ofChange namesNilSpec)) namesNilCard

/-- THE SECOND FORM's CARD OF 'lazyclaw01.NamesQualify'. -/
def namesQualifyUptoCard : Claim7 := { stood := { row := namesQualifyUptoRow, standIns := [], harness := (true, "c3861f2c260119c555af9dff6776b7a9c97309c7fe8f359b93c32a6ac9e0e0c2"), looks := true }, kinds := [], alts := [], laidByText := true, laidKinds := [.data, .data, .data, .data, .sentinel, .sentinel, .pinned], laidTests := true, laidLooks := .later }
def NamesQualifyUptoCardSaid : Prop := Claim7.holds Tryd.pinned (.plain (OpenSpec.upto namesQualifySpec)) namesQualifyUptoCard

/-- THE SECOND FORM's CARD OF 'lazyclaw01.NamesRoundTrip'. -/
def namesRoundTripUptoCard : Claim7 := { stood := { row := namesRoundTripUptoRow, standIns := [], harness := (true, "c3861f2c260119c555af9dff6776b7a9c97309c7fe8f359b93c32a6ac9e0e0c2"), looks := true }, kinds := [], alts := [], laidByText := true, laidKinds := [.data, .data, .data, .data, .sentinel, .sentinel, .pinned], laidTests := true, laidLooks := .later }
def NamesRoundTripUptoCardSaid : Prop := Claim7.holds Tryd.pinned (.plain (OpenSpec.upto namesRoundTripSpec)) namesRoundTripUptoCard

/-- THE SECOND FORM's CARD OF 'lazyclaw01.NamesUnique'. -/
def namesUniqueUptoCard : Claim7 := { stood := { row := namesUniqueUptoRow, standIns := [], harness := (true, "c3861f2c260119c555af9dff6776b7a9c97309c7fe8f359b93c32a6ac9e0e0c2"), looks := true }, kinds := [], alts := [], laidByText := true, laidKinds := [.data, .data, .data, .data, .sentinel, .sentinel, .pinned], laidTests := true, laidLooks := .later }
def NamesUniqueUptoCardSaid : Prop := Claim7.holds Tryd.pinned (.plain (OpenSpec.upto namesUniqueSpec)) namesUniqueUptoCard

/-- THE SECOND FORM's CARD OF 'lazyclaw01.NamesNil'. -/
def namesNilUptoCard : Claim7 := { stood := { row := namesNilUptoRow, standIns := [], harness := (true, "c3861f2c260119c555af9dff6776b7a9c97309c7fe8f359b93c32a6ac9e0e0c2"), looks := true }, kinds := [], alts := [], laidByText := true, laidKinds := [.data, .data, .data, .data, .sentinel, .sentinel, .pinned], laidTests := true, laidLooks := .later }
def NamesNilUptoCardSaid : Prop := Claim7.holds Tryd.pinned (.plain (OpenSpec.upto namesNilSpec)) namesNilUptoCard
end Rows
end Go.Proofs.YtniejaachfhkdaaDoor
