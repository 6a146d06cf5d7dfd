/-
  DERIVED. GIVEN WITH THE SEED: THE CARDS: each row of YtjcleokfpohpdaaGreatDoorRows.lean that lists a variable, with what it lists TIED to the program's text (the seventh form; the later family's looks); each row that meets fmt, with fmt's text TOLD by the authors' own Lean function (tested against real Go, not proved from fmt's source: count such statements apart). THE CARD IS WHAT COUNTS. Prove the row's statement (the work); the ties are given (YtjcleokfpohpdaaGreatDoorTie.lean); close each card by the builder's one call (the guide's Derived/Test/ToyasCard.lean, 'card_holds'). Laid BY PROGRAM, IN A SANDBOX (cutbox-door.mjs). By AI agents, Wed Nov 11 2026. No macro, syntax, notation, axiom, sorry.
-/
import Derived.Test.YtjcleokfpohpdaaGreatDoorRows
import GoSem.ClaimSeven
namespace Go.Proofs.YtjcleokfpohpdaaGreatDoor
namespace Rows

/-- THE TIED CARD OF 'picklocklaw13.ScopeReads'. -/
def scopeReadsCard : Claim7 := { stood := { row := scopeReadsRow, standIns := [], harness := (true, "e84cb5125bf80149d9a41f142cb883c591e87631d3e3c91e6000d32ef405040e"), looks := true }, kinds := [], alts := [], laidByText := true, laidKinds := [.data, .data, .data, .sentinel, .sentinel], laidTests := true, laidLooks := .later }
def ScopeReadsCardSaid : Prop := Claim7.holds Tryz.pinned (.plain (OpenSpec.ofChange scopeReadsSpec)) scopeReadsCard

/-- THE TIED CARD OF 'picklocklaw13.ScopeChecks'. -/
def scopeChecksCard : Claim7 := { stood := { row := scopeChecksRow, standIns := [], harness := (true, "e84cb5125bf80149d9a41f142cb883c591e87631d3e3c91e6000d32ef405040e"), looks := true }, kinds := [], alts := [], laidByText := true, laidKinds := [.data, .data, .data, .sentinel, .sentinel], laidTests := true, laidLooks := .later }
def ScopeChecksCardSaid : Prop := Claim7.holds Tryz.pinned (.plain (OpenSpec.ofChange scopeChecksSpec)) scopeChecksCard

/-- THE TIED CARD OF 'picklocklaw13.ScopeTerms'. -/
def scopeTermsCard : Claim7 := { stood := { row := scopeTermsRow, standIns := [], harness := (true, "e84cb5125bf80149d9a41f142cb883c591e87631d3e3c91e6000d32ef405040e"), looks := true }, kinds := [], alts := [], laidByText := true, laidKinds := [.data, .data, .data, .sentinel, .sentinel], laidTests := true, laidLooks := .later }
def ScopeTermsCardSaid : Prop := Claim7.holds Tryz.pinned (.plain (OpenSpec.ofChange scopeTermsSpec)) scopeTermsCard

/-- THE TIED CARD OF 'picklocklaw13.ScopeRight'. -/
def scopeRightCard : Claim7 := { stood := { row := scopeRightRow, standIns := [], harness := (true, "e84cb5125bf80149d9a41f142cb883c591e87631d3e3c91e6000d32ef405040e"), looks := true }, kinds := [], alts := [], laidByText := true, laidKinds := [.data, .data, .data, .sentinel, .sentinel], laidTests := true, laidLooks := .later }
def ScopeRightCardSaid : Prop := Claim7.holds Tryz.pinned (.plain (OpenSpec.ofChange scopeRightSpec)) scopeRightCard

/-- THE TIED CARD OF 'picklocklaw12.LibraryEntries'. -/
def libraryEntriesCard : Claim7 := { stood := { row := libraryEntriesRow, standIns := [], harness := (true, "e84cb5125bf80149d9a41f142cb883c591e87631d3e3c91e6000d32ef405040e"), looks := true }, kinds := [], alts := [], laidByText := true, laidKinds := [.data, .data, .data], laidTests := true, laidLooks := .later }
def LibraryEntriesCardSaid : Prop := Claim7.holds Tryz.pinned (.plain (OpenSpec.ofChange libraryEntriesSpec)) libraryEntriesCard

/-- THE TIED CARD OF 'picklocklaw12.LibraryUses'. -/
def libraryUsesCard : Claim7 := { stood := { row := libraryUsesRow, standIns := [], harness := (true, "e84cb5125bf80149d9a41f142cb883c591e87631d3e3c91e6000d32ef405040e"), looks := true }, kinds := [], alts := [], laidByText := true, laidKinds := [.data, .data, .data], laidTests := true, laidLooks := .later }
def LibraryUsesCardSaid : Prop := Claim7.holds Tryz.pinned (.plain (OpenSpec.ofChange libraryUsesSpec)) libraryUsesCard

/-- THE TIED CARD OF 'picklocklaw12.LibraryAll'. -/
def libraryAllCard : Claim7 := { stood := { row := libraryAllRow, standIns := [], harness := (true, "e84cb5125bf80149d9a41f142cb883c591e87631d3e3c91e6000d32ef405040e"), looks := true }, kinds := [], alts := [], laidByText := true, laidKinds := [.data, .data, .data], laidTests := true, laidLooks := .later }
def LibraryAllCardSaid : Prop := Claim7.holds Tryz.pinned (.plain (OpenSpec.ofChange libraryAllSpec)) libraryAllCard

/-- THE SECOND FORM's CARD OF 'picklocklaw13.ScopeReads'. -/
def scopeReadsUptoCard : Claim7 := { stood := { row := scopeReadsUptoRow, standIns := [], harness := (true, "e84cb5125bf80149d9a41f142cb883c591e87631d3e3c91e6000d32ef405040e"), looks := true }, kinds := [], alts := [], laidByText := true, laidKinds := [.data, .data, .data, .sentinel, .sentinel], laidTests := true, laidLooks := .later }
def ScopeReadsUptoCardSaid : Prop := Claim7.holds Tryz.pinned (.plain (OpenSpec.upto scopeReadsSpec)) scopeReadsUptoCard

/-- THE SECOND FORM's CARD OF 'picklocklaw13.ScopeChecks'. -/
def scopeChecksUptoCard : Claim7 := { stood := { row := scopeChecksUptoRow, standIns := [], harness := (true, "e84cb5125bf80149d9a41f142cb883c591e87631d3e3c91e6000d32ef405040e"), looks := true }, kinds := [], alts := [], laidByText := true, laidKinds := [.data, .data, .data, .sentinel, .sentinel], laidTests := true, laidLooks := .later }
def ScopeChecksUptoCardSaid : Prop := Claim7.holds Tryz.pinned (.plain (OpenSpec.upto scopeChecksSpec)) scopeChecksUptoCard

/-- THE SECOND FORM's CARD OF 'picklocklaw13.ScopeTerms'. -/
def scopeTermsUptoCard : Claim7 := { stood := { row := scopeTermsUptoRow, standIns := [], harness := (true, "e84cb5125bf80149d9a41f142cb883c591e87631d3e3c91e6000d32ef405040e"), looks := true }, kinds := [], alts := [], laidByText := true, laidKinds := [.data, .data, .data, .sentinel, .sentinel], laidTests := true, laidLooks := .later }
def ScopeTermsUptoCardSaid : Prop := Claim7.holds Tryz.pinned (.plain (OpenSpec.upto scopeTermsSpec)) scopeTermsUptoCard

/-- THE SECOND FORM's CARD OF 'picklocklaw13.ScopeRight'. -/
def scopeRightUptoCard : Claim7 := { stood := { row := scopeRightUptoRow, standIns := [], harness := (true, "e84cb5125bf80149d9a41f142cb883c591e87631d3e3c91e6000d32ef405040e"), looks := true }, kinds := [], alts := [], laidByText := true, laidKinds := [.data, .data, .data, .sentinel, .sentinel], laidTests := true, laidLooks := .later }
def ScopeRightUptoCardSaid : Prop := Claim7.holds Tryz.pinned (.plain (OpenSpec.upto scopeRightSpec)) scopeRightUptoCard

/-- THE SECOND FORM's CARD OF 'picklocklaw12.LibraryEntries'. -/
def libraryEntriesUptoCard : Claim7 := { stood := { row := libraryEntriesUptoRow, standIns := [], harness := (true, "e84cb5125bf80149d9a41f142cb883c591e87631d3e3c91e6000d32ef405040e"), looks := true }, kinds := [], alts := [], laidByText := true, laidKinds := [.data, .data, .data], laidTests := true, laidLooks := .later }
def LibraryEntriesUptoCardSaid : Prop := Claim7.holds Tryz.pinned (.plain (OpenSpec.upto libraryEntriesSpec)) libraryEntriesUptoCard

/-- THE SECOND FORM's CARD OF 'picklocklaw12.LibraryUses'. -/
def libraryUsesUptoCard : Claim7 := { stood := { row := libraryUsesUptoRow, standIns := [], harness := (true, "e84cb5125bf80149d9a41f142cb883c591e87631d3e3c91e6000d32ef405040e"), looks := true }, kinds := [], alts := [], laidByText := true, laidKinds := [.data, .data, .data], laidTests := true, laidLooks := .later }
def LibraryUsesUptoCardSaid : Prop := Claim7.holds Tryz.pinned (.plain (OpenSpec.upto libraryUsesSpec)) libraryUsesUptoCard

/-- THE SECOND FORM's CARD OF 'picklocklaw12.LibraryAll'. -/
def libraryAllUptoCard : Claim7 := { stood := { row := libraryAllUptoRow, standIns := [], harness := (true, "e84cb5125bf80149d9a41f142cb883c591e87631d3e3c91e6000d32ef405040e"), looks := true }, kinds := [], alts := [], laidByText := true, laidKinds := [.data, .data, .data], laidTests := true, laidLooks := .later }
def LibraryAllUptoCardSaid : Prop := Claim7.holds Tryz.pinned (.plain (OpenSpec.upto libraryAllSpec)) libraryAllUptoCard
end Rows
end Go.Proofs.YtjcleokfpohpdaaGreatDoor
