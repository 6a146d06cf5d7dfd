/-
  DERIVED. GIVEN WITH THE SEED: THE CARDS: each row of YtnbjpgdnfklanaaGreatDoorRows.lean that lists a variable, with what it lists TIED to the program's text (the seventh form; the later family's looks); each row that meets fmt, with fmt's text TOLD by the authors' own Lean function (tested against real Go, not proved from fmt's source: count such statements apart). THE CARD IS WHAT COUNTS. Prove the row's statement (the work); the ties are given (YtnbjpgdnfklanaaGreatDoorTie.lean); close each card by the builder's one call (the guide's Derived/Test/ToyasCard.lean, 'card_holds'). Laid BY PROGRAM, IN A SANDBOX (cutbox-door.mjs). By AI agents, Wed Nov 11 2026. No macro, syntax, notation, axiom, sorry.
-/
import Derived.Test.YtnbjpgdnfklanaaGreatDoorRows
import GoSem.ClaimSeven
namespace Go.Proofs.YtnbjpgdnfklanaaGreatDoor
namespace Rows

/-- THE TIED CARD OF 'picklocklaw12.LibraryEntries'. -/
def libraryEntriesCard : Claim7 := { stood := { row := libraryEntriesRow, standIns := [], harness := (true, "b793a0a4c4e41e9eacaa7749ba7fd68934d4ab8b5936224159f193cb91bb5d26"), looks := false }, kinds := [], alts := [], laidByText := true, laidKinds := [.data, .data, .data], laidTests := true, laidLooks := .later }
def LibraryEntriesCardSaid : Prop := Claim7.holds Tryz.pinned (.plain (OpenSpec.ofChange libraryEntriesSpec)) libraryEntriesCard

/-- THE TIED CARD OF 'picklocklaw12.LibraryUses'. -/
def libraryUsesCard : Claim7 := { stood := { row := libraryUsesRow, standIns := [], harness := (true, "b793a0a4c4e41e9eacaa7749ba7fd68934d4ab8b5936224159f193cb91bb5d26"), looks := false }, kinds := [], alts := [], laidByText := true, laidKinds := [.data, .data, .data], laidTests := true, laidLooks := .later }
def LibraryUsesCardSaid : Prop := Claim7.holds Tryz.pinned (.plain (OpenSpec.ofChange libraryUsesSpec)) libraryUsesCard

/-- THE TIED CARD OF 'picklocklaw12.LibraryTwice'. -/
def libraryTwiceCard : Claim7 := { stood := { row := libraryTwiceRow, standIns := [], harness := (true, "b793a0a4c4e41e9eacaa7749ba7fd68934d4ab8b5936224159f193cb91bb5d26"), looks := false }, kinds := [], alts := [], laidByText := true, laidKinds := [.data, .data, .data], laidTests := true, laidLooks := .later }
def LibraryTwiceCardSaid : Prop := Claim7.holds Tryz.pinned (.plain (OpenSpec.ofChange libraryTwiceSpec)) libraryTwiceCard

/-- THE TIED CARD OF 'picklocklaw12.LibraryAll'. -/
def libraryAllCard : Claim7 := { stood := { row := libraryAllRow, standIns := [], harness := (true, "b793a0a4c4e41e9eacaa7749ba7fd68934d4ab8b5936224159f193cb91bb5d26"), looks := false }, kinds := [], alts := [], laidByText := true, laidKinds := [.data, .data, .data], laidTests := true, laidLooks := .later }
def LibraryAllCardSaid : Prop := Claim7.holds Tryz.pinned (.plain (OpenSpec.ofChange libraryAllSpec)) libraryAllCard

/-- THE SECOND FORM's CARD OF 'picklocklaw12.LibraryEntries'. -/
def libraryEntriesUptoCard : Claim7 := { stood := { row := libraryEntriesUptoRow, standIns := [], harness := (true, "b793a0a4c4e41e9eacaa7749ba7fd68934d4ab8b5936224159f193cb91bb5d26"), looks := false }, kinds := [], alts := [], laidByText := true, laidKinds := [.data, .data, .data], laidTests := true, laidLooks := .later }
def LibraryEntriesUptoCardSaid : Prop := Claim7.holds Tryz.pinned (.plain (OpenSpec.upto libraryEntriesSpec)) libraryEntriesUptoCard

/-- THE SECOND FORM's CARD OF 'picklocklaw12.LibraryUses'. -/
def libraryUsesUptoCard : Claim7 := { stood := { row := libraryUsesUptoRow, standIns := [], harness := (true, "b793a0a4c4e41e9eacaa7749ba7fd68934d4ab8b5936224159f193cb91bb5d26"), looks := false }, kinds := [], alts := [], laidByText := true, laidKinds := [.data, .data, .data], laidTests := true, laidLooks := .later }
def LibraryUsesUptoCardSaid : Prop := Claim7.holds Tryz.pinned (.plain (OpenSpec.upto libraryUsesSpec)) libraryUsesUptoCard

/-- THE SECOND FORM's CARD OF 'picklocklaw12.LibraryTwice'. -/
def libraryTwiceUptoCard : Claim7 := { stood := { row := libraryTwiceUptoRow, standIns := [], harness := (true, "b793a0a4c4e41e9eacaa7749ba7fd68934d4ab8b5936224159f193cb91bb5d26"), looks := false }, kinds := [], alts := [], laidByText := true, laidKinds := [.data, .data, .data], laidTests := true, laidLooks := .later }
def LibraryTwiceUptoCardSaid : Prop := Claim7.holds Tryz.pinned (.plain (OpenSpec.upto libraryTwiceSpec)) libraryTwiceUptoCard

/-- THE SECOND FORM's CARD OF 'picklocklaw12.LibraryAll'. -/
def libraryAllUptoCard : Claim7 := { stood := { row := libraryAllUptoRow, standIns := [], harness := (true, "b793a0a4c4e41e9eacaa7749ba7fd68934d4ab8b5936224159f193cb91bb5d26"), looks := false }, kinds := [], alts := [], laidByText := true, laidKinds := [.data, .data, .data], laidTests := true, laidLooks := .later }
def LibraryAllUptoCardSaid : Prop := Claim7.holds Tryz.pinned (.plain (OpenSpec.upto libraryAllSpec)) libraryAllUptoCard
end Rows
end Go.Proofs.YtnbjpgdnfklanaaGreatDoor
