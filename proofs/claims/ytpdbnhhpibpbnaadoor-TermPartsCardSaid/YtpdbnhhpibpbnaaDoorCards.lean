/-
  DERIVED. GIVEN WITH THE SEED: THE CARDS: each row of YtpdbnhhpibpbnaaDoorRows.lean that lists a variable, with what it lists TIED to the program's text (the seventh form; the later family's looks); each row that meets fmt, with fmt's text TOLD by the authors' own Lean function (tested against real Go, not proved from fmt's source: count such statements apart). THE CARD IS WHAT COUNTS. Prove the row's statement (the work); the ties are given (YtpdbnhhpibpbnaaDoorTie.lean); close each card by the builder's one call (the guide's Derived/Test/ToyasCard.lean, 'card_holds'). Laid BY PROGRAM, IN A SANDBOX (cutbox-door.mjs). By AI agents, Wed Nov 11 2026. No macro, syntax, notation, axiom, sorry.
-/
import Derived.Test.YtpdbnhhpibpbnaaDoorRows
import GoSem.ClaimSeven
namespace Go.Proofs.YtpdbnhhpibpbnaaDoor
namespace Rows

/-- THE TIED CARD OF 'picklocklaw03.TermParts'. -/
def termPartsCard : Claim7 := { stood := { row := termPartsRow, standIns := [], harness := (true, "f13657d886768a5e575d7a177f1ad4d276bda3f0f4729c9d2d729cc0bb4bcbd9"), looks := false }, kinds := [], alts := [], laidByText := true, laidKinds := [.data, .data, .data], laidTests := true, laidLooks := .later }
def TermPartsCardSaid : Prop := Claim7.holds Tryd.pinned (.plain (OpenSpec.ofChange termPartsSpec)) termPartsCard

/-- THE TIED CARD OF 'picklocklaw03.TermOrders'. -/
def termOrdersCard : Claim7 := { stood := { row := termOrdersRow, standIns := [], harness := (true, "f13657d886768a5e575d7a177f1ad4d276bda3f0f4729c9d2d729cc0bb4bcbd9"), looks := false }, kinds := [], alts := [], laidByText := true, laidKinds := [.data, .data, .data], laidTests := true, laidLooks := .later }
def TermOrdersCardSaid : Prop := Claim7.holds Tryd.pinned (.plain (OpenSpec.ofChange termOrdersSpec)) termOrdersCard

/-- THE TIED CARD OF 'picklocklaw03.TermSorts'. -/
def termSortsCard : Claim7 := { stood := { row := termSortsRow, standIns := [], harness := (true, "f13657d886768a5e575d7a177f1ad4d276bda3f0f4729c9d2d729cc0bb4bcbd9"), looks := false }, kinds := [], alts := [], laidByText := true, laidKinds := [.data, .data, .data], laidTests := true, laidLooks := .later }
def TermSortsCardSaid : Prop := Claim7.holds Tryd.pinned (.plain (OpenSpec.ofChange termSortsSpec)) termSortsCard

/-- THE TIED CARD OF 'picklocklaw03.TermHas'. -/
def termHasCard : Claim7 := { stood := { row := termHasRow, standIns := [], harness := (true, "f13657d886768a5e575d7a177f1ad4d276bda3f0f4729c9d2d729cc0bb4bcbd9"), looks := false }, kinds := [], alts := [], laidByText := true, laidKinds := [.data, .data, .data], laidTests := true, laidLooks := .later }
def TermHasCardSaid : Prop := Claim7.holds Tryd.pinned (.plain (OpenSpec.ofChange termHasSpec)) termHasCard

/-- THE TIED CARD OF 'picklocklaw03.TermShows'. -/
def termShowsCard : Claim7 := { stood := { row := termShowsRow, standIns := [], harness := (true, "f13657d886768a5e575d7a177f1ad4d276bda3f0f4729c9d2d729cc0bb4bcbd9"), looks := false }, kinds := [], alts := [], laidByText := true, laidKinds := [.data, .data, .data], laidTests := true, laidLooks := .later }
def TermShowsCardSaid : Prop := Claim7.holds Tryd.pinned (.plain (OpenSpec.ofChange termShowsSpec)) termShowsCard

/-- THE SECOND FORM's CARD OF 'picklocklaw03.TermParts'. -/
def termPartsUptoCard : Claim7 := { stood := { row := termPartsUptoRow, standIns := [], harness := (true, "f13657d886768a5e575d7a177f1ad4d276bda3f0f4729c9d2d729cc0bb4bcbd9"), looks := false }, kinds := [], alts := [], laidByText := true, laidKinds := [.data, .data, .data], laidTests := true, laidLooks := .later }
def TermPartsUptoCardSaid : Prop := Claim7.holds Tryd.pinned (.plain (OpenSpec.upto termPartsSpec)) termPartsUptoCard

/-- THE SECOND FORM's CARD OF 'picklocklaw03.TermOrders'. -/
def termOrdersUptoCard : Claim7 := { stood := { row := termOrdersUptoRow, standIns := [], harness := (true, "f13657d886768a5e575d7a177f1ad4d276bda3f0f4729c9d2d729cc0bb4bcbd9"), looks := false }, kinds := [], alts := [], laidByText := true, laidKinds := [.data, .data, .data], laidTests := true, laidLooks := .later }
def TermOrdersUptoCardSaid : Prop := Claim7.holds Tryd.pinned (.plain (OpenSpec.upto termOrdersSpec)) termOrdersUptoCard

/-- THE SECOND FORM's CARD OF 'picklocklaw03.TermSorts'. -/
def termSortsUptoCard : Claim7 := { stood := { row := termSortsUptoRow, standIns := [], harness := (true, "f13657d886768a5e575d7a177f1ad4d276bda3f0f4729c9d2d729cc0bb4bcbd9"), looks := false }, kinds := [], alts := [], laidByText := true, laidKinds := [.data, .data, .data], laidTests := true, laidLooks := .later }
def TermSortsUptoCardSaid : Prop := Claim7.holds Tryd.pinned (.plain (OpenSpec.upto termSortsSpec)) termSortsUptoCard

/-- THE SECOND FORM's CARD OF 'picklocklaw03.TermHas'. -/
def termHasUptoCard : Claim7 := { stood := { row := termHasUptoRow, standIns := [], harness := (true, "f13657d886768a5e575d7a177f1ad4d276bda3f0f4729c9d2d729cc0bb4bcbd9"), looks := false }, kinds := [], alts := [], laidByText := true, laidKinds := [.data, .data, .data], laidTests := true, laidLooks := .later }
def TermHasUptoCardSaid : Prop := Claim7.holds Tryd.pinned (.plain (OpenSpec.upto termHasSpec)) termHasUptoCard

/-- THE SECOND FORM's CARD OF 'picklocklaw03.TermShows'. -/
def termShowsUptoCard : Claim7 := { stood := { row := termShowsUptoRow, standIns := [], harness := (true, "f13657d886768a5e575d7a177f1ad4d276bda3f0f4729c9d2d729cc0bb4bcbd9"), looks := false }, kinds := [], alts := [], laidByText := true, laidKinds := [.data, .data, .data], laidTests := true, laidLooks := .later }
def TermShowsUptoCardSaid : Prop := Claim7.holds Tryd.pinned (.plain (OpenSpec.upto termShowsSpec)) termShowsUptoCard
end Rows
end Go.Proofs.YtpdbnhhpibpbnaaDoor
