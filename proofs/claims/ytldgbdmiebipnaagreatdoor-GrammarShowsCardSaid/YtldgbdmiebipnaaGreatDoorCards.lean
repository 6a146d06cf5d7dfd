/-
  DERIVED. GIVEN WITH THE SEED: THE CARDS: each row of YtldgbdmiebipnaaGreatDoorRows.lean that lists a variable, with what it lists TIED to the program's text (the seventh form; the later family's looks); each row that meets fmt, with fmt's text TOLD by the authors' own Lean function (tested against real Go, not proved from fmt's source: count such statements apart). THE CARD IS WHAT COUNTS. Prove the row's statement (the work); the ties are given (YtldgbdmiebipnaaGreatDoorTie.lean); close each card by the builder's one call (the guide's Derived/Test/ToyasCard.lean, 'card_holds'). Laid BY PROGRAM, IN A SANDBOX (cutbox-door.mjs). By AI agents, Wed Nov 11 2026. No macro, syntax, notation, axiom, sorry.
-/
import Derived.Test.YtldgbdmiebipnaaGreatDoorRows
import GoSem.ClaimSeven
namespace Go.Proofs.YtldgbdmiebipnaaGreatDoor
namespace Rows

/-- THE TIED CARD OF 'picklocklaw11.GrammarShows'. -/
def grammarShowsCard : Claim7 := { stood := { row := grammarShowsRow, standIns := [], harness := (true, "9bf925b3cf7044e9ad8e7eb0a335417c0cbd35e7c4331fd45d7263095a4b80c1"), looks := true }, kinds := [], alts := [], laidByText := true, laidKinds := [.data, .data, .data, .sentinel, .sentinel], laidTests := true, laidLooks := .later }
def GrammarShowsCardSaid : Prop := Claim7.holds Tryz.pinned (.plain (OpenSpec.ofChange grammarShowsSpec)) grammarShowsCard

/-- THE SECOND FORM's CARD OF 'picklocklaw11.GrammarShows'. -/
def grammarShowsUptoCard : Claim7 := { stood := { row := grammarShowsUptoRow, standIns := [], harness := (true, "9bf925b3cf7044e9ad8e7eb0a335417c0cbd35e7c4331fd45d7263095a4b80c1"), looks := true }, kinds := [], alts := [], laidByText := true, laidKinds := [.data, .data, .data, .sentinel, .sentinel], laidTests := true, laidLooks := .later }
def GrammarShowsUptoCardSaid : Prop := Claim7.holds Tryz.pinned (.plain (OpenSpec.upto grammarShowsSpec)) grammarShowsUptoCard
end Rows
end Go.Proofs.YtldgbdmiebipnaaGreatDoor
