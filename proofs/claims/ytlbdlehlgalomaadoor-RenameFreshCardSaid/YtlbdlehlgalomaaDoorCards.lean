/-
  DERIVED. GIVEN WITH THE SEED: THE CARDS: each row of YtlbdlehlgalomaaDoorRows.lean that lists a variable, with what it lists TIED to the program's text (the seventh form; the later family's looks); each row that meets fmt, with fmt's text TOLD by the authors' own Lean function (tested against real Go, not proved from fmt's source: count such statements apart). THE CARD IS WHAT COUNTS. Prove the row's statement (the work); the ties are given (YtlbdlehlgalomaaDoorTie.lean); close each card by the builder's one call (the guide's Derived/Test/ToyasCard.lean, 'card_holds'). Laid BY PROGRAM, IN A SANDBOX (cutbox-door.mjs). By AI agents, Wed Nov 11 2026. No macro, syntax, notation, axiom, sorry.
-/
import Derived.Test.YtlbdlehlgalomaaDoorRows
import GoSem.ClaimSeven
namespace Go.Proofs.YtlbdlehlgalomaaDoor
namespace Rows

/-- THE TIED CARD OF 'picklocklaw08.RenameFresh'. -/
def renameFreshCard : Claim7 := { stood := { row := renameFreshRow, standIns := [], harness := (true, "aac3bd0b33640b18073204218d9c99c187a2e7d3253b01cc6b763200b8d1dca1"), looks := false }, kinds := [], alts := [], laidByText := true, laidKinds := [.data, .data, .data], laidTests := true, laidLooks := .later }
def RenameFreshCardSaid : Prop := Claim7.holds Tryd.pinned (.plain (OpenSpec.ofChange renameFreshSpec)) renameFreshCard

/-- THE SECOND FORM's CARD OF 'picklocklaw08.RenameFresh'. -/
def renameFreshUptoCard : Claim7 := { stood := { row := renameFreshUptoRow, standIns := [], harness := (true, "aac3bd0b33640b18073204218d9c99c187a2e7d3253b01cc6b763200b8d1dca1"), looks := false }, kinds := [], alts := [], laidByText := true, laidKinds := [.data, .data, .data], laidTests := true, laidLooks := .later }
def RenameFreshUptoCardSaid : Prop := Claim7.holds Tryd.pinned (.plain (OpenSpec.upto renameFreshSpec)) renameFreshUptoCard
end Rows
end Go.Proofs.YtlbdlehlgalomaaDoor
