/-
  DERIVED. GIVEN WITH THE SEED: THE CARDS: each row of YtldgbdmiebipnaaDoorRows.lean that lists a variable, with what it lists TIED to the program's text (the seventh form; the later family's looks); each row that meets fmt, with fmt's text TOLD by the authors' own Lean function (tested against real Go, not proved from fmt's source: count such statements apart). THE CARD IS WHAT COUNTS. Prove the row's statement (the work); the ties are given (YtldgbdmiebipnaaDoorTie.lean); close each card by the builder's one call (the guide's Derived/Test/ToyasCard.lean, 'card_holds'). Laid BY PROGRAM, IN A SANDBOX (cutbox-door.mjs). By AI agents, Wed Nov 11 2026. No macro, syntax, notation, axiom, sorry.
-/
import Derived.Test.YtldgbdmiebipnaaDoorRows
import GoSem.ClaimSeven
namespace Go.Proofs.YtldgbdmiebipnaaDoor
namespace Rows

/-- THE TIED CARD OF 'picklocklaw11.GrammarParses'. -/
def grammarParsesCard : Claim7 := { stood := { row := grammarParsesRow, standIns := [], harness := (true, "58c44caceca8050a1898a75537b42ca3f6dc70edf07abbd1847506cb13cfa0dc"), looks := true }, kinds := [], alts := [], laidByText := true, laidKinds := [.data, .data, .data, .sentinel, .sentinel], laidTests := true, laidLooks := .later }
def GrammarParsesCardSaid : Prop := Claim7.holds Tryd.pinned (.plain (OpenSpec.ofChange grammarParsesSpec)) grammarParsesCard

/-- THE TIED CARD OF 'picklocklaw11.GrammarTerms'. -/
def grammarTermsCard : Claim7 := { stood := { row := grammarTermsRow, standIns := [], harness := (true, "58c44caceca8050a1898a75537b42ca3f6dc70edf07abbd1847506cb13cfa0dc"), looks := true }, kinds := [], alts := [], laidByText := true, laidKinds := [.data, .data, .data, .sentinel, .sentinel], laidTests := true, laidLooks := .later }
def GrammarTermsCardSaid : Prop := Claim7.holds Tryd.pinned (.plain (OpenSpec.ofChange grammarTermsSpec)) grammarTermsCard

/-- THE TIED CARD OF 'picklocklaw11.GrammarBack'. -/
def grammarBackCard : Claim7 := { stood := { row := grammarBackRow, standIns := [], harness := (true, "58c44caceca8050a1898a75537b42ca3f6dc70edf07abbd1847506cb13cfa0dc"), looks := true }, kinds := [], alts := [], laidByText := true, laidKinds := [.data, .data, .data, .sentinel, .sentinel], laidTests := true, laidLooks := .later }
def GrammarBackCardSaid : Prop := Claim7.holds Tryd.pinned (.plain (OpenSpec.ofChange grammarBackSpec)) grammarBackCard

/-- THE SECOND FORM's CARD OF 'picklocklaw11.GrammarParses'. -/
def grammarParsesUptoCard : Claim7 := { stood := { row := grammarParsesUptoRow, standIns := [], harness := (true, "58c44caceca8050a1898a75537b42ca3f6dc70edf07abbd1847506cb13cfa0dc"), looks := true }, kinds := [], alts := [], laidByText := true, laidKinds := [.data, .data, .data, .sentinel, .sentinel], laidTests := true, laidLooks := .later }
def GrammarParsesUptoCardSaid : Prop := Claim7.holds Tryd.pinned (.plain (OpenSpec.upto grammarParsesSpec)) grammarParsesUptoCard

/-- THE SECOND FORM's CARD OF 'picklocklaw11.GrammarTerms'. -/
def grammarTermsUptoCard : Claim7 := { stood := { row := grammarTermsUptoRow, standIns := [], harness := (true, "58c44caceca8050a1898a75537b42ca3f6dc70edf07abbd1847506cb13cfa0dc"), looks := true }, kinds := [], alts := [], laidByText := true, laidKinds := [.data, .data, .data, .sentinel, .sentinel], laidTests := true, laidLooks := .later }
def GrammarTermsUptoCardSaid : Prop := Claim7.holds Tryd.pinned (.plain (OpenSpec.upto grammarTermsSpec)) grammarTermsUptoCard

/-- THE SECOND FORM's CARD OF 'picklocklaw11.GrammarBack'. -/
def grammarBackUptoCard : Claim7 := { stood := { row := grammarBackUptoRow, standIns := [], harness := (true, "58c44caceca8050a1898a75537b42ca3f6dc70edf07abbd1847506cb13cfa0dc"), looks := true }, kinds := [], alts := [], laidByText := true, laidKinds := [.data, .data, .data, .sentinel, .sentinel], laidTests := true, laidLooks := .later }
def GrammarBackUptoCardSaid : Prop := Claim7.holds Tryd.pinned (.plain (OpenSpec.upto grammarBackSpec)) grammarBackUptoCard
end Rows
end Go.Proofs.YtldgbdmiebipnaaDoor
