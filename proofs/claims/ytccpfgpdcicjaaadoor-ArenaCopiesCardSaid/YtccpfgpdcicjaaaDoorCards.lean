/-
  DERIVED. GIVEN WITH THE SEED: THE CARDS: each row of YtccpfgpdcicjaaaDoorRows.lean that lists a variable, with what it lists TIED to the program's text (the seventh form; the later family's looks); each row that meets fmt, with fmt's text TOLD by the authors' own Lean function (tested against real Go, not proved from fmt's source: count such statements apart). THE CARD IS WHAT COUNTS. Prove the row's statement (the work); the ties are given (YtccpfgpdcicjaaaDoorTie.lean); close each card by the builder's one call (the guide's Derived/Test/ToyasCard.lean, 'card_holds'). Laid BY PROGRAM, IN A SANDBOX (cutbox-door.mjs). By AI agents, Wed Nov 11 2026. No macro, syntax, notation, axiom, sorry.
-/
import Derived.Test.YtccpfgpdcicjaaaDoorRows
import GoSem.ClaimSeven
namespace Go.Proofs.YtccpfgpdcicjaaaDoor
namespace Rows

/-- THE TIED CARD OF 'picklocklaw09.ArenaPuts'. -/
def arenaPutsCard : Claim7 := { stood := { row := arenaPutsRow, standIns := [], harness := (true, "9bdd30fd1f87a981f00831ce54e51d1358d87f08c932c7130beb1f2362120020"), looks := true }, kinds := [], alts := [], laidByText := true, laidKinds := [.data, .data, .data], laidTests := true, laidLooks := .later }
def ArenaPutsCardSaid : Prop := Claim7.holds Tryd.pinned (.plain (OpenSpec.ofChange arenaPutsSpec)) arenaPutsCard

/-- THE TIED CARD OF 'picklocklaw09.ArenaOnce'. -/
def arenaOnceCard : Claim7 := { stood := { row := arenaOnceRow, standIns := [], harness := (true, "9bdd30fd1f87a981f00831ce54e51d1358d87f08c932c7130beb1f2362120020"), looks := true }, kinds := [], alts := [], laidByText := true, laidKinds := [.data, .data, .data], laidTests := true, laidLooks := .later }
def ArenaOnceCardSaid : Prop := Claim7.holds Tryd.pinned (.plain (OpenSpec.ofChange arenaOnceSpec)) arenaOnceCard

/-- THE TIED CARD OF 'picklocklaw09.ArenaNodes'. -/
def arenaNodesCard : Claim7 := { stood := { row := arenaNodesRow, standIns := [], harness := (true, "9bdd30fd1f87a981f00831ce54e51d1358d87f08c932c7130beb1f2362120020"), looks := true }, kinds := [], alts := [], laidByText := true, laidKinds := [.data, .data, .data], laidTests := true, laidLooks := .later }
def ArenaNodesCardSaid : Prop := Claim7.holds Tryd.pinned (.plain (OpenSpec.ofChange arenaNodesSpec)) arenaNodesCard

/-- THE TIED CARD OF 'picklocklaw09.ArenaTells'. -/
def arenaTellsCard : Claim7 := { stood := { row := arenaTellsRow, standIns := [], harness := (true, "9bdd30fd1f87a981f00831ce54e51d1358d87f08c932c7130beb1f2362120020"), looks := true }, kinds := [], alts := [], laidByText := true, laidKinds := [.data, .data, .data], laidTests := true, laidLooks := .later }
def ArenaTellsCardSaid : Prop := Claim7.holds Tryd.pinned (.plain (OpenSpec.ofChange arenaTellsSpec)) arenaTellsCard

/-- THE TIED CARD OF 'picklocklaw09.ArenaCopies'. -/
def arenaCopiesCard : Claim7 := { stood := { row := arenaCopiesRow, standIns := [], harness := (true, "9bdd30fd1f87a981f00831ce54e51d1358d87f08c932c7130beb1f2362120020"), looks := true }, kinds := [], alts := [], laidByText := true, laidKinds := [.data, .data, .data], laidTests := true, laidLooks := .later }
def ArenaCopiesCardSaid : Prop := Claim7.holds Tryd.pinned (.plain (OpenSpec.ofChange arenaCopiesSpec)) arenaCopiesCard

/-- THE SECOND FORM's CARD OF 'picklocklaw09.ArenaPuts'. -/
def arenaPutsUptoCard : Claim7 := { stood := { row := arenaPutsUptoRow, standIns := [], harness := (true, "9bdd30fd1f87a981f00831ce54e51d1358d87f08c932c7130beb1f2362120020"), looks := true }, kinds := [], alts := [], laidByText := true, laidKinds := [.data, .data, .data], laidTests := true, laidLooks := .later }
def ArenaPutsUptoCardSaid : Prop := Claim7.holds Tryd.pinned (.plain (OpenSpec.upto arenaPutsSpec)) arenaPutsUptoCard

/-- THE SECOND FORM's CARD OF 'picklocklaw09.ArenaOnce'. -/
def arenaOnceUptoCard : Claim7 := { stood := { row := arenaOnceUptoRow, standIns := [], harness := (true, "9bdd30fd1f87a981f00831ce54e51d1358d87f08c932c7130beb1f2362120020"), looks := true }, kinds := [], alts := [], laidByText := true, laidKinds := [.data, .data, .data], laidTests := true, laidLooks := .later }
def ArenaOnceUptoCardSaid : Prop := Claim7.holds Tryd.pinned (.plain (OpenSpec.upto arenaOnceSpec)) arenaOnceUptoCard

/-- THE SECOND FORM's CARD OF 'picklocklaw09.ArenaNodes'. -/
def arenaNodesUptoCard : Claim7 := { stood := { row := arenaNodesUptoRow, standIns := [], harness := (true, "9bdd30fd1f87a981f00831ce54e51d1358d87f08c932c7130beb1f2362120020"), looks := true }, kinds := [], alts := [], laidByText := true, laidKinds := [.data, .data, .data], laidTests := true, laidLooks := .later }
def ArenaNodesUptoCardSaid : Prop := Claim7.holds Tryd.pinned (.plain (OpenSpec.upto arenaNodesSpec)) arenaNodesUptoCard

/-- THE SECOND FORM's CARD OF 'picklocklaw09.ArenaTells'. -/
def arenaTellsUptoCard : Claim7 := { stood := { row := arenaTellsUptoRow, standIns := [], harness := (true, "9bdd30fd1f87a981f00831ce54e51d1358d87f08c932c7130beb1f2362120020"), looks := true }, kinds := [], alts := [], laidByText := true, laidKinds := [.data, .data, .data], laidTests := true, laidLooks := .later }
def ArenaTellsUptoCardSaid : Prop := Claim7.holds Tryd.pinned (.plain (OpenSpec.upto arenaTellsSpec)) arenaTellsUptoCard

/-- THE SECOND FORM's CARD OF 'picklocklaw09.ArenaCopies'. -/
def arenaCopiesUptoCard : Claim7 := { stood := { row := arenaCopiesUptoRow, standIns := [], harness := (true, "9bdd30fd1f87a981f00831ce54e51d1358d87f08c932c7130beb1f2362120020"), looks := true }, kinds := [], alts := [], laidByText := true, laidKinds := [.data, .data, .data], laidTests := true, laidLooks := .later }
def ArenaCopiesUptoCardSaid : Prop := Claim7.holds Tryd.pinned (.plain (OpenSpec.upto arenaCopiesSpec)) arenaCopiesUptoCard
end Rows
end Go.Proofs.YtccpfgpdcicjaaaDoor
