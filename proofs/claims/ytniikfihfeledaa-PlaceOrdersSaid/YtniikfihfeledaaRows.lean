/-
  NARROWER THAN 'FOR EVERY INPUT', by the rows' own cells (each row's printed sentence says how): PlaceStands: loops · PlacePuts: loops · PlaceApart: loops · PlaceLists: loops · PlaceOrders: loops.
  DERIVED. THE GIVEN ROWS OF THIS SEAT. 5 by the template 'for every input the law returns true; each argument reads behind the call as it read before'; 0 by the template 'total and deterministic' (their statements: YtniikfihfeledaaTotals.lean).
  GIVEN WITH THE SEED: the statements are not yours to turn. If you find one false, say at which input.
  Laid BY PROGRAM, IN A SANDBOX (cutbox-rows.mjs): the forced cells as the released guide's own fill.sh prints them over the translation 52436a0598cd2920… (all of the seat's roots in one cut). By AI agents, Wed Nov 11 2026. No macro, syntax, notation, axiom, sorry.
-/
import Derived.Test.YtniikfihfeledaaChecked
import GoSem.Claim
import GoSem.ClaimJoined
import GoSem.ClaimMapViews
import Derived.JoinedTies
import Derived.KernelRfl
namespace Go.Proofs.Ytniikfihfeledaa
/- THE CELL 'sum', in the pinned program and in every row, IS THE sha256 OF THE DUMP (.gsa) THAT YtniikfihfeledaaProg.lean LOADS. Nothing in Lean hashes anything: it is a label: what it is worth is what the hold of that sum in a sandbox is worth. -/
noncomputable def Try.pinned : Pinned := { name := "ytniikfihfeledaa", sum := "52436a0598cd2920645e1fc903204f80134f5364bb35a3ced65acfd32c187ae3", checked := Try.checked }
namespace Rows
def none {H : Type} : Left H := { results := [], args := [] }

/-- 'picklocklaw04.PlaceStands': WHATEVER THE INPUT: true; the input reads as it did. -/
def placeStandsSpec : ChangeSpec := { name := "placeStands", fn := fun _ => fun
  | [d1, d2] => { results := [.lit (.bool true)], args := [d1, d2] }
  | _ => none }
def placeStandsRow : OpenClaim := { program := "ytniikfihfeledaa", sum := "52436a0598cd2920645e1fc903204f80134f5364bb35a3ced65acfd32c187ae3", func := "picklock/picklocklaw04.PlaceStands", spec := "placeStands", unfollowed := true, recurses := true, loops := true, apart := false }
def PlaceStandsSaid : Prop := placeStandsRow.holds Try.pinned (OpenSpec.ofChange placeStandsSpec)

/-- ITS FALSE NEIGHBOUR: 'it returns false'. Refute it at one input. -/
def placeStandsWrong : ChangeSpec := { name := "placeStands", fn := fun _ => fun
  | [d1, d2] => { results := [.lit (.bool false)], args := [d1, d2] }
  | _ => none }
def PlaceStandsWrongFalsely : Prop := placeStandsRow.holds Try.pinned (OpenSpec.ofChange placeStandsWrong)

/-- 'picklocklaw04.PlacePuts': WHATEVER THE INPUT: true; the input reads as it did. -/
def placePutsSpec : ChangeSpec := { name := "placePuts", fn := fun _ => fun
  | [d1, d2, d3] => { results := [.lit (.bool true)], args := [d1, d2, d3] }
  | _ => none }
def placePutsRow : OpenClaim := { program := "ytniikfihfeledaa", sum := "52436a0598cd2920645e1fc903204f80134f5364bb35a3ced65acfd32c187ae3", func := "picklock/picklocklaw04.PlacePuts", spec := "placePuts", unfollowed := true, recurses := true, loops := true, apart := false }
def PlacePutsSaid : Prop := placePutsRow.holds Try.pinned (OpenSpec.ofChange placePutsSpec)

/-- ITS FALSE NEIGHBOUR: 'it returns false'. Refute it at one input. -/
def placePutsWrong : ChangeSpec := { name := "placePuts", fn := fun _ => fun
  | [d1, d2, d3] => { results := [.lit (.bool false)], args := [d1, d2, d3] }
  | _ => none }
def PlacePutsWrongFalsely : Prop := placePutsRow.holds Try.pinned (OpenSpec.ofChange placePutsWrong)

/-- 'picklocklaw04.PlaceApart': WHATEVER THE INPUT: true; the input reads as it did. -/
def placeApartSpec : ChangeSpec := { name := "placeApart", fn := fun _ => fun
  | [d1, d2, d3, d4, d5] => { results := [.lit (.bool true)], args := [d1, d2, d3, d4, d5] }
  | _ => none }
def placeApartRow : OpenClaim := { program := "ytniikfihfeledaa", sum := "52436a0598cd2920645e1fc903204f80134f5364bb35a3ced65acfd32c187ae3", func := "picklock/picklocklaw04.PlaceApart", spec := "placeApart", unfollowed := true, recurses := true, loops := true, apart := false }
def PlaceApartSaid : Prop := placeApartRow.holds Try.pinned (OpenSpec.ofChange placeApartSpec)

/-- ITS FALSE NEIGHBOUR: 'it returns false'. Refute it at one input. -/
def placeApartWrong : ChangeSpec := { name := "placeApart", fn := fun _ => fun
  | [d1, d2, d3, d4, d5] => { results := [.lit (.bool false)], args := [d1, d2, d3, d4, d5] }
  | _ => none }
def PlaceApartWrongFalsely : Prop := placeApartRow.holds Try.pinned (OpenSpec.ofChange placeApartWrong)

/-- 'picklocklaw04.PlaceLists': WHATEVER THE INPUT: true; the input reads as it did. -/
def placeListsSpec : ChangeSpec := { name := "placeLists", fn := fun _ => fun
  | [d] => { results := [.lit (.bool true)], args := [d] }
  | _ => none }
def placeListsRow : OpenClaim := { program := "ytniikfihfeledaa", sum := "52436a0598cd2920645e1fc903204f80134f5364bb35a3ced65acfd32c187ae3", func := "picklock/picklocklaw04.PlaceLists", spec := "placeLists", unfollowed := true, recurses := true, loops := true, apart := false }
def PlaceListsSaid : Prop := placeListsRow.holds Try.pinned (OpenSpec.ofChange placeListsSpec)

/-- ITS FALSE NEIGHBOUR: 'it returns false'. Refute it at one input. -/
def placeListsWrong : ChangeSpec := { name := "placeLists", fn := fun _ => fun
  | [d] => { results := [.lit (.bool false)], args := [d] }
  | _ => none }
def PlaceListsWrongFalsely : Prop := placeListsRow.holds Try.pinned (OpenSpec.ofChange placeListsWrong)

/-- 'picklocklaw04.PlaceOrders': WHATEVER THE INPUT: true; the input reads as it did. -/
def placeOrdersSpec : ChangeSpec := { name := "placeOrders", fn := fun _ => fun
  | [d1, d2, d3, d4] => { results := [.lit (.bool true)], args := [d1, d2, d3, d4] }
  | _ => none }
def placeOrdersRow : OpenClaim := { program := "ytniikfihfeledaa", sum := "52436a0598cd2920645e1fc903204f80134f5364bb35a3ced65acfd32c187ae3", func := "picklock/picklocklaw04.PlaceOrders", spec := "placeOrders", unfollowed := true, recurses := true, loops := true, apart := false }
def PlaceOrdersSaid : Prop := placeOrdersRow.holds Try.pinned (OpenSpec.ofChange placeOrdersSpec)

/-- ITS FALSE NEIGHBOUR: 'it returns false'. Refute it at one input. -/
def placeOrdersWrong : ChangeSpec := { name := "placeOrders", fn := fun _ => fun
  | [d1, d2, d3, d4] => { results := [.lit (.bool false)], args := [d1, d2, d3, d4] }
  | _ => none }
def PlaceOrdersWrongFalsely : Prop := placeOrdersRow.holds Try.pinned (OpenSpec.ofChange placeOrdersWrong)

/- THE SECOND FORM. 'bulk': how many values and letters a reading holds, each counted each time it is reached (what is shared counts as often as it is met; a slice's spare places count too). A statement '..UptoSaid' is the law's where the arguments, and the package variables that the reading takes, are together of bulk at most 1048576: NARROWER than '..Said'. Prove '..Said' where nothing that the law and all that it calls make is longer than what came in: it says more and counts as full. Else prove '..UptoSaid'. A law counts once. -/
mutual
def uptoBulk {H : Type} : DataW H → Nat
  | .lit (.string bytes) => bytes.length + 1
  | .lit _ => 1
  | .nil => 1
  | .ptr d => uptoBulk d + 1
  | .slice elems spare => uptoBulkAll elems + uptoBulkAll spare + 1
  | .agg parts => uptoBulkAll parts + 1
  | .iface _ d => uptoBulk d + 1
  | .map entries => uptoBulkEntries entries + 1
  | .held _ => 1
def uptoBulkAll {H : Type} : List (DataW H) → Nat
  | [] => 0
  | d :: r => uptoBulk d + uptoBulkAll r
def uptoBulkEntries {H : Type} : List (Lit × DataW H) → Nat
  | [] => 0
  | x :: r => uptoBulkEntry x + uptoBulkEntries r
def uptoBulkEntry {H : Type} : Lit × DataW H → Nat
  | (.string bytes, d) => bytes.length + uptoBulk d + 1
  | (_, d) => uptoBulk d + 1
 end
def uptoSmall : (H : Type) → List (DataW H) → Bool := fun _ ds => decide (uptoBulkAll ds ≤ 1048576)
def OpenSpec.upto (s : _root_.Go.ChangeSpec) : _root_.Go.OpenSpec := { _root_.Go.OpenSpec.ofChange s with cond := some uptoSmall }

/-- 'picklocklaw04.PlaceStands', WHERE WHAT IT READS IS OF BULK AT MOST 1048576: true; the input reads as it did. -/
def placeStandsUptoRow : OpenClaim := { program := "ytniikfihfeledaa", sum := "52436a0598cd2920645e1fc903204f80134f5364bb35a3ced65acfd32c187ae3", func := "picklock/picklocklaw04.PlaceStands", spec := "placeStands", unfollowed := true, recurses := true, loops := true, apart := false, narrowed := true }
def PlaceStandsUptoSaid : Prop := placeStandsUptoRow.holds Try.pinned (OpenSpec.upto placeStandsSpec)

/-- 'picklocklaw04.PlacePuts', WHERE WHAT IT READS IS OF BULK AT MOST 1048576: true; the input reads as it did. -/
def placePutsUptoRow : OpenClaim := { program := "ytniikfihfeledaa", sum := "52436a0598cd2920645e1fc903204f80134f5364bb35a3ced65acfd32c187ae3", func := "picklock/picklocklaw04.PlacePuts", spec := "placePuts", unfollowed := true, recurses := true, loops := true, apart := false, narrowed := true }
def PlacePutsUptoSaid : Prop := placePutsUptoRow.holds Try.pinned (OpenSpec.upto placePutsSpec)

/-- 'picklocklaw04.PlaceApart', WHERE WHAT IT READS IS OF BULK AT MOST 1048576: true; the input reads as it did. -/
def placeApartUptoRow : OpenClaim := { program := "ytniikfihfeledaa", sum := "52436a0598cd2920645e1fc903204f80134f5364bb35a3ced65acfd32c187ae3", func := "picklock/picklocklaw04.PlaceApart", spec := "placeApart", unfollowed := true, recurses := true, loops := true, apart := false, narrowed := true }
def PlaceApartUptoSaid : Prop := placeApartUptoRow.holds Try.pinned (OpenSpec.upto placeApartSpec)

/-- 'picklocklaw04.PlaceLists', WHERE WHAT IT READS IS OF BULK AT MOST 1048576: true; the input reads as it did. -/
def placeListsUptoRow : OpenClaim := { program := "ytniikfihfeledaa", sum := "52436a0598cd2920645e1fc903204f80134f5364bb35a3ced65acfd32c187ae3", func := "picklock/picklocklaw04.PlaceLists", spec := "placeLists", unfollowed := true, recurses := true, loops := true, apart := false, narrowed := true }
def PlaceListsUptoSaid : Prop := placeListsUptoRow.holds Try.pinned (OpenSpec.upto placeListsSpec)

/-- 'picklocklaw04.PlaceOrders', WHERE WHAT IT READS IS OF BULK AT MOST 1048576: true; the input reads as it did. -/
def placeOrdersUptoRow : OpenClaim := { program := "ytniikfihfeledaa", sum := "52436a0598cd2920645e1fc903204f80134f5364bb35a3ced65acfd32c187ae3", func := "picklock/picklocklaw04.PlaceOrders", spec := "placeOrders", unfollowed := true, recurses := true, loops := true, apart := false, narrowed := true }
def PlaceOrdersUptoSaid : Prop := placeOrdersUptoRow.holds Try.pinned (OpenSpec.upto placeOrdersSpec)

end Rows
end Go.Proofs.Ytniikfihfeledaa
