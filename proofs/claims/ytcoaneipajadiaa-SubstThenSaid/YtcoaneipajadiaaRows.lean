/-
  NARROWER THAN 'FOR EVERY INPUT', by the rows' own cells (each row's printed sentence says how): SubstBinds: loops · SubstSame: loops · SubstApplies: loops · SubstThen: loops · SubstHands: loops.
  DERIVED. THE GIVEN ROWS OF THIS SEAT. 5 by the template 'for every input the law returns true; each argument reads behind the call as it read before'; 0 by the template 'total and deterministic' (their statements: YtcoaneipajadiaaTotals.lean).
  GIVEN WITH THE SEED: the statements are not yours to turn. If you find one false, say at which input.
  Laid BY PROGRAM, IN A SANDBOX (cutbox-rows.mjs): the forced cells as the released guide's own fill.sh prints them over the translation 84e4d6e8eeae98a5… (all of the seat's roots in one cut). By AI agents, Wed Nov 11 2026. No macro, syntax, notation, axiom, sorry.
-/
import Derived.Test.YtcoaneipajadiaaChecked
import GoSem.Claim
import GoSem.ClaimJoined
import GoSem.ClaimMapViews
import Derived.JoinedTies
import Derived.KernelRfl
namespace Go.Proofs.Ytcoaneipajadiaa
/- THE CELL 'sum', in the pinned program and in every row, IS THE sha256 OF THE DUMP (.gsa) THAT YtcoaneipajadiaaProg.lean LOADS. Nothing in Lean hashes anything: it is a label: what it is worth is what the hold of that sum in a sandbox is worth. -/
noncomputable def Try.pinned : Pinned := { name := "ytcoaneipajadiaa", sum := "84e4d6e8eeae98a53815d177095edfa9e929edc62aacd1f93f6a356c5ca3bc21", checked := Try.checked }
namespace Rows
def none {H : Type} : Left H := { results := [], args := [] }

/-- 'picklocklaw05.SubstBinds': WHATEVER THE INPUT: true; the input reads as it did. -/
def substBindsSpec : ChangeSpec := { name := "substBinds", fn := fun _ => fun
  | [d1, d2, d3, d4] => { results := [.lit (.bool true)], args := [d1, d2, d3, d4] }
  | _ => none }
def substBindsRow : OpenClaim := { program := "ytcoaneipajadiaa", sum := "84e4d6e8eeae98a53815d177095edfa9e929edc62aacd1f93f6a356c5ca3bc21", func := "picklock/picklocklaw05.SubstBinds", spec := "substBinds", inPlace := ["internal/bytealg.abigen_runtime_cmpstring"], unfollowed := true, recurses := true, loops := true, apart := false }
def SubstBindsSaid : Prop := substBindsRow.holds Try.pinned (OpenSpec.ofChange substBindsSpec)

/-- ITS FALSE NEIGHBOUR: 'it returns false'. Refute it at one input. -/
def substBindsWrong : ChangeSpec := { name := "substBinds", fn := fun _ => fun
  | [d1, d2, d3, d4] => { results := [.lit (.bool false)], args := [d1, d2, d3, d4] }
  | _ => none }
def SubstBindsWrongFalsely : Prop := substBindsRow.holds Try.pinned (OpenSpec.ofChange substBindsWrong)

/-- 'picklocklaw05.SubstSame': WHATEVER THE INPUT: true; the input reads as it did. -/
def substSameSpec : ChangeSpec := { name := "substSame", fn := fun _ => fun
  | [d1, d2] => { results := [.lit (.bool true)], args := [d1, d2] }
  | _ => none }
def substSameRow : OpenClaim := { program := "ytcoaneipajadiaa", sum := "84e4d6e8eeae98a53815d177095edfa9e929edc62aacd1f93f6a356c5ca3bc21", func := "picklock/picklocklaw05.SubstSame", spec := "substSame", inPlace := ["internal/bytealg.abigen_runtime_cmpstring"], unfollowed := true, recurses := true, loops := true, apart := false }
def SubstSameSaid : Prop := substSameRow.holds Try.pinned (OpenSpec.ofChange substSameSpec)

/-- ITS FALSE NEIGHBOUR: 'it returns false'. Refute it at one input. -/
def substSameWrong : ChangeSpec := { name := "substSame", fn := fun _ => fun
  | [d1, d2] => { results := [.lit (.bool false)], args := [d1, d2] }
  | _ => none }
def SubstSameWrongFalsely : Prop := substSameRow.holds Try.pinned (OpenSpec.ofChange substSameWrong)

/-- 'picklocklaw05.SubstApplies': WHATEVER THE INPUT: true; the input reads as it did. -/
def substAppliesSpec : ChangeSpec := { name := "substApplies", fn := fun _ => fun
  | [d1, d2] => { results := [.lit (.bool true)], args := [d1, d2] }
  | _ => none }
def substAppliesRow : OpenClaim := { program := "ytcoaneipajadiaa", sum := "84e4d6e8eeae98a53815d177095edfa9e929edc62aacd1f93f6a356c5ca3bc21", func := "picklock/picklocklaw05.SubstApplies", spec := "substApplies", inPlace := ["internal/bytealg.abigen_runtime_cmpstring"], unfollowed := true, recurses := true, loops := true, apart := false }
def SubstAppliesSaid : Prop := substAppliesRow.holds Try.pinned (OpenSpec.ofChange substAppliesSpec)

/-- ITS FALSE NEIGHBOUR: 'it returns false'. Refute it at one input. -/
def substAppliesWrong : ChangeSpec := { name := "substApplies", fn := fun _ => fun
  | [d1, d2] => { results := [.lit (.bool false)], args := [d1, d2] }
  | _ => none }
def SubstAppliesWrongFalsely : Prop := substAppliesRow.holds Try.pinned (OpenSpec.ofChange substAppliesWrong)

/-- 'picklocklaw05.SubstThen': WHATEVER THE INPUT: true; the input reads as it did. -/
def substThenSpec : ChangeSpec := { name := "substThen", fn := fun _ => fun
  | [d1, d2, d3] => { results := [.lit (.bool true)], args := [d1, d2, d3] }
  | _ => none }
def substThenRow : OpenClaim := { program := "ytcoaneipajadiaa", sum := "84e4d6e8eeae98a53815d177095edfa9e929edc62aacd1f93f6a356c5ca3bc21", func := "picklock/picklocklaw05.SubstThen", spec := "substThen", inPlace := ["internal/bytealg.abigen_runtime_cmpstring"], unfollowed := true, recurses := true, loops := true, apart := false }
def SubstThenSaid : Prop := substThenRow.holds Try.pinned (OpenSpec.ofChange substThenSpec)

/-- ITS FALSE NEIGHBOUR: 'it returns false'. Refute it at one input. -/
def substThenWrong : ChangeSpec := { name := "substThen", fn := fun _ => fun
  | [d1, d2, d3] => { results := [.lit (.bool false)], args := [d1, d2, d3] }
  | _ => none }
def SubstThenWrongFalsely : Prop := substThenRow.holds Try.pinned (OpenSpec.ofChange substThenWrong)

/-- 'picklocklaw05.SubstHands': WHATEVER THE INPUT: true; the input reads as it did. -/
def substHandsSpec : ChangeSpec := { name := "substHands", fn := fun _ => fun
  | [d1, d2] => { results := [.lit (.bool true)], args := [d1, d2] }
  | _ => none }
def substHandsRow : OpenClaim := { program := "ytcoaneipajadiaa", sum := "84e4d6e8eeae98a53815d177095edfa9e929edc62aacd1f93f6a356c5ca3bc21", func := "picklock/picklocklaw05.SubstHands", spec := "substHands", inPlace := ["internal/bytealg.abigen_runtime_cmpstring"], unfollowed := true, recurses := true, loops := true, apart := false }
def SubstHandsSaid : Prop := substHandsRow.holds Try.pinned (OpenSpec.ofChange substHandsSpec)

/-- ITS FALSE NEIGHBOUR: 'it returns false'. Refute it at one input. -/
def substHandsWrong : ChangeSpec := { name := "substHands", fn := fun _ => fun
  | [d1, d2] => { results := [.lit (.bool false)], args := [d1, d2] }
  | _ => none }
def SubstHandsWrongFalsely : Prop := substHandsRow.holds Try.pinned (OpenSpec.ofChange substHandsWrong)

/- THE SECOND FORM. 'bulk': how many values and letters a reading holds, each counted each time it is reached (what is shared counts as often as it is met; a slice's spare places count too). A statement '..UptoSaid' is the law's where the arguments, and the package variables that the reading takes, are together of bulk at most 1048576: NARROWER than '..Said'. Prove '..Said' where nothing that the law and all that it calls make is longer than what came in: it says more and counts as full. Else prove '..UptoSaid'. A law counts once. -/
mutual
def uptoBulk {H : Type} : DataW H → Nat
  | .lit (.string bytes) => bytes.length + 1
  | .lit _ => 1
  | .nil => 1
  | .ptr d => uptoBulk d + 1
  | .slice elems spare => uptoBulkAll elems + uptoBulkAll spare + 1
  | .agg parts => uptoBulkAll parts + 1
  | .iface _ d => uptoBulk d + 1
  | .map entries => uptoBulkEntries entries + 1
  | .held _ => 1
def uptoBulkAll {H : Type} : List (DataW H) → Nat
  | [] => 0
  | d :: r => uptoBulk d + uptoBulkAll r
def uptoBulkEntries {H : Type} : List (Lit × DataW H) → Nat
  | [] => 0
  | x :: r => uptoBulkEntry x + uptoBulkEntries r
def uptoBulkEntry {H : Type} : Lit × DataW H → Nat
  | (.string bytes, d) => bytes.length + uptoBulk d + 1
  | (_, d) => uptoBulk d + 1
 end
def uptoSmall : (H : Type) → List (DataW H) → Bool := fun _ ds => decide (uptoBulkAll ds ≤ 1048576)
def OpenSpec.upto (s : _root_.Go.ChangeSpec) : _root_.Go.OpenSpec := { _root_.Go.OpenSpec.ofChange s with cond := some uptoSmall }

/-- 'picklocklaw05.SubstBinds', WHERE WHAT IT READS IS OF BULK AT MOST 1048576: true; the input reads as it did. -/
def substBindsUptoRow : OpenClaim := { program := "ytcoaneipajadiaa", sum := "84e4d6e8eeae98a53815d177095edfa9e929edc62aacd1f93f6a356c5ca3bc21", func := "picklock/picklocklaw05.SubstBinds", spec := "substBinds", inPlace := ["internal/bytealg.abigen_runtime_cmpstring"], unfollowed := true, recurses := true, loops := true, apart := false, narrowed := true }
def SubstBindsUptoSaid : Prop := substBindsUptoRow.holds Try.pinned (OpenSpec.upto substBindsSpec)

/-- 'picklocklaw05.SubstSame', WHERE WHAT IT READS IS OF BULK AT MOST 1048576: true; the input reads as it did. -/
def substSameUptoRow : OpenClaim := { program := "ytcoaneipajadiaa", sum := "84e4d6e8eeae98a53815d177095edfa9e929edc62aacd1f93f6a356c5ca3bc21", func := "picklock/picklocklaw05.SubstSame", spec := "substSame", inPlace := ["internal/bytealg.abigen_runtime_cmpstring"], unfollowed := true, recurses := true, loops := true, apart := false, narrowed := true }
def SubstSameUptoSaid : Prop := substSameUptoRow.holds Try.pinned (OpenSpec.upto substSameSpec)

/-- 'picklocklaw05.SubstApplies', WHERE WHAT IT READS IS OF BULK AT MOST 1048576: true; the input reads as it did. -/
def substAppliesUptoRow : OpenClaim := { program := "ytcoaneipajadiaa", sum := "84e4d6e8eeae98a53815d177095edfa9e929edc62aacd1f93f6a356c5ca3bc21", func := "picklock/picklocklaw05.SubstApplies", spec := "substApplies", inPlace := ["internal/bytealg.abigen_runtime_cmpstring"], unfollowed := true, recurses := true, loops := true, apart := false, narrowed := true }
def SubstAppliesUptoSaid : Prop := substAppliesUptoRow.holds Try.pinned (OpenSpec.upto substAppliesSpec)

/-- 'picklocklaw05.SubstThen', WHERE WHAT IT READS IS OF BULK AT MOST 1048576: true; the input reads as it did. -/
def substThenUptoRow : OpenClaim := { program := "ytcoaneipajadiaa", sum := "84e4d6e8eeae98a53815d177095edfa9e929edc62aacd1f93f6a356c5ca3bc21", func := "picklock/picklocklaw05.SubstThen", spec := "substThen", inPlace := ["internal/bytealg.abigen_runtime_cmpstring"], unfollowed := true, recurses := true, loops := true, apart := false, narrowed := true }
def SubstThenUptoSaid : Prop := substThenUptoRow.holds Try.pinned (OpenSpec.upto substThenSpec)

/-- 'picklocklaw05.SubstHands', WHERE WHAT IT READS IS OF BULK AT MOST 1048576: true; the input reads as it did. -/
def substHandsUptoRow : OpenClaim := { program := "ytcoaneipajadiaa", sum := "84e4d6e8eeae98a53815d177095edfa9e929edc62aacd1f93f6a356c5ca3bc21", func := "picklock/picklocklaw05.SubstHands", spec := "substHands", inPlace := ["internal/bytealg.abigen_runtime_cmpstring"], unfollowed := true, recurses := true, loops := true, apart := false, narrowed := true }
def SubstHandsUptoSaid : Prop := substHandsUptoRow.holds Try.pinned (OpenSpec.upto substHandsSpec)

end Rows
end Go.Proofs.Ytcoaneipajadiaa
