/-
  The program's types are laid out in memory. Nothing of its functions.
-/
import Derived.Test.YtmpaljmkfnpcpaaDoorRows
import Derived.Deep.Slices
import Derived.ChangeSame
import Derived.Carry
import Derived.OpenShut
namespace Go.Proofs.YtmpaljmkfnpcpaaDoor
open Go.ChangeShapes Go.WideShapes Go.RowKit Go.Deep

theorem laidOut : laidOutB Tryd.prog = true := by kernel_rfl
end Go.Proofs.YtmpaljmkfnpcpaaDoor
