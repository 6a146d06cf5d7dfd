/-
  Any name, or the first one made of it that is not used: the law answers true.
-/
import Derived.Test.YtlbdlehlgalomaaDoorPFresh8
namespace Go.Proofs.YtlbdlehlgalomaaDoor
open Go.RowKit

theorem lawFresh8_any (s : ByteArray) (v : Value) (zs : List ByteArray) (w : World) (hT : Pow w) (hv : Txts w v zs) :
    Calls Tryd.prog 3 #[.string s, v] w fun e w' => e = .returned (.bool true) ∧ Below w.heap.size w w' :=
  lawFresh8_of w (askFresh_any w hT) s v zs hv
end Go.Proofs.YtlbdlehlgalomaaDoor
