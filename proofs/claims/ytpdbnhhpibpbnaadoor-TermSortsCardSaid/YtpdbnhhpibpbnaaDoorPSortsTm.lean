/-
  The law of sorted rows, at the program.
-/
import Derived.Test.YtpdbnhhpibpbnaaDoorPAwakeTm
import Derived.Test.YtpdbnhhpibpbnaaDoorPSetTm
import Derived.Test.YtpdbnhhpibpbnaaDoorLawTmSorts
namespace Go.Proofs.YtpdbnhhpibpbnaaDoor
open Go.RowKit
theorem lawSorts_any (v : Value) (ts : List Tm) (w : World) (hP : Pow w) (hv : Tms w v ts) :
    Calls Tryd.prog 5 #[v] w fun e w' => e = .returned (.bool true) ∧ Below w.heap.size w w' :=
  lawSorts_of w (fun w' hb => awake_any w' (hP.below hb))
    (fun v ts w hv hl _ => (psort_tm v ts w hv (by omega)).mono fun _ _ ⟨u, he, ho, _, hb⟩ => ⟨u, he, ho.tms hb (by rw [sortL_len]; omega), hb⟩)
    (fun v ts w hv hl _ => pset_tm v ts w hv (by omega)) v ts hv
end Go.Proofs.YtpdbnhhpibpbnaaDoor
