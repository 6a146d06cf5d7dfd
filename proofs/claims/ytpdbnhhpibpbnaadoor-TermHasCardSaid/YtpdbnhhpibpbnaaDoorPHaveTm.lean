/-
  The law of what is in a term, at the program.
-/
import Derived.Test.YtpdbnhhpibpbnaaDoorPAwakeTm
import Derived.Test.YtpdbnhhpibpbnaaDoorPVarsTm
import Derived.Test.YtpdbnhhpibpbnaaDoorLawTmHas
namespace Go.Proofs.YtpdbnhhpibpbnaaDoor
open Go.RowKit
theorem lawHas_any (x y : Tv) (w : World) (hP : Pow w) (hx : x.ok w) (hy : y.ok w) :
    Calls Tryd.prog 6 #[x.val, y.val] w fun e w' => e = .returned (.bool true) ∧ Below w.heap.size w w' :=
  lawHas_of w (fun w' hb => awake_any w' (hP.below hb)) (fun x w hx hp => pvars_tm x w hx (by omega)) (fun x w hx _ => pground_tm x w hx)
    (fun x y w hx hy hp hq => phas_tm x y w hx hy (by omega) (by omega)) (fun x y w hx hy hp hq => pproper_tm x y w hx hy (by omega) (by omega)) x y hx hy
end Go.Proofs.YtpdbnhhpibpbnaaDoor
