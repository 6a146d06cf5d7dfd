/-
  Chapter 3's example, and the law of the order, at the program: no premise is left but that the listed table lies.
-/
import Derived.Test.YtpdbnhhpibpbnaaDoorAwakeTm
import Derived.Test.YtpdbnhhpibpbnaaDoorPShowTm
import Derived.Test.YtpdbnhhpibpbnaaDoorPMakeTm
import Derived.Test.YtpdbnhhpibpbnaaDoorPDepthTm
import Derived.Test.YtpdbnhhpibpbnaaDoorPAmongTm
namespace Go.Proofs.YtpdbnhhpibpbnaaDoor
open Go.RowKit

theorem awake_any (w : World) (hP : Pow w) : Calls Tryd.prog 8 #[] w fun e w' => e = .returned (.bool true) ∧ Below w.heap.size w w' :=
  awake_of w pvar_any pfun_any (fun x w' hb hx _ hw => pshow_tm x w' hx (hP.below hb) (by omega)) (fun x w hx hp => psize_tm x w hx (by omega)) (fun x w hx hp => pdepth_tm x.t.parts x w (Nat.le_refl _) (by omega) hx)
    (fun x y w hx hy hp hq => phas_tm x y w hx hy (by omega) (by omega)) (fun x w hx _ => pground_tm x w hx)
end Go.Proofs.YtpdbnhhpibpbnaaDoor
