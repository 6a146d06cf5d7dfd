/-
  The binds by which any pattern is any term: the law answers true.
-/
import Derived.Test.YtcecbdglepneaaaLawFi6
import Derived.Test.YtcecbdglepneaaaPMatch
namespace Go.Proofs.Ytcecbdglepneaaa
open Go.RowKit

theorem lawFinds_any (v : Value) (bs : List Bn) (x y : Tv) (w : World) (hv : Bds w v bs) (hx : x.ok w) (hy : y.ok w) :
    Calls Try.prog 3 #[v, x.val, y.val] w fun e w' => e = .returned (.bool true) ∧ Below w.heap.size w w' :=
  lawFinds_of6 (fun x y v l w hx hy hv hl h1 _ => pmore_any x y v l w hx hy hv (by omega)) (fun x y w hx hy h1 _ => pmatch_any x y w hx hy (by omega)) (fun x y w hx hy h1 _ => pinstance_any x y w hx hy (by omega)) v bs x y w hv hx hy
end Go.Proofs.Ytcecbdglepneaaa
