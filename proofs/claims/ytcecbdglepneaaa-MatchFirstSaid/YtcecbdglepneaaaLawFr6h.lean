/-
  The first of any patterns that any term is an instance of; whether two terms are instances of each other: the law answers true.
-/
import Derived.Test.YtcecbdglepneaaaLawFr6
import Derived.Test.YtcecbdglepneaaaPFirst
namespace Go.Proofs.Ytcecbdglepneaaa
open Go.RowKit

theorem lawFirst_any (va : Value) (ps : List Tm) (x y : Tv) (w : World) (ha : Tms w va ps) (hx : x.ok w) (hy : y.ok w) :
    Calls Try.prog 6 #[va, x.val, y.val] w fun e w' => e = .returned (.bool true) ∧ Below w.heap.size w w' :=
  lawFirst_of6 (fun x y w hx hy h1 _ => pmatch_any x y w hx hy (by omega)) (fun x y w hx hy h1 h2 => pvariant_any x y w hx hy (by omega) (by omega)) (fun va ps y w ha hy _ hp _ => pfirst_any va ps y w ha hy hp) va ps x y w ha hx hy
end Go.Proofs.Ytcecbdglepneaaa
