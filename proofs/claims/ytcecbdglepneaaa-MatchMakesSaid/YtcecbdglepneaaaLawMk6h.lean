/-
  What a match finds makes the pattern the term; what is put into a pattern is matched: the law answers true.
-/
import Derived.Test.YtcecbdglepneaaaLawMk6
import Derived.Test.YtcecbdglepneaaaPMatch
import Derived.Test.YtcecbdglepneaaaPApply
namespace Go.Proofs.Ytcecbdglepneaaa
open Go.RowKit

theorem lawMakes_any (v : Value) (bs : List Bn) (x y : Tv) (w : World) (hv : Bds w v bs) (hx : x.ok w) (hy : y.ok w) :
    Calls Try.prog 4 #[v, x.val, y.val] w fun e w' => e = .returned (.bool true) ∧ Below w.heap.size w w' :=
  lawMakes_of6 (fun x y w hx hy h1 _ => pmatch_any x y w hx hy (by omega))
    (fun v bs x w hv hl hx hp => (apply_bd v bs x w w hv hl hx hp (Below.refl _ _)).mono fun e w' ⟨z, h1, h2, h3, h4⟩ => ⟨z.t, z.a, z.c, h1, h2, h3.ok h4, h4⟩) v bs x y w hv hx hy
end Go.Proofs.Ytcecbdglepneaaa
