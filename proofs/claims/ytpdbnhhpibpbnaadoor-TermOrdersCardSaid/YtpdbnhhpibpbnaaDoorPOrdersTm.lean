/-
  The law of the order, at the program.
-/
import Derived.Test.YtpdbnhhpibpbnaaDoorPAwakeTm
import Derived.Test.YtpdbnhhpibpbnaaDoorLawTmOrders
namespace Go.Proofs.YtpdbnhhpibpbnaaDoor
open Go.RowKit
theorem lawOrders_any (x y z : Tv) (w : World) (hP : Pow w) (hx : x.ok w) (hy : y.ok w) (hz : z.ok w) :
    Calls Tryd.prog 4 #[x.val, y.val, z.val] w fun e w' => e = .returned (.bool true) ∧ Below w.heap.size w w' :=
  lawOrders_of w (fun w' hb => awake_any w' (hP.below hb)) (fun x y w hx hy _ _ => (pcompare_tm x.t.parts x y w (Nat.le_refl _) hx hy).mono fun _ _ h => ⟨h.1, h.2.below⟩) (fun x y w hx hy _ _ => (psame_tm x y w hx hy).mono fun _ _ h => ⟨h.1, h.2.below⟩) x y z hx hy hz
end Go.Proofs.YtpdbnhhpibpbnaaDoor
