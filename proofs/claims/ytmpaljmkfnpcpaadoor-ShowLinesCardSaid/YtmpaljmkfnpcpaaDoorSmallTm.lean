/-
  Whether a term is small, by the reference of layer 3: Small.
-/
import Derived.Test.YtmpaljmkfnpcpaaDoorWithTm
namespace Go.Proofs.YtmpaljmkfnpcpaaDoor
open Go.RowKit

set_option maxHeartbeats 400000 in
theorem small_tm (x : Tv) (w : World) (hx : x.ok w) :
    Calls Tryd.prog 5 #[x.val] w fun e w' => e = .returned (.bool (smallB x.t)) ∧ Below w.heap.size w w' := by
  have W := Lib.hid (fun w hx => within_tm x 300 (by omega) (by omega) w hx)
  have HX := Lib.hid hx
  have HB := Lib.hid (show withinB x.t 300 = smallB x.t from rfl)
  clear hx
  obtain ⟨t, a, c⟩ := x
  simp only [Tv.val] at W ⊢
  go_enter Tryd.func5, Tryd.ntmps5
  go_wp2_with fail
  refine (W.out _ (HX.out.below ((Below.refl _ _).alloc (Nat.le_refl _) _))).mono ?_; rintro e w1 ⟨rfl, hb1⟩
  have hb := below_box hb1
  clear hb1
  go_wp2_with fail
  go_ret
  exact ⟨ret_bool HB.out, hb⟩

end Go.Proofs.YtmpaljmkfnpcpaaDoor
