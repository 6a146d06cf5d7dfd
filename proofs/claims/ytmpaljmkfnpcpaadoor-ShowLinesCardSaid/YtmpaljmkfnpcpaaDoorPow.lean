/-
  A number in decimal, by the program's Digits (the table of powers of ten: Pw).
-/
import Derived.Test.YtmpaljmkfnpcpaaDoorPw
import Derived.Test.YtmpaljmkfnpcpaaDoorShelf
namespace Go.Proofs.YtmpaljmkfnpcpaaDoor
open Go.RowKit

set_option maxHeartbeats 400000 in
theorem pdigits_any (n : Int) (h0 : -9223372036854775808 ≤ n) (h1 : n ≤ 9223372036854775807) (w : World) (hT : Pow w) :
    Calls Tryd.prog 28 #[.int .i64 n] w fun e w' => e = .returned (.string ⟨(Lib.itoa n).toArray⟩) ∧ Below w.heap.size w w' := by
  have c := Tryd.strconv_Itoa n h0 h1 w hT.pow
  have C := Lib.hid c
  clear c hT
  go_enter Tryd.func28, Tryd.ntmps28
  go_wp2_with (go_at_call 36; refine C.out.mono ?_; rintro e w' ⟨rfl, k, os, rfl⟩)
  go_ret
  exact ⟨rfl, below_grow _ _ _⟩
end Go.Proofs.YtmpaljmkfnpcpaaDoor
