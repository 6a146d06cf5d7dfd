/-
  Terms that are made: Of of the reference of layer 3.
-/
import Derived.Test.YtmpaljmkfnpcpaaDoorTm
namespace Go.Proofs.YtmpaljmkfnpcpaaDoor
open Go.RowKit

set_option maxHeartbeats 400000 in
theorem of_any (k : Int) (s : ByteArray) (n : Int) (a : Option Addr) (l c : Nat) (w : World) :
    Calls Tryd.prog 30 #[.int .i64 k, .string s, .int .i64 n, .slice a l c] w fun e w' => e = .returned (.agg #[.int .i64 k, .string s, .int .i64 n, .slice a l c]) ∧ Below w.heap.size w w' := by
  go_enter Tryd.func30, Tryd.ntmps30
  go_wp2_with fail
  exact bodyPost_ret (v := .agg #[.int .i64 k, .string s, .int .i64 n, .slice a l c]) (by simp [results, Tryd.results30, go_sem]) rfl ⟨rfl, (Below.refl _ _).alloc (Nat.le_refl _) _⟩
end Go.Proofs.YtmpaljmkfnpcpaaDoor
