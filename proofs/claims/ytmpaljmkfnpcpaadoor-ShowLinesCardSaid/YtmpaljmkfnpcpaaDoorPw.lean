/-
  What the listed table of powers of ten gives a walk.
-/
import Derived.Test.YtmpaljmkfnpcpaaDoorBase
import Derived.Test.YtmpaljmkfnpcpaaDoorLai0
import Derived.Test.YtmpaljmkfnpcpaaDoorRows
import Derived.WalkKit
import Derived.ProofKit
import Derived.Lib.Hide
import Derived.Stop.LaidErr
import Derived.WalkSmall
import Derived.Deep.DeepHandedRow
import Derived.Lib.LaidTab
import Derived.MakeChecks
import Derived.Lib.ItoaLen
namespace Go.Proofs.YtmpaljmkfnpcpaaDoor
open Go.RowKit

/-- What the contract of strconv.Itoa asks of a world. -/
structure Pow (w : World) : Prop where
  pow : Lib.TabIs Tryd.prog w "internal/strconv.uint64pow10" .u64 Lib.pow10Tab
  size : 1 < w.heap.size
theorem Pow.below {w w' : World} (h : Pow w) (hb : Below w.heap.size w w') : Pow w' where
  pow := by
    have h1 := h.pow
    unfold Lib.TabIs World.var? at h1 ⊢
    rw [gPow] at h1 ⊢
    simp only [Option.bind_some] at h1 ⊢
    rw [hb.block _ h.size]
    exact h1
  size := Nat.lt_of_lt_of_le h.size hb.size
theorem pow_of {l : List (String × DataW Unit)} {w : World} (h : laidMetH Tryd.prog l w) (hp : (l.all fun x => x.2.handleName?.isNone) = true)
    (h1 : ("internal/strconv.uint64pow10", Rows.laid_internal_strconv_uint64pow10) ∈ l) : Pow w := by
  rw [MakeChecks.laidMetH_plain _ _ _ hp] at h
  have a1 : Lib.TabIs Tryd.prog w "internal/strconv.uint64pow10" .u64 Lib.pow10Tab :=
    Lib.tabIs_of_head (rest := []) gPow gPowType Tryd.underlying88 Tryd.underlying69 cellsU64 cellsPow (laidMet_one h h1)
  exact ⟨a1, lt_of_var gPow a1⟩
end Go.Proofs.YtmpaljmkfnpcpaaDoor
