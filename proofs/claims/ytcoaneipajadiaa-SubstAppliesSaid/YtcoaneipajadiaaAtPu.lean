/-
  What stands at a place, as data; the zero term; what a call leaves that answers a term, or none. No function of the program.
-/
import Derived.Test.YtcoaneipajadiaaNums
import Derived.Test.YtcoaneipajadiaaAllTm
namespace Go.Proofs.Ytcoaneipajadiaa
open Go.RowKit

/-- The zero term. -/
def zeroT : Tm := .mk 0 ⟨#[]⟩ 0 []
def zeroV : Tv := ⟨zeroT, none, 0⟩
theorem zeroV_ok (w : World) : zeroV.ok w := by refine ⟨⟨?_, ?_, ?_, ?_, ?_⟩, ?_, .inl rfl⟩ <;> decide
/-- What stands at a place, if there is such a place. -/
def atT : Tm → List Int → Option Tm
  | t, [] => some t
  | t, i :: r => if h : 0 ≤ i ∧ i < t.args.length then atT (t.args[i.toNat]'(by omega)) r else none
theorem atT_nil (t : Tm) : atT t [] = some t := by rw [atT]
theorem atT_in {t : Tm} {j : Nat} {r : List Int} (h : j < t.args.length) : atT t ((j : Int) :: r) = atT t.args[j] r := by
  rw [atT, dif_pos (by omega)]; simp
theorem atT_out {t : Tm} {i : Int} {r : List Int} (h : ¬ (0 ≤ i ∧ i < t.args.length)) : atT t (i :: r) = none := by rw [atT, dif_neg h]

/-- What a call of At leaves. -/
def AtPost (o : Option Tm) (w0 w : World) (e : Ending) (w' : World) : Prop :=
  ∃ y : Tv, e = .returned (.tuple #[y.val, .bool o.isSome]) ∧ y.t = o.getD zeroT ∧ y.ok w0 ∧ Below w.heap.size w w'
end Go.Proofs.Ytcoaneipajadiaa
