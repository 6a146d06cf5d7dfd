/-
  How many parts a term has, up to a bound, by the reference of layer 3: count, for any term in memory. (as data)
-/
import Derived.Test.YtmpaljmkfnpcpaaDoorBase
namespace Go.Proofs.YtmpaljmkfnpcpaaDoor
open Go.RowKit

/-- So many, or one more than the most. -/
def cnt (p : Nat) (most : Int) : Int := if (p : Int) ≤ most then p else most + 1
theorem cnt_in {p : Nat} {most : Int} (h : (p : Int) ≤ most) : cnt p most = p := by unfold cnt; rw [if_pos h]
theorem cnt_out {p : Nat} {most : Int} (h : ¬ (p : Int) ≤ most) : cnt p most = most + 1 := by unfold cnt; rw [if_neg h]
theorem cnt_one {most : Int} (h : 0 ≤ most) : cnt 1 most = 1 := by unfold cnt; split <;> omega
theorem cnt_step {p q : Nat} {most : Int} (_h : (p : Int) ≤ most) : (p : Int) + cnt q (most - p) = cnt (p + q) most := by
  by_cases hq : (q : Int) ≤ most - p
  · rw [cnt_in hq, cnt_in (by omega)]; omega
  · rw [cnt_out hq, cnt_out (by omega)]; omega
theorem cnt_bd {p : Nat} {most : Int} (h : 0 ≤ most) : 0 ≤ cnt p most ∧ cnt p most ≤ most + 1 := by
  unfold cnt; split <;> omega
end Go.Proofs.YtmpaljmkfnpcpaaDoor
