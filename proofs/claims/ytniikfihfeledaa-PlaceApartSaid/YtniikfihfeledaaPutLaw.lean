/-
  How many parts a term has behind a put; and what the law of Put asks of data.
-/
import Derived.Test.YtniikfihfeledaaRPutF
import Derived.Test.YtniikfihfeledaaAwakePl
import Derived.Test.YtniikfihfeledaaSmallTm
import Derived.Test.YtniikfihfeledaaSameTm
import Derived.Test.YtniikfihfeledaaShowTm
namespace Go.Proofs.Ytniikfihfeledaa
open Go.RowKit

theorem partsL_set : ∀ (l : List Tm) (j : Nat) (a : Tm) (hj : j < l.length), partsL (l.set j a) + l[j].parts = partsL l + a.parts
  | [], _, _, h => by simp at h
  | t :: r, 0, a, _ => by rw [List.set_cons_zero, partsL_cons, partsL_cons]; simp; omega
  | t :: r, j + 1, a, h => by
    have := partsL_set r j a (by simpa using h)
    rw [List.set_cons_succ, partsL_cons, partsL_cons]
    simp only [List.getElem_cons_succ]; omega
theorem putO_parts {x : Tm} : ∀ (p : List Int) {t u : Tm}, putO t p x = some u → u.parts ≤ t.parts + x.parts
  | [], t, u, h => by rw [putO_nil] at h; cases h; omega
  | i :: r, t, u, h => by
    obtain ⟨j, hj, a, rfl, ha, rfl⟩ := putO_some h
    have h1 := putO_parts r ha
    have h2 := partsL_set t.args j a hj
    rw [parts_eq t, parts_eq (.mk _ _ _ _), args_mk]
    omega
theorem small_wt {t : Tm} (h : smallB t = true) : wtT t ≤ 1000000 := by
  have h1 := wtT_small t (within_names h)
  have h2 := small_parts h
  omega
end Go.Proofs.Ytniikfihfeledaa
