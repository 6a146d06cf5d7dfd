/-
  The set that goes with a row of names, as data. No function of the program.
-/
import Derived.Test.YtlbdlehlgalomaaDoorBase
import Derived.Maps.OwnSet
import Derived.Maps.Views
import Derived.StringKeys
namespace Go.Proofs.YtlbdlehlgalomaaDoor
open Go.RowKit

/-- The set that goes with a row of names. -/
def nameSet (zs : List ByteArray) : DataW Unit := Maps.setOf (.agg []) (zs.map fun s => Lit.string s.data.toList)
theorem nameSet_has (zs : List ByteArray) (s : ByteArray) : Maps.has (nameSet zs) (.string s.data.toList) = Lib.containsS zs s := by
  unfold nameSet
  rw [Maps.has_setOf _ _ _ (by
    intro x hx
    obtain ⟨z, _, rfl⟩ := List.mem_map.1 hx
    simp [WideAt.IsKeyLit])]
  rw [Bool.eq_iff_iff, List.any_eq_true, Lib.containsS_iff]
  constructor
  · rintro ⟨x, hx, he⟩
    obtain ⟨z, hz, rfl⟩ := List.mem_map.1 hx
    have e : z.data.toList = s.data.toList := by simpa [Lit.sameKey] using he
    have : z = s := by
      apply ByteArray.ext; apply Array.ext'; exact e
    rw [← this]; exact hz
  · intro h
    exact ⟨_, List.mem_map.2 ⟨s, h, rfl⟩, by simp [Lit.sameKey]⟩
theorem nameSet_put (zs : List ByteArray) (s : ByteArray) : (nameSet zs).put (.string s.data.toList) (.agg []) = nameSet (zs ++ [s]) := by
  unfold nameSet
  rw [List.map_append, ← Maps.setOf_snoc]; rfl
/-- New memory alone. -/
theorem grown_of_below {w w' : World} (h : Below w.heap.size w w') : w.grownBy w' none := ⟨h.os, h.tape, h.output, h.size, fun k hk _ => h.block k hk⟩
end Go.Proofs.YtlbdlehlgalomaaDoor
