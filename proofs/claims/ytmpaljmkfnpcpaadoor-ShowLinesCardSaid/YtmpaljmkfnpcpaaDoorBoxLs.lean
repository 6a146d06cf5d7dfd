/-
  Boxes of any number of cells. No function of the program.
-/
import Derived.Test.YtmpaljmkfnpcpaaDoorBase
namespace Go.Proofs.YtmpaljmkfnpcpaaDoor
open Go.RowKit

structure BoxL (w : World) (g : Nat) (xs : List Value) : Prop where
  cell : ∀ i x, xs[i]? = some x → w.cell? ⟨g, i, none⟩ = some x
  free : ∀ i x, xs[i]? = some x → w.frozen? ⟨g, i, none⟩ = false
theorem boxL_new (w : World) (xs : List Value) (t : TypeId) : BoxL (w.alloc (.cells xs.toArray t)) w.heap.size xs := by
  refine ⟨fun i x h => ?_, fun i x h => World.frozen?_alloc_new _ _ _ _⟩
  have := World.cell?_alloc_mark w xs.toArray t (0, 0) i
  rw [this]; simpa using h
theorem BoxL.block {w w1 : World} {g : Nat} {xs : List Value} (h : BoxL w g xs) (hk : w1.heap[g]? = w.heap[g]?) : BoxL w1 g xs :=
  ⟨fun i x e => (World.cell?_of_block hk).trans (h.cell i x e), fun i x e => (World.frozen?_of_block hk).trans (h.free i x e)⟩
theorem BoxL.below {w w1 : World} {g B : Nat} {xs : List Value} (h : BoxL w g xs) (hb : Below B w w1) (hg : g < B) : BoxL w1 g xs := h.block (hb.block g hg)
theorem BoxL.put {w : World} {g : Nat} {xs : List Value} (h : BoxL w g xs) (j : Nat) (y : Value) (hj : j < xs.length) : BoxL (w.setCell ⟨g, j, none⟩ y) g (xs.set j y) := by
  have hold := List.getElem?_eq_getElem hj
  refine ⟨fun i x e => ?_, fun i x e => ?_⟩
  · by_cases hij : i = j
    · subst hij
      rw [List.getElem?_set_self hj] at e
      cases e
      exact World.cell?_setCell_same _ _ _ (h.cell _ _ hold)
    · rw [List.getElem?_set_ne (fun q => hij q.symm)] at e
      exact (World.cell?_setCell_other _ _ _ _ (fun q => hij (by cases q; rfl))).trans (h.cell i x e)
  · rw [World.frozen?_setCell]
    by_cases hij : i = j
    · subst hij; exact h.free _ _ hold
    · rw [List.getElem?_set_ne (fun q => hij q.symm)] at e; exact h.free i x e
end Go.Proofs.YtmpaljmkfnpcpaaDoor
