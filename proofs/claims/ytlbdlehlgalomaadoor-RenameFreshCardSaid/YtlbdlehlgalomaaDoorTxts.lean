/-
  Slices that read as lists of texts, of whatever length a slice may have. Nothing of the program's functions.
-/
import Derived.Test.YtlbdlehlgalomaaDoorStrs
namespace Go.Proofs.YtlbdlehlgalomaaDoor
open Go.RowKit

/-- Like Strs, of whatever length a slice may have. -/
def Txts (w : World) (v : Value) (zs : List ByteArray) : Prop :=
  ∃ a c, v = .slice a zs.length c ∧ zs.length ≤ 9223372036854775807 ∧ (zs = [] ∨ ∃ b off, a = some ⟨b, off, none⟩ ∧ b < w.heap.size ∧ ∀ j, j < zs.length → w.cell? ⟨b, off + j, none⟩ = some (.string (zs.getD j ByteArray.empty)))
theorem Txts.strs {w : World} {v : Value} {zs : List ByteArray} (h : Txts w v zs) (hl : zs.length ≤ 1000) : Strs w v zs := by
  obtain ⟨a, c, hv, _, h⟩ := h
  exact ⟨a, c, hv, by omega, h⟩
theorem Txts.below {w w' : World} {v : Value} {zs : List ByteArray} (h : Txts w v zs) (hb : Below w.heap.size w w') : Txts w' v zs := by
  obtain ⟨a, c, hv, hl, h⟩ := h
  refine ⟨a, c, hv, hl, ?_⟩
  rcases h with h | ⟨b, off, ha, hlt, hc⟩
  · exact .inl h
  · exact .inr ⟨b, off, ha, Nat.lt_of_lt_of_le hlt hb.size, fun j hj => by rw [hb.cell (p := ⟨b, off + j, none⟩) hlt]; exact hc j hj⟩
end Go.Proofs.YtlbdlehlgalomaaDoor
