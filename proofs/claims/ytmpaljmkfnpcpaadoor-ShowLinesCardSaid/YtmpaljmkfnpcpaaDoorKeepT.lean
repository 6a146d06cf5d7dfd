/-
  What leaves all that lay, and every box of one term, as it was. No function of the program.
-/
import Derived.Test.YtmpaljmkfnpcpaaDoorTm
import Derived.RangeFuncNested
import Derived.Shelf.Abstract
import Derived.Shelf.RegionOpen
import Derived.WalkKit
import Derived.OwnWalkIn
namespace Go.Proofs.YtmpaljmkfnpcpaaDoor
open Go.RowKit

/-- What a round leaves as it was: all that lay when the call began, and every box of one term. -/
structure KeepsT (n₀ : Nat) (W W' : World) : Prop where
  below : Below n₀ W W'
  same : ∀ (k : Nat) (c : Array Value) (f : Nat × Nat), c.size = 4 → W.heap[k]? = some (Obj.cells c 26 f) → W'.heap[k]? = some (Obj.cells c 26 f)
theorem KeepsT.refl (n₀ : Nat) (W : World) : KeepsT n₀ W W := ⟨Below.refl _ _, fun _ _ _ _ h => h⟩
theorem KeepsT.trans {n₀ : Nat} {A B C : World} (h : KeepsT n₀ A B) (k : KeepsT n₀ B C) : KeepsT n₀ A C := ⟨h.below.trans k.below, fun i c f h4 hi => k.same i c f h4 (h.same i c f h4 hi)⟩
theorem KeepsT.alloc {n₀ : Nat} {A B : World} (h : KeepsT n₀ A B) (hn : n₀ ≤ B.heap.size) (o : Obj) : KeepsT n₀ A (B.alloc o) :=
  ⟨h.below.alloc hn o, fun k c f h4 hk => by
    have := h.same k c f h4 hk
    rw [Below.heap_alloc _ _ _ (Array.getElem?_eq_some_iff.1 this).1]; exact this⟩
/-- Behind growth that turns one block at most, which is no box of a term. -/
theorem KeepsT.grown {n₀ : Nat} {A B C : World} (h : KeepsT n₀ A B) {row : Option Nat} (hg : B.grownBy C row) (hn : n₀ ≤ B.heap.size) (hr : ∀ k, row = some k → n₀ ≤ k ∧ ∀ c f, B.heap[k]? ≠ some (Obj.cells c 26 f)) : KeepsT n₀ A C :=
  ⟨h.below.grown hg hn (fun k e => (hr k e).1), fun k c f h4 hk => by
    have := h.same k c f h4 hk
    rw [hg.block k (Array.getElem?_eq_some_iff.1 this).1 (fun e => (hr k e.symm).2 c f this)]; exact this⟩
theorem KeepsT.setBox {n₀ : Nat} {A W : World} (h : KeepsT n₀ A W) {B : Nat} {t : TypeId} {v : Value} (hb : Boxed W B t v) (ht : t ≠ 26) (hB : n₀ ≤ B) (u : Value) : KeepsT n₀ A (W.setCell ⟨B, 0, none⟩ u) :=
  ⟨h.below.setCell (p := ⟨B, 0, none⟩) hB u, fun k c f h4 hk => by
    have h1 := h.same k c f h4 hk
    have h2 : W.heap[B]? = some (Obj.cells #[v] t (0, 0)) := hb
    rw [Below.heap_setCell _ _ _ _ (fun e => by
      subst e
      rw [h2] at h1
      injection h1 with h1
      injection h1 with _ h1 _
      exact ht h1)]
    exact h1⟩
theorem keepsT_t {n₀ : Nat} {A B C : World} (h : KeepsT n₀ A B) (k : KeepsT n₀ B C) : KeepsT n₀ A C := h.trans k
theorem keepsT_b {n₀ : Nat} {w : World} (hn : n₀ ≤ w.heap.size) (W : World) (l : Nat) (o o' : Obj) (hl : w.heap.size ≤ l) (h : W.heap[l]? = some o) (hc : o.isCells = false) (_ : o.isWalk = false) : KeepsT n₀ W (W.putObj l o') :=
  (KeepsT.refl n₀ W).grown (grownBy_putObj' W l o') (by have := (Array.getElem?_eq_some_iff.1 h).1; omega) (fun k e => by
    cases e
    refine ⟨by omega, fun c f e => ?_⟩
    rw [h] at e
    injection e with e
    subst e
    cases hc)
/-- A box of a term, behind what leaves them. -/
theorem KeepsT.box {n₀ : Nat} {W W' : World} {x0 x1 x2 x3 : Value} (h : KeepsT n₀ (W.alloc (.cells #[x0, x1, x2, x3] 26)) W') : Box W' W.heap.size x0 x1 x2 x3 := by
  have h1 := h.same W.heap.size #[x0, x1, x2, x3] (0, 0) rfl (World.alloc_heap_new W _)
  constructor <;> simp [World.cell?, World.frozen?, h1]

end Go.Proofs.YtmpaljmkfnpcpaaDoor
