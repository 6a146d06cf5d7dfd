/-
  Boxes of four cells that are written, and what stands at a place in parts. Nothing of the program's functions.
-/
import Derived.Test.YtcoaneipajadiaaAtPu
namespace Go.Proofs.Ytcoaneipajadiaa
open Go.RowKit

theorem cell_aside {W : World} {u : Value} (p q : Addr) (h : q.block ≠ p.block) : (W.setCell p u).cell? q = W.cell? q := World.cell?_of_block (Below.heap_setCell _ _ _ _ h)
theorem frozen_aside {W : World} {u : Value} (p q : Addr) (h : q.block ≠ p.block) : (W.setCell p u).frozen? q = W.frozen? q := World.frozen?_of_block (Below.heap_setCell _ _ _ _ h)
theorem cell_off {W : World} {u : Value} (g i j : Nat) (h : i ≠ j) : (W.setCell ⟨g, i, none⟩ u).cell? ⟨g, j, none⟩ = W.cell? ⟨g, j, none⟩ := World.cell?_setCell_other _ _ _ _ (fun e => h (by cases e; rfl))
theorem Box.sets {w : World} {g : Nat} {x0 x1 x2 x3 : Value} (h : Box w g x0 x1 x2 x3) (y0 y1 y2 y3 : Value) :
    Box ((((w.setCell ⟨g, 0, none⟩ y0).setCell ⟨g, 1, none⟩ y1).setCell ⟨g, 2, none⟩ y2).setCell ⟨g, 3, none⟩ y3) g y0 y1 y2 y3 where
  c0 := by
    rw [cell_off g 3 0 (by decide), cell_off g 2 0 (by decide), cell_off g 1 0 (by decide)]
    exact World.cell?_setCell_same _ _ _ h.c0
  c1 := by
    rw [cell_off g 3 1 (by decide), cell_off g 2 1 (by decide)]
    refine World.cell?_setCell_same (u := x1) _ _ _ ?_
    rw [cell_off g 0 1 (by decide)]; exact h.c1
  c2 := by
    rw [cell_off g 3 2 (by decide)]
    refine World.cell?_setCell_same (u := x2) _ _ _ ?_
    rw [cell_off g 1 2 (by decide), cell_off g 0 2 (by decide)]; exact h.c2
  c3 := by
    refine World.cell?_setCell_same (u := x3) _ _ _ ?_
    rw [cell_off g 2 3 (by decide), cell_off g 1 3 (by decide), cell_off g 0 3 (by decide)]; exact h.c3
  f0 := by simp [h.f0]
  f1 := by simp [h.f1]
  f2 := by simp [h.f2]
  f3 := by simp [h.f3]
theorem Box.aside {w : World} {g : Nat} {x0 x1 x2 x3 : Value} (h : Box w g x0 x1 x2 x3) {p : Addr} (hp : g ≠ p.block) (y : Value) : Box (w.setCell p y) g x0 x1 x2 x3 where
  c0 := (cell_aside p ⟨g, 0, none⟩ hp).trans h.c0
  c1 := (cell_aside p ⟨g, 1, none⟩ hp).trans h.c1
  c2 := (cell_aside p ⟨g, 2, none⟩ hp).trans h.c2
  c3 := (cell_aside p ⟨g, 3, none⟩ hp).trans h.c3
  f0 := (frozen_aside p ⟨g, 0, none⟩ hp).trans h.f0
  f1 := (frozen_aside p ⟨g, 1, none⟩ hp).trans h.f1
  f2 := (frozen_aside p ⟨g, 2, none⟩ hp).trans h.f2
  f3 := (frozen_aside p ⟨g, 3, none⟩ hp).trans h.f3
theorem Box.asides {w : World} {g k : Nat} {x0 x1 x2 x3 : Value} (h : Box w g x0 x1 x2 x3) (hp : g ≠ k) (y0 y1 y2 y3 : Value) :
    Box ((((w.setCell ⟨k, 0, none⟩ y0).setCell ⟨k, 1, none⟩ y1).setCell ⟨k, 2, none⟩ y2).setCell ⟨k, 3, none⟩ y3) g x0 x1 x2 x3 :=
  (((h.aside (p := ⟨k, 0, none⟩) hp _).aside (p := ⟨k, 1, none⟩) hp _).aside (p := ⟨k, 2, none⟩) hp _).aside (p := ⟨k, 3, none⟩) hp _
theorem below_sets {B : Nat} {a w : World} (h : Below B a w) {g : Nat} (hg : B ≤ g) (y0 y1 y2 y3 : Value) : Below B a ((((w.setCell ⟨g, 0, none⟩ y0).setCell ⟨g, 1, none⟩ y1).setCell ⟨g, 2, none⟩ y2).setCell ⟨g, 3, none⟩ y3) :=
  (((h.setCell (p := ⟨g, 0, none⟩) hg _).setCell (p := ⟨g, 1, none⟩) hg _).setCell (p := ⟨g, 2, none⟩) hg _).setCell (p := ⟨g, 3, none⟩) hg _
theorem atT_append {u : Tm} : ∀ (p q : List Int) {t : Tm}, atT t p = some u → atT t (p ++ q) = atT u q
  | [], q, t, h => by rw [atT] at h; cases h; rfl
  | i :: r, q, t, h => by
    rw [List.cons_append]
    rw [atT] at h ⊢
    split at h
    · next hi => rw [dif_pos hi]; exact atT_append r q h
    · cases h
theorem atT_take {u t : Tm} {ns : List Int} {j : Nat} (h : atT t (ns.take j) = some u) : atT t ns = atT u (ns.drop j) := by
  have := atT_append (ns.take j) (ns.drop j) h
  rwa [List.take_append_drop] at this
theorem atT_take_succ {u t : Tm} {ns : List Int} {j : Nat} {n : Int} (h : atT t (ns.take j) = some u) (hn : ns[j]? = some n) : atT t (ns.take (j + 1)) = atT u [n] := by
  obtain ⟨hj, rfl⟩ := List.getElem?_eq_some_iff.1 hn
  rw [List.take_succ_eq_append_getElem hj]
  exact atT_append _ _ h
theorem atT_one {u : Tm} {n : Nat} (h : n < u.args.length) : atT u [(n : Int)] = some u.args[n] := by rw [atT_in h, atT_nil]
theorem atT_stop {u t : Tm} {ns : List Int} {j : Nat} {n : Int} (h : atT t (ns.take j) = some u) (hn : ns[j]? = some n) (ho : ¬ (0 ≤ n ∧ n < u.args.length)) : atT t ns = none := by
  obtain ⟨hj, rfl⟩ := List.getElem?_eq_some_iff.1 hn
  rw [atT_take h, List.drop_eq_getElem_cons hj, atT_out ho]
end Go.Proofs.Ytcoaneipajadiaa
