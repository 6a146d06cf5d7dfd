/-
  A function's line and a rule's on a page, by the program of layer 14: fun, rule, name.
-/
import Derived.Test.YtmpaljmkfnpcpaaDoorPSh
import Derived.Test.YtmpaljmkfnpcpaaDoorFus
namespace Go.Proofs.YtmpaljmkfnpcpaaDoor
open Go.RowKit

/-- Cells of a block that is neither a page nor bytes, kept. -/
theorem KeepsP.cellsOf {n : Nat} {V Q : World} (h : KeepsP n V Q) {g : Nat} {cur : Array Value} {t : TypeId} {f : Nat × Nat} (ht : t ≠ 51) (hu : t ≠ 5) (hg : V.heap[g]? = some (Obj.cells cur t f)) (o : Nat) : Q.cell? ⟨g, o, none⟩ = cur[o]? :=
  cell_of_row Q g o cur t f (h.same g cur t f ht hu hg)
theorem two_below {A V Q : World} (h : Below A.heap.size A V) (k : Below V.heap.size V Q) : Below A.heap.size A Q := below_next h k

set_option maxRecDepth 100000 in
set_option maxHeartbeats 4000000 in
theorem pgfun_any (B b : Nat) (l : List UInt8) (f : Fn) (w : World) (HPW : Pow w) (h : Pg B b l w) (hB : B ≤ w.heap.size) (hf : FnOk f) (hs : f.1.size ≤ 100000) (hl : l.length ≤ 10000000000000) :
    Calls Tryd.prog 20 #[.pointer (some ⟨b, 0, none⟩), fnVal f] w fun e w' => e = .returned (.tuple #[]) ∧ Pg B b (l ++ lnFun f.1 f.2) w' ∧ KeepsP B w w' := by
  obtain ⟨s, n⟩ := f
  simp only at hs ⊢
  unfold fnVal
  have hil := Lib.itoa_length_le n hf.lo hf.hi
  obtain ⟨il, hie⟩ : ∃ il, Lib.itoa n = il := ⟨_, rfl⟩
  have HEQ := Lib.hid (show catL [⟨#[102, 117, 110, 32]⟩, s, ⟨#[47]⟩, ⟨il.toArray⟩] ++ [46, 10] = lnFun s n by unfold lnFun catL; rw [hie]; simp)
  have D := fun W h => pdigits_any n hf.lo hf.hi W h
  rw [hie] at hil D
  obtain ⟨V, hV⟩ : ∃ V, w.alloc (.cells #[.string s, .int .i64 n] 23) = V := ⟨_, rfl⟩
  have hbV : Below w.heap.size w V := by rw [← hV]; exact (Below.refl _ _).alloc (Nat.le_refl _) _
  have hg : V.heap[w.heap.size]? = some (Obj.cells #[.string s, .int .i64 n] 23 (0, 0)) := by rw [← hV]; exact heap_alloc_new w _
  have hsz : s.data.toList.length = s.size := by rw [Array.length_toList]; rfl
  have LN := Lib.hid (fun (w1 : World) (hb : Below V.heap.size V w1) => (show Calls Tryd.prog 33 #[.pointer (some ⟨b, 0, none⟩), .slice (some ⟨w1.heap.size, 0, none⟩) 4 4] (w1.alloc (.cells #[.string ⟨#[102, 117, 110, 32]⟩, .string s, .string ⟨#[47]⟩, .string ⟨il.toArray⟩] 9)) fun e w' => e = .returned (.tuple #[]) ∧ Pg B b (l ++ lnFun s n) w' ∧ KeepsP B V w' from by
    have hbA : Below w1.heap.size w1 (w1.alloc (.cells #[.string ⟨#[102, 117, 110, 32]⟩, .string s, .string ⟨#[47]⟩, .string ⟨il.toArray⟩] 9)) := (Below.refl _ _).alloc (Nat.le_refl _) _
    have hb2 := below_next hb hbA
    have hb3 := below_next hbV hb2
    refine (pline_pg B b w1.heap.size 4 l [⟨#[102, 117, 110, 32]⟩, s, ⟨#[47]⟩, ⟨il.toArray⟩] _ (h.below hb3) (partsAt_new w1 [⟨#[102, 117, 110, 32]⟩, s, ⟨#[47]⟩, ⟨il.toArray⟩]) (by simp) (by simp) (by simp [catL]; omega) (Nat.le_trans hB hb3.size)).mono ?_
    rintro e w' ⟨h1, h2, h3⟩
    rw [List.append_assoc, HEQ.out] at h2
    exact ⟨h1, h2, (keepsP_in hb2 (Nat.le_trans hB hbV.size)).trans h3⟩))
  have DG := Lib.hid (fun (W : World) (hb : Below V.heap.size V W) => D W (HPW.below (below_next hbV hb)))
  have KEEP := Lib.hid (fun (Q : World) (hb : KeepsP B V Q) => (show KeepsP B V Q ∧ Q.cell? ⟨w.heap.size, 0, none⟩ = some (.string s) ∧ Q.cell? ⟨w.heap.size, 1, none⟩ = some (.int .i64 n) from ⟨hb, hb.cellsOf (by decide) (by decide) hg 0, hb.cellsOf (by decide) (by decide) hg 1⟩))
  have KB := Lib.hid (fun (Q : World) (hb : Below V.heap.size V Q) => KEEP.out Q (keepsP_in hb (Nat.le_trans hB hbV.size)))
  have HV := Lib.hid (keepsP_in hbV hB)
  have D0 := Lib.hid (Below.refl V.heap.size V)
  have D1 := Lib.hid ((Below.refl V.heap.size V).drew)
  have E := Lib.hid hV
  clear hie D hil hsz hs hl hf HPW h hV hbV hg HEQ
  go_enter Tryd.func20, Tryd.ntmps20
  go_wp2_with fail
  rw [E.out]
  go_region_held3 (fun Q => KeepsP B V Q ∧ Q.cell? ⟨w.heap.size, 0, none⟩ = some (.string s) ∧ Q.cell? ⟨w.heap.size, 1, none⟩ = some (.int .i64 n)) (first | assumption | exact KB.out _ D1.out | exact KB.out _ (by with_reducible assumption) | exact KB.out _ ((by with_reducible assumption : Below _ _ _).alloc (Below.size (by with_reducible assumption)) _) | exact KEEP.out _ (by with_reducible assumption))
    ((first
      | (go_at_call 28; (with_reducible refine (DG.out _ (by first | exact D1.out | exact D0.out)).mono ?_); rintro e w1 ⟨rfl, hb1⟩; have hb2 := below_next (show Below V.heap.size V _ from (by first | exact D1.out | exact D0.out)) hb1)
      | (go_at_call 33; (with_reducible refine (LN.out _ hb2).mono ?_); rintro e w3 ⟨rfl, hp3, hk3⟩)))
  go_end0
  exact ⟨rfl, hp3, HV.out.trans hk3⟩
end Go.Proofs.YtmpaljmkfnpcpaaDoor
