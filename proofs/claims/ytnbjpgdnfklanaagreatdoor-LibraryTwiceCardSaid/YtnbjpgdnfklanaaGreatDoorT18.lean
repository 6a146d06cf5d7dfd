/-
  The program's library, the primitive hash: its method. (printed by tools/genfill.py)
-/
import Derived.Test.YtnbjpgdnfklanaaGreatDoorT11
import Derived.Test.YtnbjpgdnfklanaaGreatDoorT05
import Derived.Deep.RegionHeld3
namespace Go.Proofs.YtnbjpgdnfklanaaGreatDoor
open Go.RowKit
set_option maxRecDepth 100000 in
set_option maxHeartbeats 4000000 in
theorem fill_hash (w0 W : World) (eb : Nat) (nm : ByteArray) (h : E0 W eb nm) :
    Calls Tryz.prog 44 #[.pointer (some ⟨eb, 0, none⟩)] W (FillPost w0 W eb nm fsHash rsHash) := by
  have VR := Lib.hid (fun (s : ByteArray) (W : World) => pvar_any s W)
  have HE0 := Lib.hid h
  have hlt := h.lt
  clear h
  unfold FillPost fsHash rsHash
  go_enter Tryz.func44, Tryz.ntmps44
  go_wp2_with fail
  have hE := HE0.out.start w0 W (Below.refl _ _)
  have hO : SinceE W W eb W.heap.size := ⟨OnlyE.refl _ _ _, Nat.le_refl _⟩
  refine (pent_fun w0 W eb W.heap.size nm [] [] _ _ (⟨#[104, 97, 115, 104]⟩, 1) hE ⟨by decide, by decide, by decide⟩ (by simp)).mono ?_; rintro e u1 ⟨rfl, ⟨f1, hE⟩, ho⟩
  have hO := hO.next ho
  clear ho
  go_wp2_with fail
  refine (pent_fun w0 u1 eb W.heap.size nm [(⟨#[104, 97, 115, 104]⟩, 1)] [] _ _ (⟨#[109, 97, 99]⟩, 2) hE ⟨by decide, by decide, by decide⟩ (by simp)).mono ?_; rintro e u2 ⟨rfl, ⟨f2, hE⟩, ho⟩
  have hO := hO.next ho
  clear ho
  simp only [List.nil_append, List.cons_append] at hE
  (try go_wp2_with fail)
  go_end0
  exact ⟨rfl, ⟨_, _, _, hE⟩, hO.only⟩
end Go.Proofs.YtnbjpgdnfklanaaGreatDoor
