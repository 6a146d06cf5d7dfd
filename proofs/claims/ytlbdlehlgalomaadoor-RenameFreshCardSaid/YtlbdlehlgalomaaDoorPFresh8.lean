/-
  Any name, or the first one made of it that is not used, by the program's Fresh; and the law of it.
-/
import Derived.Test.YtlbdlehlgalomaaDoorPFree
import Derived.Test.YtlbdlehlgalomaaDoorLawFr8
namespace Go.Proofs.YtlbdlehlgalomaaDoor
open Go.RowKit

set_option maxRecDepth 100000 in
set_option maxHeartbeats 1000000 in
theorem pfresh_any (v : Value) (zs : List ByteArray) (s : ByteArray) (w : World) (hT : Pow w) (hv : Strs w v zs) (hl : zs.length ≤ 1000) (hz : ∀ x ∈ zs, x.size ≤ 1000) (hs : s.size ≤ 1000) :
    Calls Tryd.prog 6 #[.string s, v] w fun e w' => e = .returned (.string (freshS s zs)) ∧ Below w.heap.size w w' := by
  have NO := Lib.hid (pnames_of v zs w hv (by omega) (fun x hx => by have := hz x hx; omega))
  have FR := Lib.hid (fun (b : Nat) (W : World) (hb : Below w.heap.size w W) (hm : W.ownsMap Tryd.prog 9 (unitElem (H := Unit)) b zs.length (nameSet zs)) => pfree_any s zs W.heap.size 1 b (W.alloc (.cells #[.map (some b)] 30)) ((hT.below hb).below ((Below.refl _ _).alloc (Nat.le_refl _) _)) (by simp) (World.cell?_alloc_mark W #[.map (some b)] 30 (0, 0) 0) (hm.alloc _) hs hl)
  clear hv hz hT
  go_enter Tryd.func6, Tryd.ntmps6
  go_wp2_with fail
  refine NO.out.mono ?_; rintro e w1 ⟨b, rfl, hm, hb⟩
  have F := Lib.hid (FR.out b w1 hb hm)
  go_wp2_with fail
  refine F.out.mono ?_; rintro e w2 ⟨rfl, hb2⟩
  have hb3 := below_next hb (below_box hb2)
  go_wp2_with fail
  go_ret
  exact ⟨rfl, hb3⟩
theorem askFresh_any (w : World) (hT : Pow w) : AskFresh w := fun s v zs W hb hv hl hz hs => pfresh_any v zs s W (hT.below hb) hv (by omega) (fun x hx => by have := hz x hx; omega) (by omega)
end Go.Proofs.YtlbdlehlgalomaaDoor
