/-
  The set of a list of names, by the program's namesOf.
-/
import Derived.Test.YtlbdlehlgalomaaDoorNmSet
import Derived.Test.YtlbdlehlgalomaaDoorStrs
import Derived.Lib.Hide
import Derived.WalkKit
namespace Go.Proofs.YtlbdlehlgalomaaDoor
open Go.RowKit

theorem zero_unit (w : World) : (zeroValue 34).run Tryd.prog w = .ok (.agg #[]) w := by kernel_rfl

set_option maxRecDepth 100000 in
set_option maxHeartbeats 1000000 in
theorem pnames_of (v : Value) (zs : List ByteArray) (w : World) (hv : Strs w v zs) (hl : zs.length ≤ 100000) (hz : ∀ x ∈ zs, x.size ≤ 100000) :
    Calls Tryd.prog 10 #[v] w fun e w' => ∃ b, e = .returned (.map (some b)) ∧ w'.ownsMap Tryd.prog 9 (unitElem (H := Unit)) b zs.length (nameSet zs) ∧ Below w.heap.size w w' := by
  have hmm := @run_makeMap Tryd.prog
  obtain ⟨a, c, rfl, _, h⟩ := hv
  have hcell : Hid (∀ k, k < zs.length → ∃ b off, a = some ⟨b, off, none⟩ ∧ ∀ wr, Below w.heap.size w wr → wr.cell? ⟨b, off + k, none⟩ = some (.string (zs.getD k ByteArray.empty))) := Lib.hid (fun k hk => by
    rcases h with rfl | ⟨b, off, ha, hb, hc⟩
    · cases hk
    · exact ⟨b, off, ha, fun wr hbr => (hbr.cell (p := ⟨b, off + k, none⟩) hb).trans (hc k hk)⟩)
  clear h
  go_enter Tryd.func10, Tryd.ntmps10
  go_wp2
  go_loopw [9] (fun i wr => ∃ k : Nat, k ≤ zs.length ∧ i = .int .i64 k ∧ wr.ownsMap Tryd.prog 9 (unitElem (H := Unit)) w.heap.size k (nameSet (zs.take k)) ∧ Below w.heap.size w wr) (fun i _ => zs.length - (intOf i).toNat)
  case atStart => exact ⟨0, Nat.zero_le _, rfl, World.ownsMap_made _ _ _ _, (Below.refl _ _).alloc (Nat.le_refl _) _⟩
  case round =>
    obtain ⟨k, hk, rfl, hown, hb⟩ := hrel
    by_cases hlt : k < zs.length
    · obtain ⟨b, off, rfl, hc⟩ := hcell.out k hlt
      have hc1 := hc wr hb
      have hc2 : (zs.getD k ByteArray.empty) = zs[k] := by simp [List.getD, hlt]
      rw [hc2] at hc1
      have hsz := hz zs[k] (List.getElem_mem _)
      have hkey : keyOf Tryd.prog 9 (.string zs[k]) = some (.string zs[k].data.toList) := Go.WideMaps.keyOf_string_mk Tryd.underlying9 (by unfold maxLen; omega)
      have HT : Hid (nameSet (zs.take (k + 1)) = (nameSet (zs.take k)).put (.string zs[k].data.toList) (.agg [])) := Lib.hid (by rw [nameSet_put, List.take_succ_eq_append_getElem hlt])
      clear hc hz
      obtain ⟨z, hzk⟩ : ∃ z, zs[k] = z := ⟨_, rfl⟩
      rw [hzk] at hc1 hkey HT
      clear hzk hc2
      go_wp2_with (first
        | (at_mapUpdate; refine wpList_mapUpdate_own _ rfl _ _ _ 30 rfl 9 34 (Maps.string_keyed Tryd.underlying9) Tryd.underlying30 (unitElem (H := Unit)) w.heap.size k _ rfl hown (by unfold maxLen; omega) _ _ _ rfl rfl hkey (.agg []) [] unitElem_mk ?_; intro w1 hown1 hgrow1)
        | go_in)
      go_roundw
      case rel => exact ⟨k + 1, by omega, by go_num, by rw [HT.out]; exact hown1, hb.grown hgrow1 (by have := hb.size; omega) (fun j hj => by cases hj; exact Nat.le_refl _)⟩
      case measure => simp [intOf]; omega
    · obtain rfl : k = zs.length := by omega
      rw [List.take_length] at hown
      go_wp2
      go_ret
      exact ⟨w.heap.size, rfl, hown, hb⟩
end Go.Proofs.YtlbdlehlgalomaaDoor
