/-
  Lines on a page, by the program of layer 14: line, fun, name, rule.
-/
import Derived.Test.YtmpaljmkfnpcpaaDoorShoPu
import Derived.Test.YtmpaljmkfnpcpaaDoorPgBld
import Derived.Test.YtmpaljmkfnpcpaaDoorPShowTm
import Derived.Test.YtmpaljmkfnpcpaaDoorOpenSh
import Derived.Deep.RegionHeld3
namespace Go.Proofs.YtmpaljmkfnpcpaaDoor
open Go.RowKit

/-- A row of texts, in a block of texts. -/
def PartsAt (W : World) (g : Nat) (zs : List ByteArray) : Prop := ∃ cur f, W.heap[g]? = some (Obj.cells cur 9 f) ∧ ∀ (j : Nat) s, zs[j]? = some s → cur[j]? = some (.string s)
theorem PartsAt.keep {n : Nat} {W W' : World} {g : Nat} {zs : List ByteArray} (h : PartsAt W g zs) (hk : KeepsP n W W') : PartsAt W' g zs := by
  obtain ⟨cur, f, h1, h2⟩ := h
  exact ⟨cur, f, hk.same g cur _ f (by decide) (by decide) h1, h2⟩
theorem PartsAt.cell {W : World} {g : Nat} {zs : List ByteArray} (h : PartsAt W g zs) {j : Nat} (hj : j < zs.length) : W.cell? ⟨g, j, none⟩ = some (.string zs[j]) := by
  obtain ⟨cur, f, h1, h2⟩ := h
  have := h2 j _ (List.getElem?_eq_getElem hj)
  rw [cell_of_row W g j cur _ f h1, this]
theorem partsAt_new (w : World) (zs : List ByteArray) : PartsAt (w.alloc (.cells (zs.map Value.string).toArray 9)) w.heap.size zs :=
  ⟨_, (0, 0), heap_alloc_new w _, fun j s h => by simp [h]⟩
def catL (zs : List ByteArray) : List UInt8 := zs.flatMap fun s => s.data.toList
theorem catL_take {zs : List ByteArray} {j : Nat} (h : j < zs.length) : catL (zs.take (j + 1)) = catL (zs.take j) ++ zs[j].data.toList := by
  unfold catL
  rw [List.take_succ_eq_append_getElem h, List.flatMap_append]; simp
theorem catL_part (zs : List ByteArray) (j : Nat) : (catL (zs.take j)).length ≤ (catL zs).length := by
  have e : catL zs = catL (zs.take j) ++ catL (zs.drop j) := by unfold catL; rw [← List.flatMap_append, List.take_append_drop]
  rw [e, List.length_append]; omega

set_option maxRecDepth 100000 in
set_option maxHeartbeats 2000000 in
theorem pline_pg (B b g c : Nat) (l : List UInt8) (zs : List ByteArray) (w : World) (h : Pg B b l w) (hz : PartsAt w g zs) (hc : zs.length ≤ c) (hn : zs.length ≤ 100000) (hlen : l.length + (catL zs).length ≤ 100000000000000) (hBw : B ≤ w.heap.size) :
    Calls Tryd.prog 33 #[.pointer (some ⟨b, 0, none⟩), .slice (some ⟨g, 0, none⟩) zs.length c] w fun e w' => e = .returned (.tuple #[]) ∧ Pg B b (l ++ catL zs ++ [46, 10]) w' ∧ KeepsP B w w' := by
  have HZ := Lib.hid hz
  have WS := Lib.hid (fun l s w h1 h2 h3 => pgstr_any B b l s w h1 h2 h3)
  have HH := Lib.hid h
  clear hz h
  go_enter Tryd.func33, Tryd.ntmps33
  go_wp2_with fail
  go_loopw [8] (fun i wr => ∃ k : Nat, k ≤ zs.length ∧ i = .int .i64 k ∧ Hid (Pg B b (l ++ catL (zs.take k)) wr) ∧ KeepsP B w wr) (fun i _ => zs.length - (intOf i).toNat)
  case atStart => exact ⟨0, Nat.zero_le _, rfl, Lib.hid (by rw [List.take_zero]; simpa [catL] using HH.out), KeepsP.refl _ _⟩
  case round =>
    obtain ⟨k, hk, rfl, HP, hkp⟩ := hrel
    have hbs := hkp.below.size
    have hpt := catL_part zs k
    by_cases hkl : k < zs.length
    · have hkc : (k : Int) < (zs.length : Int) := by omega
      have hk0 : (0 : Int) ≤ (k : Int) := by omega
      have d0 := (HZ.out.keep hkp).cell hkl
      have hcc : (zs.length : Int) ≤ (c : Int) := by omega
      have hct := catL_take hkl
      have hp2 := catL_part zs (k + 1)
      obtain ⟨s, hs⟩ : ∃ s, zs[k] = s := ⟨_, rfl⟩
      rw [hs] at d0 hct
      have hsz : s.data.toList.length = s.size := by rw [Array.length_toList]; rfl
      have hl2 := congrArg List.length hct
      rw [List.length_append] at hl2
      have W1 := Lib.hid (WS.out _ s wr HP.out (by rw [List.length_append]; omega) (by omega))
      have HC := Lib.hid hct
      have HKP := Lib.hid hkp
      clear hct hs hkp
      go_wp2_with fail
      refine W1.out.mono ?_; rintro e w1 ⟨rfl, hb1, hk1⟩
      have HB1 := Lib.hid hb1
      have HK1 := Lib.hid (HKP.out.trans hk1)
      clear hb1 hk1
      go_wp2_with fail
      go_roundw
      case rel => exact ⟨k + 1, by omega, by go_num, Lib.hid (by rw [HC.out, ← List.append_assoc]; exact HB1.out), HK1.out⟩
      case measure => simp [intOf]; omega
    · obtain rfl : k = zs.length := by omega
      rw [List.take_length] at HP
      have W1 := Lib.hid (WS.out _ ⟨#[46, 10]⟩ wr HP.out (by rw [List.length_append]; show _ + 2 ≤ _; omega) (by omega))
      have HKP := Lib.hid hkp
      clear hkp
      go_wp2_with fail
      refine W1.out.mono ?_; rintro e w1 ⟨rfl, hb1, hk1⟩
      have HB1 := Lib.hid hb1
      clear hb1
      go_wp2_with fail
      go_end0
      exact ⟨rfl, HB1.out, HKP.out.trans hk1⟩
end Go.Proofs.YtmpaljmkfnpcpaaDoor
