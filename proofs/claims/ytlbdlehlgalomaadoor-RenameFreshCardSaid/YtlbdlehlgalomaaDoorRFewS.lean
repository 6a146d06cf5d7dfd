/-
  Whether texts are few, and short, by the reference of layer 8: Few.
-/
import Derived.Test.YtlbdlehlgalomaaDoorTxts
namespace Go.Proofs.YtlbdlehlgalomaaDoor
open Go.RowKit

def shortB (s : ByteArray) : Bool := decide (s.size ≤ 100)
def fewS (zs : List ByteArray) : Bool := decide (zs.length ≤ 40) && zs.all shortB
theorem fewS_of {zs : List ByteArray} (h : fewS zs = true) : zs.length ≤ 40 ∧ ∀ x ∈ zs, x.size ≤ 100 := by
  unfold fewS at h
  rw [Bool.and_eq_true, List.all_eq_true] at h
  exact ⟨by simpa using h.1, fun x hx => by have := h.2 x hx; unfold shortB at this; simpa using this⟩
def ShortTo (zs : List ByteArray) (k : Nat) : Prop := ∀ j, j < k → shortB (zs.getD j ByteArray.empty) = true
theorem ShortTo.succ {zs : List ByteArray} {k : Nat} (h : ShortTo zs k) (hb : shortB (zs.getD k ByteArray.empty) = true) : ShortTo zs (k + 1) := fun j hj => by
  by_cases e : j = k
  · subst e; exact hb
  · exact h j (by omega)
theorem ShortTo.all {zs : List ByteArray} (h : ShortTo zs zs.length) : decide ((zs.length : Int) ≤ 40) = fewS zs := by
  unfold fewS
  have : zs.all shortB = true := by
    rw [List.all_eq_true]
    intro x hx
    obtain ⟨j, hj, rfl⟩ := List.getElem_of_mem hx
    have := h j hj
    simpa [List.getD, hj] using this
  rw [this, Bool.and_true]
  by_cases hl : zs.length ≤ 40
  · rw [decide_eq_true hl, decide_eq_true (by omega)]
  · rw [decide_eq_false hl, decide_eq_false (by omega)]
theorem short_bad {zs : List ByteArray} {k : Nat} (hk : k < zs.length) (hb : shortB (zs.getD k ByteArray.empty) = false) : fewS zs = false := by
  unfold fewS
  have : zs.all shortB = false := by
    rw [List.all_eq_false]
    exact ⟨zs[k], List.getElem_mem _, by have h2 : zs.getD k ByteArray.empty = zs[k] := by simp [List.getD, hk]
                                         rw [← h2, hb]; simp⟩
  rw [this, Bool.and_false]

set_option maxHeartbeats 1000000 in
theorem rfews_any (v : Value) (zs : List ByteArray) (w : World) (hv : Txts w v zs) :
    Calls Tryd.prog 5 #[v] w fun e w' => e = .returned (.bool (fewS zs)) ∧ w = w' := by
  obtain ⟨a, c, rfl, hl, h⟩ := hv
  have HC := Lib.hid h
  clear h
  go_enter Tryd.func5, Tryd.ntmps5
  go_wp2
  go_loop [7] (fun i => ∃ k : Nat, k ≤ zs.length ∧ i = .int .i64 k ∧ Hid (ShortTo zs k)) (fun i => zs.length - (intOf i).toNat)
  case atStart => exact ⟨0, Nat.zero_le _, rfl, Lib.hid (fun j hj => by omega)⟩
  case round =>
    obtain ⟨k, hk, rfl, HN⟩ := hrel
    by_cases hkl : k < zs.length
    · obtain ⟨b, off, rfl, hlt, hat⟩ := HC.out.resolve_left (by intro h; rw [h] at hkl; simp at hkl)
      have hcell := hat k hkl
      obtain ⟨s, hs⟩ : ∃ s, zs.getD k ByteArray.empty = s := ⟨_, rfl⟩
      rw [hs] at hcell
      have HS := Lib.hid hs
      have hk0 : (0 : Int) ≤ (k : Int) := by omega
      have hk1 : (k : Int) < (zs.length : Int) := by omega
      clear hat hs
      rcases Int.lt_or_le 100 (s.size : Int) with h1 | h1
      · have hd : decide ((100 : Int) < (s.size : Int)) = true := decide_eq_true h1
        have HF := Lib.hid (short_bad hkl (by rw [HS.out]; unfold shortB; exact decide_eq_false (by omega)))
        go_wp2
        go_ret
        exact ⟨ret_bool HF.out.symm, rfl⟩
      · have hd : decide ((100 : Int) < (s.size : Int)) = false := decide_eq_false (by omega)
        have HF := Lib.hid (show shortB (zs.getD k ByteArray.empty) = true by rw [HS.out]; unfold shortB; exact decide_eq_true (by omega))
        go_wp2
        go_round
        case rel => exact ⟨k + 1, by omega, by go_num, Lib.hid (HN.out.succ HF.out)⟩
        case measure => simp [intOf]; omega
    · obtain rfl : k = zs.length := by omega
      have HF := Lib.hid HN.out.all
      obtain ⟨z, hz⟩ : ∃ z, decide ((zs.length : Int) ≤ 40) = z := ⟨_, rfl⟩
      rw [hz] at HF
      go_wp2
      go_ret
      exact ⟨ret_bool HF.out, rfl⟩
end Go.Proofs.YtlbdlehlgalomaaDoor
