/-
  Whether two rows of texts are alike, by the reference of layer 1.
-/
import Derived.Test.YtpdbnhhpibpbnaaDoorStrs
import Derived.Deep.QuietTactic
import Derived.BigQuiet
namespace Go.Proofs.YtpdbnhhpibpbnaaDoor
open Go.RowKit

/-- The two rows are alike up to k. -/
def AlikeTo (zs ys : List ByteArray) (k : Nat) : Prop := ∀ j, j < k → zs.getD j ByteArray.empty = ys.getD j ByteArray.empty
theorem AlikeTo.succ {zs ys : List ByteArray} {k : Nat} (h : AlikeTo zs ys k) (hk : zs.getD k ByteArray.empty = ys.getD k ByteArray.empty) : AlikeTo zs ys (k + 1) := by
  intro j hj
  by_cases e : j = k
  · rw [e]; exact hk
  · exact h j (by omega)
theorem AlikeTo.all {zs ys : List ByteArray} (h : AlikeTo zs ys zs.length) (hl : zs.length = ys.length) : decide (zs = ys) = true := by
  rw [decide_eq_true_eq]
  apply List.ext_getElem hl
  intro j h1 h2
  have := h j h1
  simpa [List.getD, h1, h2] using this
theorem unlike_at {zs ys : List ByteArray} {k : Nat} (h1 : k < zs.length) (h2 : k < ys.length) (h : zs[k] ≠ ys[k]) : decide (zs = ys) = false := by
  rw [decide_eq_false_iff_not]; rintro rfl; exact h rfl
theorem unlike_len {zs ys : List ByteArray} (h : zs.length ≠ ys.length) : decide (zs = ys) = false := by
  rw [decide_eq_false_iff_not]; rintro rfl; exact h rfl

set_option maxHeartbeats 400000 in
theorem rtexts_any (v u : Value) (zs ys : List ByteArray) (w : World) (hv : Strs w v zs) (hu : Strs w u ys) :
    Calls Tryd.prog 26 #[v, u] w fun e w' => e = .returned (.bool (decide (zs = ys))) ∧ Below w.heap.size w w' := by
  obtain ⟨a, c, rfl, hl, h⟩ := hv
  obtain ⟨a', c', rfl, hl', h'⟩ := hu
  by_cases hlen : zs.length = ys.length
  · have hq : ((zs.length : Int) != (ys.length : Int)) = false := by simp [hlen]
    have HL := Lib.hid hlen
    rcases h with rfl | ⟨b, off, rfl, hlt, hc⟩
    · have : ys = [] := by simpa using hlen.symm
      subst this
      go_enter Tryd.func26, Tryd.ntmps26
      go_wp2
      refine wp_loop_rounds 1 ?_; rw [rounds_succ]
      go_wp2
      go_ret
      exact ⟨rfl, Below.refl _ _⟩
    · rcases h' with rfl | ⟨b', off', rfl, hlt', hc'⟩
      · have : zs = [] := by simpa using hlen
        subst this
        go_enter Tryd.func26, Tryd.ntmps26
        go_wp2
        refine wp_loop_rounds 1 ?_; rw [rounds_succ]
        go_wp2
        go_ret
        exact ⟨rfl, Below.refl _ _⟩
      · have HC := Lib.hid hc
        have HC' := Lib.hid hc'
        clear hc hc' hlen
        go_enter Tryd.func26, Tryd.ntmps26
        go_wp2
        go_loopw [13] (fun i wr => ∃ k : Nat, k ≤ zs.length ∧ i = .int .i64 k ∧ AlikeTo zs ys k ∧ Below w.heap.size w wr) (fun i _ => zs.length - (intOf i).toNat)
        case atStart => exact ⟨0, Nat.zero_le _, rfl, (fun j hj => by omega), Below.refl _ _⟩
        case round =>
          obtain ⟨k, hk, rfl, hal, hb⟩ := hrel
          have HA := Lib.hid hal
          clear hal
          by_cases hlt1 : k < zs.length
          · have hlt2 : k < ys.length := by have := HL.out; omega
            have hc1 : wr.cell? ⟨b, off + k, none⟩ = some (.string zs[k]) := by rw [hb.cell (p := ⟨b, off + k, none⟩) hlt, HC.out k hlt1]; simp [List.getD, hlt1]
            have hc2 : wr.cell? ⟨b', off' + k, none⟩ = some (.string ys[k]) := by rw [hb.cell (p := ⟨b', off' + k, none⟩) hlt', HC'.out k hlt2]; simp [List.getD, hlt2]
            have hi1 : (k : Int) < (zs.length : Int) := by omega
            have hi2 : (k : Int) < (ys.length : Int) := by omega
            by_cases he : zs[k] = ys[k]
            · have hq2 : (zs[k].toList == ys[k].toList) = true := by rw [Lib.bytes_beq_iff]; exact he
              have HE := Lib.hid (show zs.getD k ByteArray.empty = ys.getD k ByteArray.empty from by simpa [List.getD, hlt1, hlt2] using he)
              clear he
              go_wp2
              go_quiet (fail)
              go_wp2
              go_roundw
              case rel => exact ⟨k + 1, by omega, by go_num, HA.out.succ HE.out, below_drewN hb _⟩
              case measure => simp [intOf]; omega
            · have hq2 : (zs[k].toList == ys[k].toList) = false := by rw [Lib.bytes_beq_false_iff]; exact he
              have HE := Lib.hid he
              clear he
              go_wp2
              go_quiet (fail)
              go_wp2
              go_ret
              exact ⟨ret_bool (unlike_at hlt1 hlt2 HE.out).symm, below_drewN hb _⟩
          · obtain rfl : k = zs.length := by omega
            go_wp2
            go_ret
            exact ⟨ret_bool (HA.out.all HL.out).symm, hb⟩
  · have hq : ((zs.length : Int) != (ys.length : Int)) = true := by rw [bne_iff_ne]; omega
    have HE := Lib.hid (unlike_len hlen)
    clear hlen
    go_enter Tryd.func26, Tryd.ntmps26
    go_wp2
    go_ret
    exact ⟨ret_bool HE.out.symm, Below.refl _ _⟩
end Go.Proofs.YtpdbnhhpibpbnaaDoor
