/-
  Whether a text is among others, by the reference of layer 1: In.
-/
import Derived.Test.YtlbdlehlgalomaaDoorStrs
namespace Go.Proofs.YtlbdlehlgalomaaDoor
open Go.RowKit

set_option maxHeartbeats 400000 in
theorem rin_any (v : Value) (zs : List ByteArray) (x : ByteArray) (w : World) (hv : Strs w v zs) :
    Calls Tryd.prog 8 #[v, .string x] w fun e w' => e = .returned (.bool (Lib.containsS zs x)) ∧ w = w' := by
  obtain ⟨a, c, rfl, hl, h⟩ := hv
  rcases h with rfl | ⟨b, off, rfl, hlt, hc⟩
  · go_enter Tryd.func8, Tryd.ntmps8
    go_wp2
    refine wp_loop_rounds 1 ?_; rw [rounds_succ]
    go_wp2
    go_ret
    exact ⟨rfl, rfl⟩
  · have HC := Lib.hid hc
    clear hc
    go_enter Tryd.func8, Tryd.ntmps8
    go_wp2
    go_loop [9] (fun i => ∃ k : Nat, k ≤ zs.length ∧ i = .int .i64 k ∧ NotYet zs x k) (fun i => zs.length - (intOf i).toNat)
    case atStart => exact ⟨0, Nat.zero_le _, rfl, (fun j hj => by omega)⟩
    case round =>
      obtain ⟨k, hk, rfl, hne⟩ := hrel
      have HN := Lib.hid hne
      clear hne
      by_cases hlt : k < zs.length
      · have hcell : w.cell? ⟨b, off + k, none⟩ = some (.string zs[k]) := by rw [HC.out k hlt]; simp [List.getD, hlt]
        by_cases he : zs[k] = x
        · have hq : (zs[k].toList == x.toList) = true := by rw [Lib.bytes_beq_iff]; exact he
          have HE := Lib.hid he
          clear he
          go_wp2
          go_ret
          exact ⟨ret_bool (contains_here hlt HE.out).symm, rfl⟩
        · have hq : (zs[k].toList == x.toList) = false := by rw [Lib.bytes_beq_false_iff]; exact he
          have HE := Lib.hid (show zs.getD k ByteArray.empty ≠ x from by simpa [List.getD, hlt] using he)
          clear he
          go_wp2
          go_round
          case rel => exact ⟨k + 1, by omega, by go_num, HN.out.succ HE.out⟩
          case measure => simp [intOf]; omega
      · obtain rfl : k = zs.length := by omega
        go_wp2
        go_ret
        exact ⟨ret_bool HN.out.all.symm, rfl⟩
end Go.Proofs.YtlbdlehlgalomaaDoor
