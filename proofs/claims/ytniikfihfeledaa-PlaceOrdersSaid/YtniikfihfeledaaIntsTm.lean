/-
  Lists of whole numbers, alike, by the reference of layer 1: Ints.
-/
import Derived.Test.YtniikfihfeledaaNums
import Derived.BigQuiet
import Derived.Lib.Hide
namespace Go.Proofs.Ytniikfihfeledaa
open Go.RowKit

/-- Alike as far as k. -/
def NumsTo (ns ms : List Int) (k : Nat) : Prop := ∀ (j : Nat), j < k → ns[j]? = ms[j]?
theorem NumsTo.succ {ns ms : List Int} {k : Nat} (h : NumsTo ns ms k) (hk : ns[k]? = ms[k]?) : NumsTo ns ms (k + 1) := by
  intro j hj
  by_cases e : j = k
  · rw [e]; exact hk
  · exact h j (by omega)
theorem NumsTo.all {ns ms : List Int} (h : NumsTo ns ms ns.length) (hl : ns.length = ms.length) : ns = ms := by
  apply List.ext_getElem? ; intro j
  rcases Nat.lt_or_ge j ns.length with hj | hj
  · exact h j hj
  · rw [List.getElem?_eq_none hj, List.getElem?_eq_none (by omega)]
theorem drewN_two (w : World) (d k : Nat) : (w.drewN d).drewN k = w.drewN (d + k) := by simp [World.drewN, Nat.add_assoc]

set_option maxRecDepth 100000 in
set_option maxHeartbeats 1000000 in
theorem ints_any (v u : Value) (ns ms : List Int) (w : World) (hv : Nums w v ns) (hu : Nums w u ms) :
    Calls Try.prog 28 #[v, u] w fun e w' => e = .returned (.bool (decide (ns = ms))) ∧ ∃ k, w' = w.drewN k := by
  obtain ⟨a, c, rfl, hlc, hcm, _, h⟩ := hv
  obtain ⟨a', c', rfl, hlc', hcm', _, h'⟩ := hu
  by_cases hl : ns.length = ms.length
  · have hq : ((ns.length : Int) != (ms.length : Int)) = false := by simp [hl]
    have HL := Lib.hid hl
    rcases h with rfl | ⟨b, off, rfl, hlt, hc⟩
    · obtain rfl : ms = [] := List.eq_nil_of_length_eq_zero (by simpa using hl.symm)
      clear hl hq h'
      go_enter Try.func28, Try.ntmps28
      go_wp2_with fail
      refine wp_loop_rounds 1 ?_; rw [rounds_succ]
      go_wp2_with fail
      go_ret
      exact ⟨rfl, 0, rfl⟩
    · rcases h' with rfl | ⟨b', off', rfl, hlt', hc'⟩
      · obtain rfl : ns = [] := List.eq_nil_of_length_eq_zero (by simpa using hl)
        clear hl hq hc
        go_enter Try.func28, Try.ntmps28
        go_wp2_with fail
        refine wp_loop_rounds 1 ?_; rw [rounds_succ]
        go_wp2_with fail
        go_ret
        exact ⟨rfl, 0, rfl⟩
      · have HC := Lib.hid hc
        have HC' := Lib.hid hc'
        clear hc hc'
        go_enter Try.func28, Try.ntmps28
        go_wp2_with fail
        go_loopw [13] (fun i wr => ∃ k d : Nat, k ≤ ns.length ∧ i = .int .i64 k ∧ Hid (wr = w.drewN d) ∧ Hid (NumsTo ns ms k)) (fun i _ => ns.length - (intOf i).toNat)
        case atStart => exact ⟨0, 0, Nat.zero_le _, rfl, Lib.hid rfl, Lib.hid (fun j hj => by omega)⟩
        case round =>
          obtain ⟨k, d, hk, rfl, HW, HN⟩ := hrel
          by_cases hkl : k < ns.length
          · have hkm : k < ms.length := by have := HL.out; omega
            have e1 : ns[k]? = some ns[k] := List.getElem?_eq_getElem hkl
            have e2 : ms[k]? = some ms[k] := List.getElem?_eq_getElem hkm
            have c1 : wr.cell? ⟨b, off + k, none⟩ = some (.int .i64 ns[k]) := by rw [HW.out]; exact HC.out k _ e1
            have c2 : wr.cell? ⟨b', off' + k, none⟩ = some (.int .i64 ms[k]) := by rw [HW.out]; exact HC'.out k _ e2
            obtain ⟨x, hx⟩ : ∃ x, ns[k] = x := ⟨_, rfl⟩
            obtain ⟨y, hy⟩ : ∃ y, ms[k] = y := ⟨_, rfl⟩
            rw [hx] at c1 e1
            rw [hy] at c2 e2
            have E := Lib.hid (And.intro e1 e2)
            clear hx hy e1 e2
            have hk0 : (0 : Int) ≤ (k : Int) := by omega
            have hk1 : (k : Int) < (ns.length : Int) := by omega
            have hk2 : (k : Int) < (ms.length : Int) := by omega
            by_cases he : x = y
            · have hb : (x != y) = false := by simp [he]
              have HE := Lib.hid he
              clear he
              go_wp2_with fail
              go_quiet (fail)
              go_wp2_with fail
              go_roundw
              case rel => exact ⟨k + 1, d + nq, by omega, by go_num, Lib.hid (by rw [HW.out, drewN_two]), Lib.hid (HN.out.succ (by rw [E.out.1, E.out.2, HE.out]))⟩
              case measure => simp [intOf]; omega
            · have hb : (x != y) = true := by rw [bne_iff_ne]; exact he
              have HE := Lib.hid he
              clear he
              go_wp2_with fail
              go_quiet (fail)
              go_wp2_with fail
              go_ret
              exact ⟨ret_bool (decide_eq_false (fun e => HE.out (by have := E.out.1; rw [e, E.out.2] at this; exact (Option.some.inj this).symm))).symm, d + nq, by rw [HW.out, drewN_two]⟩
          · have hkl1 : ns.length ≤ k := by omega
            have hke : decide ((k : Int) < (ns.length : Int)) = false := decide_eq_false (by omega)
            have HK := Lib.hid (show k = ns.length by omega)
            go_wp2_with fail
            go_ret
            have hN := HN.out
            rw [HK.out] at hN
            exact ⟨ret_bool (decide_eq_true (hN.all HL.out)).symm, d, HW.out⟩
  · have hq : ((ns.length : Int) != (ms.length : Int)) = true := by rw [bne_iff_ne]; omega
    have hd : decide (ns = ms) = false := decide_eq_false (fun e => hl (by rw [e]))
    have HD := Lib.hid hd
    clear hl hd h h'
    go_enter Try.func28, Try.ntmps28
    go_wp2_with fail
    go_ret
    exact ⟨ret_bool HD.out.symm, 0, rfl⟩
end Go.Proofs.Ytniikfihfeledaa
