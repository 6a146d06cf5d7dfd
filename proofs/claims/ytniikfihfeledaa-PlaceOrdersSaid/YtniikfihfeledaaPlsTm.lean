/-
  Rows of places, alike, by the reference of layer 1: Places.
-/
import Derived.Test.YtniikfihfeledaaIntsTm
import Derived.Test.YtniikfihfeledaaPlcs
namespace Go.Proofs.Ytniikfihfeledaa
open Go.RowKit

/-- A slice value that reads as a row of places. -/
def Pls (w : World) (v : Value) (pss : List (List Int)) : Prop :=
  ∃ a c, v = .slice a pss.length c ∧ pss.length ≤ c ∧ c ≤ 9223372036854775807 ∧
    (pss = [] ∨ ∃ b off, a = some ⟨b, off, none⟩ ∧ b < w.heap.size ∧ ∀ (j : Nat) p, pss[j]? = some p → ∃ x, w.cell? ⟨b, off + j, none⟩ = some x ∧ Nums w x p)
theorem Pls.below {w w' : World} {v : Value} {pss : List (List Int)} (h : Pls w v pss) (hb : Below w.heap.size w w') : Pls w' v pss := by
  obtain ⟨a, c, hv, hl, hc, h⟩ := h
  refine ⟨a, c, hv, hl, hc, ?_⟩
  rcases h with h | ⟨b, off, ha, hlt, hc⟩
  · exact .inl h
  · exact .inr ⟨b, off, ha, Nat.lt_of_lt_of_le hlt hb.size, fun j p hj => by obtain ⟨x, h1, h2⟩ := hc j p hj; exact ⟨x, by rw [hb.cell (p := ⟨b, off + j, none⟩) hlt]; exact h1, h2.below hb⟩⟩
theorem OwnPl.pls {w : World} {base : Nat} {v : Value} {pss : List (List Int)} (h : OwnPl w base v pss) : Pls w v pss := by
  obtain ⟨vs, hl, hall, hn, h⟩ := h
  rcases h with ⟨rfl, h0⟩ | ⟨g, cap, cur, rfl, _, hg, hk, hm, hs, ht⟩
  · have : pss = [] := List.eq_nil_of_length_eq_zero h0
    subst this
    exact ⟨none, 0, rfl, Nat.le_refl _, by omega, .inl rfl⟩
  · refine ⟨_, cap, rfl, hk, by unfold maxLen at hm; omega, .inr ⟨g, 0, rfl, ?_, fun j p hj => ?_⟩⟩
    · rcases Nat.lt_or_ge g w.heap.size with h | h
      · exact h
      · rw [Array.getElem?_eq_none h] at hg; cases hg
    · have hjl : j < pss.length := (List.getElem?_eq_some_iff.1 hj).1
      obtain ⟨y, h1⟩ : ∃ y, vs[j]? = some y := ⟨_, List.getElem?_eq_getElem (show j < vs.length by omega)⟩
      refine ⟨y, ?_, (hall j _ p h1 hj).nums⟩
      rw [← ht, List.getElem?_take, if_pos (by omega)] at h1
      rw [Nat.zero_add, cell_of_row w g j cur _ (0, 0) hg]
      simpa using h1
theorem Nums.drewN {w : World} {v : Value} {p : List Int} (h : Nums w v p) (n : Nat) : Nums (w.drewN n) v p := h.below (below_drewN (Below.refl _ _) n)
/-- Alike as far as k. -/
def PlsTo (ns ms : List (List Int)) (k : Nat) : Prop := ∀ (j : Nat), j < k → ns[j]? = ms[j]?
theorem PlsTo.succ {ns ms : List (List Int)} {k : Nat} (h : PlsTo ns ms k) (hk : ns[k]? = ms[k]?) : PlsTo ns ms (k + 1) := by
  intro j hj
  by_cases e : j = k
  · rw [e]; exact hk
  · exact h j (by omega)
theorem PlsTo.all {ns ms : List (List Int)} (h : PlsTo ns ms ns.length) (hl : ns.length = ms.length) : ns = ms := by
  apply List.ext_getElem? ; intro j
  rcases Nat.lt_or_ge j ns.length with hj | hj
  · exact h j hj
  · rw [List.getElem?_eq_none hj, List.getElem?_eq_none (by omega)]

set_option maxRecDepth 100000 in
set_option maxHeartbeats 1000000 in
theorem places_any (v u : Value) (ns ms : List (List Int)) (w : World) (hv : Pls w v ns) (hu : Pls w u ms) :
    Calls Try.prog 19 #[v, u] w fun e w' => e = .returned (.bool (decide (ns = ms))) ∧ ∃ k, w' = w.drewN k := by
  obtain ⟨a, c, rfl, hlc, hcm, h⟩ := hv
  obtain ⟨a', c', rfl, hlc', hcm', h'⟩ := hu
  by_cases hl : ns.length = ms.length
  · have hq : ((ns.length : Int) != (ms.length : Int)) = false := by simp [hl]
    have HL := Lib.hid hl
    rcases h with rfl | ⟨b, off, rfl, hlt, hc⟩
    · obtain rfl : ms = [] := List.eq_nil_of_length_eq_zero (by simpa using hl.symm)
      clear hl hq h'
      go_enter Try.func19, Try.ntmps19
      go_wp2_with fail
      refine wp_loop_rounds 1 ?_; rw [rounds_succ]
      go_wp2_with fail
      go_ret
      exact ⟨rfl, 0, rfl⟩
    · rcases h' with rfl | ⟨b', off', rfl, hlt', hc'⟩
      · obtain rfl : ns = [] := List.eq_nil_of_length_eq_zero (by simpa using hl)
        clear hl hq hc
        go_enter Try.func19, Try.ntmps19
        go_wp2_with fail
        refine wp_loop_rounds 1 ?_; rw [rounds_succ]
        go_wp2_with fail
        go_ret
        exact ⟨rfl, 0, rfl⟩
      · have HC := Lib.hid hc
        have HC' := Lib.hid hc'
        clear hc hc'
        go_enter Try.func19, Try.ntmps19
        go_wp2_with fail
        go_loopw [13] (fun i wr => ∃ k d : Nat, k ≤ ns.length ∧ i = .int .i64 k ∧ Hid (wr = w.drewN d) ∧ Hid (PlsTo ns ms k)) (fun i _ => ns.length - (intOf i).toNat)
        case atStart => exact ⟨0, 0, Nat.zero_le _, rfl, Lib.hid rfl, Lib.hid (fun j hj => by omega)⟩
        case round =>
          obtain ⟨k, d, hk, rfl, HW, HN⟩ := hrel
          by_cases hkl : k < ns.length
          · have hkm : k < ms.length := by have := HL.out; omega
            have e1 : ns[k]? = some ns[k] := List.getElem?_eq_getElem hkl
            have e2 : ms[k]? = some ms[k] := List.getElem?_eq_getElem hkm
            obtain ⟨x, c1, n1⟩ := HC.out k _ e1
            obtain ⟨y, c2, n2⟩ := HC'.out k _ e2
            replace c1 : wr.cell? ⟨b, off + k, none⟩ = some x := by rw [HW.out]; exact c1
            replace c2 : wr.cell? ⟨b', off' + k, none⟩ = some y := by rw [HW.out]; exact c2
            have E := Lib.hid (And.intro e1 e2)
            have I := Lib.hid (fun z : Nat => (ints_any x y ns[k] ms[k] (wr.drewN z) (by rw [HW.out]; exact (n1.drewN d).drewN z) (by rw [HW.out]; exact (n2.drewN d).drewN z)).mono (fun e w' hh => (show e = .returned (.bool (decide (ns[k] = ms[k]))) ∧ ∃ r, w' = wr.drewN r from ⟨hh.1, by obtain ⟨r, hr⟩ := hh.2; exact ⟨z + r, by rw [hr, drewN_two]⟩⟩)))
            clear e1 e2 n1 n2
            have hk0 : (0 : Int) ≤ (k : Int) := by omega
            have hk1 : (k : Int) < (ns.length : Int) := by omega
            have hk2 : (k : Int) < (ms.length : Int) := by omega
            by_cases he : ns[k] = ms[k]
            · have hb : decide (ns[k] = ms[k]) = true := decide_eq_true he
              rw [hb] at I
              have HE := Lib.hid he
              clear he hb
              go_wp2_with fail
              go_quiet ((go_at_call 28; exact I.out _))
              go_wp2_with fail
              go_roundw
              case rel => exact ⟨k + 1, d + nq, by omega, by go_num, Lib.hid (by rw [HW.out, drewN_two]), Lib.hid (HN.out.succ (by rw [E.out.1, E.out.2, HE.out]))⟩
              case measure => simp [intOf]; omega
            · have hb : decide (ns[k] = ms[k]) = false := decide_eq_false he
              rw [hb] at I
              have HE := Lib.hid he
              clear he hb
              go_wp2_with fail
              go_quiet ((go_at_call 28; exact I.out _))
              go_wp2_with fail
              go_ret
              exact ⟨ret_bool (decide_eq_false (fun e => HE.out (Option.some.inj (E.out.1.symm.trans ((congrArg (fun l => l[k]?) e).trans E.out.2))))).symm, d + nq, by rw [HW.out, drewN_two]⟩
          · have hkl1 : ns.length ≤ k := by omega
            have hke : decide ((k : Int) < (ns.length : Int)) = false := decide_eq_false (by omega)
            have HK := Lib.hid (show k = ns.length by omega)
            go_wp2_with fail
            go_ret
            have hN := HN.out
            rw [HK.out] at hN
            exact ⟨ret_bool (decide_eq_true (hN.all HL.out)).symm, d, HW.out⟩
  · have hq : ((ns.length : Int) != (ms.length : Int)) = true := by rw [bne_iff_ne]; omega
    have hd : decide (ns = ms) = false := decide_eq_false (fun e => hl (by rw [e]))
    have HD := Lib.hid hd
    clear hl hd h h'
    go_enter Try.func19, Try.ntmps19
    go_wp2_with fail
    go_ret
    exact ⟨ret_bool HD.out.symm, 0, rfl⟩
end Go.Proofs.Ytniikfihfeledaa
