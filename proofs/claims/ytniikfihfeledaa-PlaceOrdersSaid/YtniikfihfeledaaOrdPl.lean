/-
  Places, whether one begins with another, and which of two is first, by the reference of layer 4: Below, Compare.
-/
import Derived.Test.YtniikfihfeledaaIntsTm
namespace Go.Proofs.Ytniikfihfeledaa
open Go.RowKit

theorem prefix_of_to {ns ms : List Int} (h : NumsTo ns ms ns.length) (hl : ns.length ≤ ms.length) : ns <+: ms := by
  rw [List.prefix_iff_eq_take]
  apply List.ext_getElem?; intro j
  rcases Nat.lt_or_ge j ns.length with hj | hj
  · rw [h j hj, List.getElem?_take, if_pos hj]
  · rw [List.getElem?_eq_none hj, List.getElem?_eq_none (by rw [List.length_take]; omega)]
theorem not_prefix {ns ms : List Int} {k : Nat} {x y : Int} (h1 : ns[k]? = some x) (h2 : ms[k]? = some y) (hne : x ≠ y) : ¬ ns <+: ms := fun h => by
  obtain ⟨r, rfl⟩ := h
  have hk : k < ns.length := (List.getElem?_eq_some_iff.1 h1).1
  rw [List.getElem?_append_left hk, h1] at h2
  exact hne (Option.some.inj h2)
set_option maxRecDepth 100000 in
set_option maxHeartbeats 1000000 in
theorem below_any (v u : Value) (ns ms : List Int) (w : World) (hv : Nums w v ns) (hu : Nums w u ms) :
    Calls Try.prog 23 #[v, u] w fun e w' => e = .returned (.bool (decide (ns <+: ms))) ∧ ∃ k, w' = w.drewN k := by
  obtain ⟨a, c, rfl, hlc, hcm, _, h⟩ := hv
  obtain ⟨a', c', rfl, hlc', hcm', _, h'⟩ := hu
  by_cases hl : ns.length ≤ ms.length
  · have hq : decide ((ms.length : Int) < (ns.length : Int)) = false := decide_eq_false (by omega)
    have HL := Lib.hid hl
    rcases h with rfl | ⟨b, off, rfl, hlt, hc⟩
    · have HPX := Lib.hid (show ([] : List Int) <+: ms from List.nil_prefix)
      have hq2 : decide ((ms.length : Int) < 0) = false := decide_eq_false (by omega)
      clear hl hq h'
      go_enter Try.func23, Try.ntmps23
      go_wp2_with fail
      refine wp_loop_rounds 1 ?_; rw [rounds_succ]
      go_wp2_with fail
      go_ret
      exact ⟨ret_bool (decide_eq_true HPX.out).symm, 0, rfl⟩
    · rcases h' with rfl | ⟨b', off', rfl, hlt', hc'⟩
      · obtain rfl : ns = [] := List.eq_nil_of_length_eq_zero (by simpa using hl)
        clear hl hq hc
        go_enter Try.func23, Try.ntmps23
        go_wp2_with fail
        refine wp_loop_rounds 1 ?_; rw [rounds_succ]
        go_wp2_with fail
        go_ret
        exact ⟨rfl, 0, rfl⟩
      · have HC := Lib.hid hc
        have HC' := Lib.hid hc'
        clear hc hc'
        go_enter Try.func23, Try.ntmps23
        go_wp2_with fail
        go_loopw [13] (fun i wr => ∃ k d : Nat, k ≤ ns.length ∧ i = .int .i64 k ∧ Hid (wr = w.drewN d) ∧ Hid (NumsTo ns ms k)) (fun i _ => ns.length - (intOf i).toNat)
        case atStart => exact ⟨0, 0, Nat.zero_le _, rfl, Lib.hid rfl, Lib.hid (fun j hj => by omega)⟩
        case round =>
          obtain ⟨k, d, hk, rfl, HW, HN⟩ := hrel
          by_cases hkl : k < ns.length
          · have hkm : k < ms.length := by have := HL.out; omega
            have e1 : ns[k]? = some ns[k] := List.getElem?_eq_getElem hkl
            have e2 : ms[k]? = some ms[k] := List.getElem?_eq_getElem hkm
            have c1 : wr.cell? ⟨b, off + k, none⟩ = some (.int .i64 ns[k]) := by rw [HW.out]; exact HC.out k _ e1
            have c2 : wr.cell? ⟨b', off' + k, none⟩ = some (.int .i64 ms[k]) := by rw [HW.out]; exact HC'.out k _ e2
            obtain ⟨x, hx⟩ : ∃ x, ns[k] = x := ⟨_, rfl⟩
            obtain ⟨y, hy⟩ : ∃ y, ms[k] = y := ⟨_, rfl⟩
            rw [hx] at c1 e1
            rw [hy] at c2 e2
            have E := Lib.hid (And.intro e1 e2)
            clear hx hy e1 e2
            have hk0 : (0 : Int) ≤ (k : Int) := by omega
            have hk1 : (k : Int) < (ns.length : Int) := by omega
            have hk2 : (k : Int) < (ms.length : Int) := by omega
            by_cases he : x = y
            · have hb : (x != y) = false := by simp [he]
              have HE := Lib.hid he
              clear he
              go_wp2_with fail
              go_quiet (fail)
              go_wp2_with fail
              go_roundw
              case rel => exact ⟨k + 1, d + nq, by omega, by go_num, Lib.hid (by rw [HW.out, drewN_two]), Lib.hid (HN.out.succ (by rw [E.out.1, E.out.2, HE.out]))⟩
              case measure => simp [intOf]; omega
            · have hb : (x != y) = true := by rw [bne_iff_ne]; exact he
              have HE := Lib.hid he
              clear he
              go_wp2_with fail
              go_quiet (fail)
              go_wp2_with fail
              go_ret
              exact ⟨ret_bool (decide_eq_false (not_prefix E.out.1 E.out.2 HE.out)).symm, d + nq, by rw [HW.out, drewN_two]⟩
          · have hkl1 : ns.length ≤ k := by omega
            have hke : decide ((k : Int) < (ns.length : Int)) = false := decide_eq_false (by omega)
            have HK := Lib.hid (show k = ns.length by omega)
            go_wp2_with fail
            go_ret
            have hN := HN.out
            rw [HK.out] at hN
            exact ⟨ret_bool (decide_eq_true (prefix_of_to hN HL.out)).symm, d, HW.out⟩
  · have hq : decide ((ms.length : Int) < (ns.length : Int)) = true := decide_eq_true (by omega)
    have hd : decide (ns <+: ms) = false := decide_eq_false (fun e => hl e.length_le)
    have HD := Lib.hid hd
    have hlt : ms.length < ns.length := by omega
    clear hl hd h h'
    go_enter Try.func23, Try.ntmps23
    go_wp2_with fail
    go_ret
    exact ⟨ret_bool HD.out.symm, 0, rfl⟩
/-- Which of two places is first: -1, 0 or 1. -/
def cmpP : List Int → List Int → Int
  | [], [] => 0
  | [], _ :: _ => -1
  | _ :: _, [] => 1
  | x :: r, y :: s => if x < y then -1 else if y < x then 1 else cmpP r s
theorem cmpP_step {ns ms : List Int} {k : Nat} {x y : Int} (h1 : ns[k]? = some x) (h2 : ms[k]? = some y) : cmpP (ns.drop k) (ms.drop k) = if x < y then -1 else if y < x then 1 else cmpP (ns.drop (k + 1)) (ms.drop (k + 1)) := by
  obtain ⟨hk, rfl⟩ := List.getElem?_eq_some_iff.1 h1
  obtain ⟨hm, rfl⟩ := List.getElem?_eq_some_iff.1 h2
  rw [List.drop_eq_getElem_cons hk, List.drop_eq_getElem_cons hm, cmpP]
theorem cmpP_out {ns ms : List Int} {k : Nat} (hk : k < ns.length) (hm : ms.length ≤ k) : cmpP (ns.drop k) (ms.drop k) = 1 := by
  rw [List.drop_eq_getElem_cons hk, List.drop_eq_nil_of_le hm, cmpP]
theorem cmpP_end {ns ms : List Int} (h : ns.length ≤ ms.length) : cmpP (ns.drop ns.length) (ms.drop ns.length) = if ns.length < ms.length then -1 else 0 := by
  rw [List.drop_length]
  by_cases hl : ns.length < ms.length
  · rw [if_pos hl, List.drop_eq_getElem_cons hl, cmpP]
  · rw [if_neg hl, List.drop_eq_nil_of_le (by omega), cmpP]

set_option maxRecDepth 100000 in
set_option maxHeartbeats 1000000 in
theorem pcompare_any (v u : Value) (ns ms : List Int) (w : World) (hv : Nums w v ns) (hu : Nums w u ms) :
    Calls Try.prog 25 #[v, u] w fun e w' => e = .returned (.int .i64 (cmpP ns ms)) ∧ ∃ k, w' = w.drewN k := by
  obtain ⟨a, c, rfl, hlc, hcm, _, h⟩ := hv
  obtain ⟨a', c', rfl, hlc', hcm', _, h'⟩ := hu
  have HC : Hid (∀ k, k < ns.length → ∃ b off x, a = some ⟨b, off, none⟩ ∧ ns[k]? = some x ∧ w.cell? ⟨b, off + k, none⟩ = some (.int .i64 x)) := Lib.hid (fun k hk => by
    rcases h with rfl | ⟨b, off, ha, _, hc⟩
    · simp at hk
    · exact ⟨b, off, ns[k], ha, List.getElem?_eq_getElem hk, hc k _ (List.getElem?_eq_getElem hk)⟩)
  have HC' : Hid (∀ k, k < ms.length → ∃ b off x, a' = some ⟨b, off, none⟩ ∧ ms[k]? = some x ∧ w.cell? ⟨b, off + k, none⟩ = some (.int .i64 x)) := Lib.hid (fun k hk => by
    rcases h' with rfl | ⟨b, off, ha, _, hc⟩
    · simp at hk
    · exact ⟨b, off, ms[k], ha, List.getElem?_eq_getElem hk, hc k _ (List.getElem?_eq_getElem hk)⟩)
  clear h h'
  have H0 := Lib.hid (show cmpP ns ms = cmpP (ns.drop 0) (ms.drop 0) by rw [List.drop_zero, List.drop_zero])
  go_enter Try.func25, Try.ntmps25
  go_wp2_with fail
  go_loopw [8] (fun i wr => ∃ k d : Nat, k ≤ ns.length ∧ k ≤ ms.length ∧ i = .int .i64 k ∧ Hid (wr = w.drewN d) ∧ Hid (cmpP ns ms = cmpP (ns.drop k) (ms.drop k))) (fun i _ => ns.length - (intOf i).toNat)
  case atStart => exact ⟨0, 0, Nat.zero_le _, Nat.zero_le _, rfl, Lib.hid rfl, H0⟩
  case round =>
    obtain ⟨k, d, hk, hkm, rfl, HW, HN⟩ := hrel
    by_cases hkl : k < ns.length
    · obtain ⟨b, off, x, rfl, e1, c1⟩ := HC.out k hkl
      have hk0 : (0 : Int) ≤ (k : Int) := by omega
      have hk1 : (k : Int) < (ns.length : Int) := by omega
      by_cases hml : k < ms.length
      · obtain ⟨b', off', y, rfl, e2, c2⟩ := HC'.out k hml
        have ho : decide ((ms.length : Int) ≤ (k : Int)) = false := decide_eq_false (by omega)
        have hk2 : (k : Int) < (ms.length : Int) := by omega
        have HS := Lib.hid (HN.out.trans (cmpP_step e1 e2))
        replace c1 : wr.cell? ⟨b, off + k, none⟩ = some (.int .i64 x) := by rw [HW.out]; exact c1
        replace c2 : wr.cell? ⟨b', off' + k, none⟩ = some (.int .i64 y) := by rw [HW.out]; exact c2
        clear e1 e2
        rcases Int.lt_or_le x y with hxy | hxy
        · have hq : decide (x < y) = true := decide_eq_true hxy
          have HE := Lib.hid (HS.out.trans (if_pos hxy))
          clear hxy
          go_wp2_with fail
          go_quiet (fail)
          go_wp2_with fail
          go_ret
          exact ⟨by rw [HE.out]; rfl, d + nq, by rw [HW.out, drewN_two]⟩
        · have hq : decide (x < y) = false := decide_eq_false (by omega)
          rcases Int.lt_or_le y x with hyx | hyx
          · have hq2 : decide (y < x) = true := decide_eq_true hyx
            have HE := Lib.hid (HS.out.trans ((if_neg (by omega)).trans (if_pos hyx)))
            clear hxy hyx
            go_wp2_with fail
            go_quiet (fail)
            obtain ⟨wq, n1, hwq, hw2⟩ : ∃ (wq : World) (n1 : Nat), wq = wr.drewN n1 ∧ wr.drewN nq = wq := ⟨_, nq, rfl, rfl⟩
            rw [hw2]
            clear hw2
            have c3 : wq.cell? ⟨b, off + k, none⟩ = some (.int .i64 x) := by rw [hwq]; exact c1
            have c4 : wq.cell? ⟨b', off' + k, none⟩ = some (.int .i64 y) := by rw [hwq]; exact c2
            have HQ := Lib.hid hwq
            clear hwq
            go_wp2_with fail
            go_quiet (fail)
            go_wp2_with fail
            go_ret
            exact ⟨by rw [HE.out]; rfl, d + (n1 + nq), by rw [HQ.out, HW.out, drewN_two, drewN_two]⟩
          · have hq2 : decide (y < x) = false := decide_eq_false (by omega)
            have HE := Lib.hid (HS.out.trans ((if_neg (by omega)).trans (if_neg (by omega))))
            clear hxy hyx
            go_wp2_with fail
            go_quiet (fail)
            obtain ⟨wq, n1, hwq, hw2⟩ : ∃ (wq : World) (n1 : Nat), wq = wr.drewN n1 ∧ wr.drewN nq = wq := ⟨_, nq, rfl, rfl⟩
            rw [hw2]
            clear hw2
            have c3 : wq.cell? ⟨b, off + k, none⟩ = some (.int .i64 x) := by rw [hwq]; exact c1
            have c4 : wq.cell? ⟨b', off' + k, none⟩ = some (.int .i64 y) := by rw [hwq]; exact c2
            have HQ := Lib.hid hwq
            clear hwq
            go_wp2_with fail
            go_quiet (fail)
            go_wp2_with fail
            go_roundw
            case rel => exact ⟨k + 1, d + (n1 + nq), by omega, by omega, by go_num, Lib.hid (by rw [HQ.out, HW.out, drewN_two, drewN_two]), HE⟩
            case measure => simp [intOf]; omega
      · have ho : decide ((ms.length : Int) ≤ (k : Int)) = true := decide_eq_true (by omega)
        have ho2 : ms.length ≤ k := by omega
        have HE := Lib.hid (HN.out.trans (cmpP_out hkl (by omega)))
        go_wp2_with fail
        go_ret
        exact ⟨by rw [HE.out]; rfl, d, HW.out⟩
    · have hkl1 : ns.length ≤ k := by omega
      have HK := Lib.hid (show k = ns.length by omega)
      have hke : decide ((k : Int) < (ns.length : Int)) = false := decide_eq_false (by omega)
      have hE : cmpP ns ms = if ns.length < ms.length then -1 else 0 := by
        have h1 := HN.out; rw [HK.out] at h1; exact h1.trans (cmpP_end (by have := HK.out; omega))
      by_cases hlt : ns.length < ms.length
      · have hq : decide ((ns.length : Int) < (ms.length : Int)) = true := decide_eq_true (by omega)
        have HE := Lib.hid (hE.trans (if_pos hlt))
        clear hE
        go_wp2_with fail
        go_ret
        exact ⟨by rw [HE.out]; rfl, d, HW.out⟩
      · have hq : decide ((ns.length : Int) < (ms.length : Int)) = false := decide_eq_false (by omega)
        have HE := Lib.hid (hE.trans (if_neg hlt))
        clear hE
        have hlt2 : ms.length ≤ ns.length := by omega
        go_wp2_with fail
        go_ret
        exact ⟨by rw [HE.out]; rfl, d, HW.out⟩
end Go.Proofs.Ytniikfihfeledaa
