/-
  How two places stand to each other, by the program's Below, Apart and Compare, and by the library's Equal and Compare at rows of int's.
-/
import Derived.Test.YtniikfihfeledaaOrdPl
import Derived.Test.YtniikfihfeledaaPCmpTm
namespace Go.Proofs.Ytniikfihfeledaa
open Go.RowKit

set_option maxRecDepth 100000 in
set_option maxHeartbeats 1000000 in
theorem pequal_any (v u : Value) (ns ms : List Int) (w : World) (hv : Nums w v ns) (hu : Nums w u ms) :
    Calls Try.prog 37 #[v, u] w fun e w' => e = .returned (.bool (decide (ns = ms))) ∧ ∃ k, w' = w.drewN k := by
  obtain ⟨a, c, rfl, hlc, hcm, _, h⟩ := hv
  obtain ⟨a', c', rfl, hlc', hcm', _, h'⟩ := hu
  by_cases hl : ns.length = ms.length
  · have hq : ((ns.length : Int) != (ms.length : Int)) = false := by simp [hl]
    have HL := Lib.hid hl
    rcases h with rfl | ⟨b, off, rfl, hlt, hc⟩
    · obtain rfl : ms = [] := List.eq_nil_of_length_eq_zero (by simpa using hl.symm)
      clear hl hq h'
      go_enter Try.func37, Try.ntmps37
      go_wp2_with fail
      refine wp_loop_rounds 1 ?_; rw [rounds_succ]
      go_wp2_with fail
      go_ret
      exact ⟨rfl, 0, rfl⟩
    · rcases h' with rfl | ⟨b', off', rfl, hlt', hc'⟩
      · obtain rfl : ns = [] := List.eq_nil_of_length_eq_zero (by simpa using hl)
        clear hl hq hc
        go_enter Try.func37, Try.ntmps37
        go_wp2_with fail
        refine wp_loop_rounds 1 ?_; rw [rounds_succ]
        go_wp2_with fail
        go_ret
        exact ⟨rfl, 0, rfl⟩
      · have HC := Lib.hid hc
        have HC' := Lib.hid hc'
        clear hc hc'
        go_enter Try.func37, Try.ntmps37
        go_wp2_with fail
        go_loopw [13] (fun i wr => ∃ k d : Nat, k ≤ ns.length ∧ i = .int .i64 k ∧ Hid (wr = w.drewN d) ∧ Hid (NumsTo ns ms k)) (fun i _ => ns.length - (intOf i).toNat)
        case atStart => exact ⟨0, 0, Nat.zero_le _, rfl, Lib.hid rfl, Lib.hid (fun j hj => by omega)⟩
        case round =>
          obtain ⟨k, d, hk, rfl, HW, HN⟩ := hrel
          by_cases hkl : k < ns.length
          · have hkm : k < ms.length := by have := HL.out; omega
            have e1 : ns[k]? = some ns[k] := List.getElem?_eq_getElem hkl
            have e2 : ms[k]? = some ms[k] := List.getElem?_eq_getElem hkm
            have c1 : wr.cell? ⟨b, off + k, none⟩ = some (.int .i64 ns[k]) := by rw [HW.out]; exact HC.out k _ e1
            have c2 : wr.cell? ⟨b', off' + k, none⟩ = some (.int .i64 ms[k]) := by rw [HW.out]; exact HC'.out k _ e2
            obtain ⟨x, hx⟩ : ∃ x, ns[k] = x := ⟨_, rfl⟩
            obtain ⟨y, hy⟩ : ∃ y, ms[k] = y := ⟨_, rfl⟩
            rw [hx] at c1 e1
            rw [hy] at c2 e2
            have E := Lib.hid (And.intro e1 e2)
            clear hx hy e1 e2
            have hk0 : (0 : Int) ≤ (k : Int) := by omega
            have hk1 : (k : Int) < (ns.length : Int) := by omega
            have hk2 : (k : Int) < (ms.length : Int) := by omega
            by_cases he : x = y
            · have hb : (x != y) = false := by simp [he]
              have HE := Lib.hid he
              clear he
              go_wp2_with fail
              go_quiet (fail)
              go_wp2_with fail
              go_roundw
              case rel => exact ⟨k + 1, d + nq, by omega, by go_num, Lib.hid (by rw [HW.out, drewN_two]), Lib.hid (HN.out.succ (by rw [E.out.1, E.out.2, HE.out]))⟩
              case measure => simp [intOf]; omega
            · have hb : (x != y) = true := by rw [bne_iff_ne]; exact he
              have HE := Lib.hid he
              clear he
              go_wp2_with fail
              go_quiet (fail)
              go_wp2_with fail
              go_ret
              exact ⟨ret_bool (decide_eq_false (fun e => HE.out (by have := E.out.1; rw [e, E.out.2] at this; exact (Option.some.inj this).symm))).symm, d + nq, by rw [HW.out, drewN_two]⟩
          · have hkl1 : ns.length ≤ k := by omega
            have hke : decide ((k : Int) < (ns.length : Int)) = false := decide_eq_false (by omega)
            have HK := Lib.hid (show k = ns.length by omega)
            go_wp2_with fail
            go_ret
            have hN := HN.out
            rw [HK.out] at hN
            exact ⟨ret_bool (decide_eq_true (hN.all HL.out)).symm, d, HW.out⟩
  · have hq : ((ns.length : Int) != (ms.length : Int)) = true := by rw [bne_iff_ne]; omega
    have hd : decide (ns = ms) = false := decide_eq_false (fun e => hl (by rw [e]))
    have HD := Lib.hid hd
    clear hl hd h h'
    go_enter Try.func37, Try.ntmps37
    go_wp2_with fail
    go_ret
    exact ⟨ret_bool HD.out.symm, 0, rfl⟩
theorem cmpP_stepI {ns ms : List Int} {k : Nat} {x y : Int} (h1 : ns[k]? = some x) (h2 : ms[k]? = some y) : cmpP (ns.drop k) (ms.drop k) = if cmpI x y = 0 then cmpP (ns.drop (k + 1)) (ms.drop (k + 1)) else cmpI x y := by
  rw [cmpP_step h1 h2]
  unfold cmpI
  by_cases h : x < y
  · simp [h]
  · by_cases h' : y < x
    · simp [h, h']
    · simp [h, h']

set_option maxRecDepth 100000 in
set_option maxHeartbeats 1000000 in
theorem scompare_any (v u : Value) (ns ms : List Int) (w : World) (hv : Nums w v ns) (hu : Nums w u ms) :
    Calls Try.prog 36 #[v, u] w fun e w' => e = .returned (.int .i64 (cmpP ns ms)) ∧ w = w' := by
  obtain ⟨a, c, rfl, hlc, hcm, _, h⟩ := hv
  obtain ⟨a', c', rfl, hlc', hcm', _, h'⟩ := hu
  have HC : Hid (∀ k, k < ns.length → ∃ b off x, a = some ⟨b, off, none⟩ ∧ ns[k]? = some x ∧ w.cell? ⟨b, off + k, none⟩ = some (.int .i64 x)) := Lib.hid (fun k hk => by
    rcases h with rfl | ⟨b, off, ha, _, hc⟩
    · simp at hk
    · exact ⟨b, off, ns[k], ha, List.getElem?_eq_getElem hk, hc k _ (List.getElem?_eq_getElem hk)⟩)
  have HC' : Hid (∀ k, k < ms.length → ∃ b off x, a' = some ⟨b, off, none⟩ ∧ ms[k]? = some x ∧ w.cell? ⟨b, off + k, none⟩ = some (.int .i64 x)) := Lib.hid (fun k hk => by
    rcases h' with rfl | ⟨b, off, ha, _, hc⟩
    · simp at hk
    · exact ⟨b, off, ms[k], ha, List.getElem?_eq_getElem hk, hc k _ (List.getElem?_eq_getElem hk)⟩)
  clear h h'
  have H0 := Lib.hid (show cmpP ns ms = cmpP (ns.drop 0) (ms.drop 0) by rw [List.drop_zero, List.drop_zero])
  go_enter Try.func36, Try.ntmps36
  go_wp2_with fail
  go_loopw [11] (fun i wr => ∃ k : Nat, k ≤ ns.length ∧ k ≤ ms.length ∧ i = .int .i64 k ∧ Hid (wr = w) ∧ Hid (cmpP ns ms = cmpP (ns.drop k) (ms.drop k))) (fun i _ => ns.length - (intOf i).toNat)
  case atStart => exact ⟨0, Nat.zero_le _, Nat.zero_le _, rfl, Lib.hid rfl, H0⟩
  case round =>
    obtain ⟨k, hk, hkm, rfl, HW, HN⟩ := hrel
    by_cases hkl : k < ns.length
    · obtain ⟨b, off, x, rfl, e1, c1⟩ := HC.out k hkl
      have hk0 : (0 : Int) ≤ (k : Int) := by omega
      have hk1 : (k : Int) < (ns.length : Int) := by omega
      replace c1 : wr.cell? ⟨b, off + k, none⟩ = some (.int .i64 x) := by rw [HW.out]; exact c1
      by_cases hml : k < ms.length
      · obtain ⟨b', off', y, rfl, e2, c2⟩ := HC'.out k hml
        have ho : decide ((ms.length : Int) ≤ (k : Int)) = false := decide_eq_false (by omega)
        have hk2 : (k : Int) < (ms.length : Int) := by omega
        have HS := Lib.hid (HN.out.trans (cmpP_stepI e1 e2))
        have hbd := cmpI_bd x y
        replace c2 : wr.cell? ⟨b', off' + k, none⟩ = some (.int .i64 y) := by rw [HW.out]; exact c2
        have C := Lib.hid (cmpI_any x y wr)
        clear e1 e2
        go_wp2_with fail
        refine C.out.mono ?_; rintro e w1 ⟨rfl, rfl⟩
        obtain ⟨d, hd⟩ : ∃ d, cmpI x y = d := ⟨_, rfl⟩
        rw [hd] at hbd ⊢
        have HD := Lib.hid hd
        clear hd
        by_cases h0 : d = 0
        · have HE := Lib.hid (HS.out.trans (if_pos (by rw [HD.out]; exact h0)))
          have hq : (d != 0) = false := by simp [h0]
          clear h0
          go_wp2_with fail
          go_roundw
          case rel => exact ⟨k + 1, by omega, by omega, by go_num, HW, HE⟩
          case measure => simp [intOf]; omega
        · have HE := Lib.hid ((HS.out.trans (if_neg (by rw [HD.out]; exact h0))).trans HD.out)
          have hq : (d != 0) = true := by rw [bne_iff_ne]; exact h0
          clear h0
          go_wp2_with fail
          go_ret
          exact ⟨by rw [HE.out]; rfl, HW.out.symm⟩
      · have ho : decide ((ms.length : Int) ≤ (k : Int)) = true := decide_eq_true (by omega)
        have ho2 : ms.length ≤ k := by omega
        have HE := Lib.hid (HN.out.trans (cmpP_out hkl (by omega)))
        clear e1
        go_wp2_with fail
        go_ret
        exact ⟨by rw [HE.out]; rfl, HW.out.symm⟩
    · have hkl1 : ns.length ≤ k := by omega
      have HK := Lib.hid (show k = ns.length by omega)
      have hke : decide ((k : Int) < (ns.length : Int)) = false := decide_eq_false (by omega)
      have hE : cmpP ns ms = if ns.length < ms.length then -1 else 0 := by
        have h1 := HN.out; rw [HK.out] at h1; exact h1.trans (cmpP_end (by have := HK.out; omega))
      by_cases hlt : ns.length < ms.length
      · have hq : decide ((ns.length : Int) < (ms.length : Int)) = true := decide_eq_true (by omega)
        have HE := Lib.hid (hE.trans (if_pos hlt))
        clear hE
        go_wp2_with fail
        go_ret
        exact ⟨by rw [HE.out]; rfl, HW.out.symm⟩
      · have hq : decide ((ns.length : Int) < (ms.length : Int)) = false := decide_eq_false (by omega)
        have HE := Lib.hid (hE.trans (if_neg hlt))
        clear hE
        have hlt2 : ms.length ≤ ns.length := by omega
        go_wp2_with fail
        go_ret
        exact ⟨by rw [HE.out]; rfl, HW.out.symm⟩
theorem plcompare_any (v u : Value) (ns ms : List Int) (w : World) (hv : Nums w v ns) (hu : Nums w u ms) :
    Calls Try.prog 18 #[v, u] w fun e w' => e = .returned (.int .i64 (cmpP ns ms)) ∧ w = w' := by
  have C := Lib.hid (scompare_any v u ns ms w hv hu)
  go_enter Try.func18, Try.ntmps18
  go_wp2_with fail
  refine C.out.mono ?_; rintro e w1 ⟨rfl, rfl⟩
  go_wp2_with fail
  go_ret
  exact ⟨rfl, rfl⟩
/-- The beginning of a place. -/
theorem Nums.take {w : World} {a : Option Addr} {c n : Nat} {ms : List Int} (h : Nums w (.slice a ms.length c) ms) (hn : n ≤ ms.length) : Nums w (.slice a n c) (ms.take n) := by
  obtain ⟨a', c', hv, hl, hc, hb, h⟩ := h
  cases hv
  refine ⟨a, c, by rw [List.length_take, Nat.min_eq_left hn], by rw [List.length_take]; omega, hc, fun x hx => hb x (List.mem_of_mem_take hx), ?_⟩
  rcases h with rfl | ⟨b, off, rfl, hlt, hcs⟩
  · exact .inl (by simp)
  · refine .inr ⟨b, off, rfl, hlt, fun j x hj => hcs j x ?_⟩
    have hjn : j < n := by
      have := (List.getElem?_eq_some_iff.1 hj).1
      rw [List.length_take] at this; omega
    rwa [List.getElem?_take, if_pos hjn] at hj
theorem prefix_take {ns ms : List Int} : ns <+: ms ↔ ns.length ≤ ms.length ∧ ns = ms.take ns.length := by
  constructor
  · intro h
    exact ⟨h.length_le, List.prefix_iff_eq_take.1 h⟩
  · intro h
    exact List.prefix_iff_eq_take.2 h.2
set_option maxHeartbeats 1000000 in
theorem pbelow_any (v u : Value) (ns ms : List Int) (w : World) (hv : Nums w v ns) (hu : Nums w u ms) :
    Calls Try.prog 24 #[v, u] w fun e w' => e = .returned (.bool (decide (ns <+: ms))) ∧ ∃ k, w' = w.drewN k := by
  have C : Hid (∀ a c n, u = .slice a ms.length c → n = ns.length → ns.length ≤ ms.length → Calls Try.prog 37 #[v, .slice a n c] w fun e w' => e = .returned (.bool (decide (ns = ms.take ns.length))) ∧ ∃ k, w' = w.drewN k) :=
    Lib.hid (fun a c n h hn hl => by subst h; subst hn; exact pequal_any v (.slice a ns.length c) ns (ms.take ns.length) w hv (hu.take hl))
  obtain ⟨a, c, rfl, hlc, hcm, _, _⟩ := hv
  obtain ⟨a', c', rfl, hlc', hcm', _, _⟩ := hu
  rcases Nat.lt_or_ge ms.length ns.length with hl | hl
  · have hd : decide ((ns.length : Int) ≤ (ms.length : Int)) = false := decide_eq_false (by omega)
    have HE := Lib.hid (show decide (ns <+: ms) = false from decide_eq_false (fun h => by have := h.length_le; omega))
    have hl2 : ¬ ns.length ≤ ms.length := by omega
    clear hl
    go_enter Try.func24, Try.ntmps24
    go_wp2_with fail
    go_ret
    exact ⟨by rw [HE.out]; rfl, 0, rfl⟩
  · have hd : decide ((ns.length : Int) ≤ (ms.length : Int)) = true := decide_eq_true (by omega)
    have h0 : (0 : Int) ≤ (ns.length : Int) := by omega
    have h1 : (ns.length : Int) ≤ (c' : Int) := by omega
    have HE := Lib.hid (show decide (ns <+: ms) = decide (ns = ms.take ns.length) from by rw [decide_eq_decide, prefix_take]; exact ⟨fun h => h.2, fun h => ⟨hl, h⟩⟩)
    have C2 := Lib.hid (C.out a' c' ns.length rfl rfl hl)
    clear C
    go_enter Try.func24, Try.ntmps24
    go_wp2_with fail
    refine C2.out.mono ?_; rintro e w1 ⟨rfl, d, hw1⟩
    have HW := Lib.hid hw1
    clear hw1
    go_wp2_with fail
    go_ret
    exact ⟨by rw [HE.out]; rfl, d, HW.out⟩
set_option maxHeartbeats 1000000 in
theorem papart_any (v u : Value) (ns ms : List Int) (w : World) (hv : Nums w v ns) (hu : Nums w u ms) :
    Calls Try.prog 16 #[v, u] w fun e w' => e = .returned (.bool (!decide (ns <+: ms) && !decide (ms <+: ns))) ∧ ∃ k, w' = w.drewN k := by
  have C1 := Lib.hid (pbelow_any v u ns ms w hv hu)
  have C2 := Lib.hid (fun k => pbelow_any u v ms ns (w.drewN k) (hu.below (below_drewN (Below.refl _ _) k)) (hv.below (below_drewN (Below.refl _ _) k)))
  obtain ⟨x, hx⟩ : ∃ x, decide (ns <+: ms) = x := ⟨_, rfl⟩
  obtain ⟨y, hy⟩ : ∃ y, decide (ms <+: ns) = y := ⟨_, rfl⟩
  rw [hx] at C1 ⊢
  simp only [hy] at C2 ⊢
  clear hx hy
  cases x with
  | true =>
    go_enter Try.func16, Try.ntmps16
    go_wp2_with fail
    refine C1.out.mono ?_; rintro e w1 ⟨rfl, d, hw1⟩
    have HW := Lib.hid hw1
    clear hw1
    go_wp2_with fail
    go_ret
    exact ⟨rfl, d, HW.out⟩
  | false =>
    go_enter Try.func16, Try.ntmps16
    go_wp2_with fail
    refine C1.out.mono ?_; rintro e w1 ⟨rfl, d, hw1⟩
    subst hw1
    go_wp2_with fail
    refine (C2.out d).mono ?_; rintro e w2 ⟨rfl, d2, hw2⟩
    have HW := Lib.hid hw2
    clear hw2
    go_wp2_with fail
    go_ret
    exact ⟨by simp, d + d2, by rw [HW.out]; simp [World.drewN, Nat.add_assoc]⟩
end Go.Proofs.Ytniikfihfeledaa
