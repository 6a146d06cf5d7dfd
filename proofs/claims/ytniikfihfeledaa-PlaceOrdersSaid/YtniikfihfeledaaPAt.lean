/-
  What stands at a place, by the program's At.
-/
import Derived.Test.YtniikfihfeledaaSets
namespace Go.Proofs.Ytniikfihfeledaa
open Go.RowKit

set_option maxHeartbeats 1000000 in
theorem phas_any (x : Tv) (i : Int) (w : World) :
    Calls Try.prog 32 #[x.val, .int .i64 i] w fun e w' => e = .returned (.bool (decide (0 ≤ i) && decide (i < (x.t.args.length : Int)))) ∧ Below w.heap.size w w' := by
  obtain ⟨t, a, c⟩ := x
  have bX := box_new w (.int .i64 t.kind) (.string t.name) (.int .i64 t.n) (.slice a t.args.length c) 24
  obtain ⟨p0, p1, p2, p3, _, _, _, _⟩ := bX
  have hB : Below w.heap.size w (w.alloc (.cells #[.int .i64 t.kind, .string t.name, .int .i64 t.n, .slice a t.args.length c] 24)) := (Below.refl _ _).alloc (Nat.le_refl _) _
  simp only [Tv.val]
  cases hd : decide (0 ≤ i) with
  | false =>
    go_enter Try.func32, Try.ntmps32
    go_wp2_with fail
    go_ret
    exact ⟨rfl, hB⟩
  | true =>
    go_enter Try.func32, Try.ntmps32
    go_wp2_with fail
    go_ret
    exact ⟨by simp, hB⟩

set_option maxRecDepth 100000 in
set_option maxHeartbeats 4000000 in
theorem pat_tm (x : Tv) (v : Value) (ns : List Int) (w0 w : World) (hx : x.ok w0) (hv : Nums w0 v ns) (hb0 : Below w0.heap.size w0 w) :
    Calls Try.prog 10 #[x.val, v] w (AtPost (atT x.t ns) w0 w) := by
  obtain ⟨a, c, rfl, hlc, hcm, hbd, hcell⟩ := hv
  obtain ⟨t, ax, cx⟩ := x
  have hz1 : (w.alloc (.cells #[.int .i64 t.kind, .string t.name, .int .i64 t.n, .slice ax t.args.length cx] 24)).heap.size = w.heap.size + 1 := by simp
  have hB2 : Below w.heap.size w ((w.alloc (.cells #[.int .i64 t.kind, .string t.name, .int .i64 t.n, .slice ax t.args.length cx] 24)).alloc (.cells #[.int .i64 0, .string ⟨#[]⟩, .int .i64 0, .slice none 0 0] 24)) := ((Below.refl _ _).alloc (Nat.le_refl _) _).alloc (by rw [hz1]; omega) _
  have bX := (box_new w (.int .i64 t.kind) (.string t.name) (.int .i64 t.n) (.slice ax t.args.length cx) 24).below ((Below.refl _ _).alloc (Nat.le_refl _) (.cells #[.int .i64 0, .string ⟨#[]⟩, .int .i64 0, .slice none 0 0] 24)) (by rw [hz1]; omega)
  have bR := box_new (w.alloc (.cells #[.int .i64 t.kind, .string t.name, .int .i64 t.n, .slice ax t.args.length cx] 24)) (.int .i64 0) (.string ⟨#[]⟩) (.int .i64 0) (.slice none 0 0) 24
  rw [hz1] at bR
  have HX := Lib.hid hx
  have HB := Lib.hid hb0
  have HC := Lib.hid hcell
  clear hx hb0 hcell hbd
  simp only [Tv.val] at *
  go_enter Try.func10, Try.ntmps10
  go_wp2_with fail
  go_loopw [10] (fun i wr => ∃ j : Nat, j ≤ ns.length ∧ i = .int .i64 j ∧ Below w.heap.size w wr ∧ w.heap.size + 2 ≤ wr.heap.size ∧ Hid (∃ u : Tv, atT t (ns.take j) = some u.t ∧ u.ok w0 ∧ Box wr w.heap.size (.int .i64 u.t.kind) (.string u.t.name) (.int .i64 u.t.n) (.slice u.a u.t.args.length u.c)) ∧
    Hid (Box wr (w.heap.size + 1) (.int .i64 0) (.string ⟨#[]⟩) (.int .i64 0) (.slice none 0 0))) (fun i _ => ns.length - (intOf i).toNat)
  case atStart => exact ⟨0, Nat.zero_le _, rfl, hB2, by simp, Lib.hid ⟨⟨t, ax, cx⟩, by rw [List.take_zero, atT_nil], HX.out, bX⟩, Lib.hid bR⟩
  case round =>
    obtain ⟨j, hj, rfl, hb, hsz, hu, hr⟩ := hrel
    obtain ⟨⟨tu, au, cu⟩, hat, huo, hbu⟩ := hu.out
    clear hu bX bR
    by_cases hjl : j < ns.length
    · obtain ⟨n, hn⟩ : ∃ n, ns[j]? = some n := ⟨_, List.getElem?_eq_getElem hjl⟩
      obtain ⟨b, off, rfl, hlt, hcs⟩ := HC.out.resolve_left (by intro h; rw [h] at hjl; simp at hjl)
      have hcn := ((HB.out.trans (hb.mono HB.out.size)).cell (p := ⟨b, off + j, none⟩) hlt).trans (hcs j n hn)
      have HAS := Lib.hid (phas_any ⟨tu, au, cu⟩ n wr)
      have HAT := Lib.hid hat
      have HUO := Lib.hid huo
      have HBU := Lib.hid hbu
      have HN := Lib.hid hn
      obtain ⟨p0, p1, p2, p3, _, _, _, _⟩ := hbu
      simp only [Tv.val] at *
      have hji : (j : Int) < (ns.length : Int) := by omega
      clear hat huo hn hcs
      go_wp2_with fail
      refine HAS.out.mono ?_; rintro e w1 ⟨rfl, hb1⟩
      have hb01 : Below w.heap.size w w1 := hb.trans (hb1.mono hb.size)
      have hs1 : w.heap.size + 2 ≤ w1.heap.size := Nat.le_trans hsz hb1.size
      have hbR := hr.out.below hb1 (by omega)
      have hbU := HBU.out.below hb1 (by omega)
      clear HBU HAS p0 p1 p2 p3 hcn
      by_cases hh : 0 ≤ n ∧ n < (tu.args.length : Int)
      · obtain ⟨k, rfl⟩ : ∃ k : Nat, n = (k : Int) := ⟨n.toNat, by omega⟩
        have hkl : k < tu.args.length := by omega
        have hd1 : decide ((0 : Int) ≤ (k : Int)) = true := decide_eq_true (by omega)
        have hd2 : decide ((k : Int) < (tu.args.length : Int)) = true := decide_eq_true (by omega)
        obtain ⟨b', o', rfl, hlt', hrow⟩ := HUO.out.2.2.resolve_left (by intro h; simp only at h; rw [h] at hkl; simp at hkl)
        obtain ⟨y, hyt, hyo, hy⟩ := tmAt_tv (rowAt_get hrow hkl)
        have hB1 := HB.out.trans (hb01.mono HB.out.size)
        obtain ⟨m0, m1, m2, m3⟩ : TvAt w1 b' (o' + k * 4) y := ⟨(hB1.cell (p := ⟨b', o' + k * 4, none⟩) hlt').trans hy.c0, (hB1.cell (p := ⟨b', o' + k * 4 + 1, none⟩) hlt').trans hy.c1, (hB1.cell (p := ⟨b', o' + k * 4 + 2, none⟩) hlt').trans hy.c2, (hB1.cell (p := ⟨b', o' + k * 4 + 3, none⟩) hlt').trans hy.c3⟩
        have HAT2 := Lib.hid (show atT t (ns.take (j + 1)) = some y.t by rw [atT_take_succ HAT.out HN.out, atT_one hkl, hyt])
        have HYO := Lib.hid hyo
        have HBU2 := Lib.hid hbU
        obtain ⟨p0, p1, p2, p3, f0, f1, f2, f3⟩ := hbU
        have hki : (k : Int) < (tu.args.length : Int) := by omega
        clear hyt hyo hy hrow hh
        go_wp2_with fail
        go_roundw
        case rel =>
          exact ⟨j + 1, by omega, by go_num, below_sets hb01 (Nat.le_refl _) _ _ _ _, by simp; omega, Lib.hid ⟨y, HAT2.out, HYO.out, HBU2.out.sets _ _ _ _⟩, Lib.hid (hbR.asides (by omega) _ _ _ _)⟩
        case measure => simp [intOf]; omega
      · have hE := Lib.hid (atT_stop HAT.out HN.out hh)
        have hdd : (decide ((0 : Int) ≤ n) && decide (n < (tu.args.length : Int))) = false := by
          rw [Bool.and_eq_false_iff, decide_eq_false_iff_not, decide_eq_false_iff_not]; omega
        rw [hdd]
        have HBR := Lib.hid (hbR.sets (.int .i64 0) (.string ⟨#[]⟩) (.int .i64 0) (.slice none 0 0))
        obtain ⟨q0, q1, q2, q3, g0, g1, g2, g3⟩ := hbR
        clear hh hdd
        go_wp2_with fail
        obtain ⟨q0, q1, q2, q3, g0, g1, g2, g3⟩ := HBR.out
        refine bodyPost_ret (v := .tuple #[.agg #[.int .i64 0, .string ⟨#[]⟩, .int .i64 0, .slice none 0 0], .bool false]) (by simp [results, Try.results10, go_sem, q0, q1, q2, q3]) rfl ?_
        rw [hE.out]
        exact ⟨zeroV, rfl, rfl, zeroV_ok _, below_sets hb01 (by omega) _ _ _ _⟩
    · have hje : j = ns.length := by omega
      have hjd : decide ((j : Int) < (ns.length : Int)) = false := decide_eq_false (by omega)
      have hjl1 : ns.length ≤ j := by omega
      have HAT := Lib.hid (show atT t ns = some tu by rw [hje, List.take_length] at hat; exact hat)
      have HUO := Lib.hid huo
      have HBR := Lib.hid (hr.out.sets (.int .i64 tu.kind) (.string tu.name) (.int .i64 tu.n) (.slice au tu.args.length cu))
      obtain ⟨p0, p1, p2, p3, _, _, _, _⟩ := hbu
      obtain ⟨q0, q1, q2, q3, g0, g1, g2, g3⟩ := hr.out
      clear hat huo hje
      go_wp2_with fail
      obtain ⟨q0, q1, q2, q3, g0, g1, g2, g3⟩ := HBR.out
      refine bodyPost_ret (v := .tuple #[.agg #[.int .i64 tu.kind, .string tu.name, .int .i64 tu.n, .slice au tu.args.length cu], .bool true]) (by simp [results, Try.results10, go_sem, q0, q1, q2, q3]) rfl ?_
      rw [HAT.out]
      exact ⟨⟨tu, au, cu⟩, rfl, rfl, HUO.out, below_sets hb (by omega) _ _ _ _⟩
end Go.Proofs.Ytniikfihfeledaa
