/-
  What a name stands for, by the reference of layer 5: Get.
-/
import Derived.Test.YtcecbdglepneaaaBds
import Derived.Test.YtcecbdglepneaaaFresh
namespace Go.Proofs.Ytcecbdglepneaaa
open Go.RowKit

set_option maxRecDepth 100000 in
set_option maxHeartbeats 4000000 in
theorem rget_any (v : Value) (bs : List Bn) (s : ByteArray) (w0 w : World) (hv : Bds w0 v bs) (hb0 : Below w0.heap.size w0 w) :
    Calls Try.prog 28 #[v, .string s] w (AtPost (getB bs s) w0 w) := by
  obtain ⟨a, c, rfl, hlm, hrow⟩ := hv
  have hw : Below w.heap.size w (w.alloc (.cells #[.int .i64 0, .string ⟨#[]⟩, .int .i64 0, .slice none 0 0] 25)) := (Below.refl _ _).alloc (Nat.le_refl _) _
  have bR := box_new w (.int .i64 0) (.string ⟨#[]⟩) (.int .i64 0) (.slice none 0 0) 25
  have HB := Lib.hid hb0
  have HR := Lib.hid hrow
  clear hb0 hrow
  go_enter Try.func28, Try.ntmps28
  go_wp2_with fail
  go_loopw [10] (fun i wr => ∃ k : Nat, k ≤ bs.length ∧ i = .int .i64 k ∧ Hid (getB (bs.take k) s = none) ∧ Below w.heap.size w wr ∧ w.heap.size + 1 ≤ wr.heap.size ∧ Hid (Box wr w.heap.size (.int .i64 0) (.string ⟨#[]⟩) (.int .i64 0) (.slice none 0 0))) (fun i _ => bs.length - (intOf i).toNat)
  case atStart => exact ⟨0, Nat.zero_le _, rfl, Lib.hid (by rw [List.take_zero]; rfl), hw, by simp, Lib.hid bR⟩
  case round =>
    obtain ⟨k, hk, rfl, HN, hb, hsz, HBR⟩ := hrel
    clear bR hw
    by_cases hkl : k < bs.length
    · obtain ⟨b, o, rfl, hlt, hat⟩ := HR.out.resolve_left (by intro h; rw [h] at hkl; simp at hkl)
      obtain ⟨x, hx⟩ : ∃ x, bs[k]? = some x := ⟨_, List.getElem?_eq_getElem hkl⟩
      obtain ⟨y, hyx, hyo, hy⟩ := bdAt_bv (hat k x hx)
      have hb0r := HB.out.trans (hb.mono HB.out.size)
      obtain ⟨m0, m1, m2, m3, m4⟩ : BvAt wr b (o + k * 5) y := ⟨(hb0r.cell (p := ⟨b, o + k * 5, none⟩) hlt).trans hy.c0, (hb0r.cell (p := ⟨b, o + k * 5 + 1, none⟩) hlt).trans hy.c1, (hb0r.cell (p := ⟨b, o + k * 5 + 2, none⟩) hlt).trans hy.c2, (hb0r.cell (p := ⟨b, o + k * 5 + 3, none⟩) hlt).trans hy.c3, (hb0r.cell (p := ⟨b, o + k * 5 + 4, none⟩) hlt).trans hy.c4⟩
      have hstep := getB_take HN.out hx
      have hL : Below wr.heap.size wr (wr.alloc (.cells #[.string y.s, .int .i64 y.v.t.kind, .string y.v.t.name, .int .i64 y.v.t.n, .slice y.v.a y.v.t.args.length y.v.c] 46)) := (Below.refl _ _).alloc (Nat.le_refl _) _
      have hbL := hb.trans (hL.mono hb.size)
      have hr := HBR.out.below hL (by omega)
      have hzL : (wr.alloc (.cells #[.string y.s, .int .i64 y.v.t.kind, .string y.v.t.name, .int .i64 y.v.t.n, .slice y.v.a y.v.t.args.length y.v.c] 46)).heap.size = wr.heap.size + 1 := by simp
      obtain ⟨ys, ⟨yt, ya, yc⟩⟩ := y
      obtain rfl : (ys, yt) = x := hyx
      have HST := Lib.hid hstep
      have HYO := Lib.hid hyo
      have HBL := Lib.hid hbL
      have HRR := Lib.hid hr
      have hk0 : (0 : Int) ≤ (k : Int) := by omega
      have hk1 : (k : Int) < (bs.length : Int) := by omega
      simp only at m0 m1 m2 m3 m4
      clear hstep hyo hy hat hx hbL hr
      cases he : (ys.toList == s.toList) with
      | true =>
        have hg : getB bs s = some yt := getB_some (k := k + 1) (by rw [HST.out, if_pos he])
        have HG := Lib.hid hg
        have HB2 := Lib.hid (HRR.out.sets (.int .i64 yt.kind) (.string yt.name) (.int .i64 yt.n) (.slice ya yt.args.length yc))
        obtain ⟨q0, q1, q2, q3, f0, f1, f2, f3⟩ := HRR.out
        clear hg
        go_wp2_with fail
        obtain ⟨q0, q1, q2, q3, f0, f1, f2, f3⟩ := HB2.out
        refine bodyPost_ret (v := .tuple #[.agg #[.int .i64 yt.kind, .string yt.name, .int .i64 yt.n, .slice ya yt.args.length yc], .bool true]) (by simp [results, Try.results28, go_sem, q0, q1, q2, q3]) rfl ?_
        rw [HG.out]
        exact ⟨⟨yt, ya, yc⟩, rfl, rfl, HYO.out, below_sets HBL.out (Nat.le_refl _) _ _ _ _⟩
      | false =>
        have HNN := Lib.hid (show getB (bs.take (k + 1)) s = none by rw [HST.out, if_neg (by rw [he]; simp)])
        go_wp2_with fail
        go_roundw
        case rel => exact ⟨k + 1, by omega, by go_num, HNN, HBL.out, by rw [hzL]; omega, HRR⟩
        case measure => simp [intOf]; omega
    · have hke : k = bs.length := by omega
      have hkd : decide ((k : Int) < (bs.length : Int)) = false := decide_eq_false (by omega)
      have hkl1 : bs.length ≤ k := by omega
      have HG := Lib.hid (show getB bs s = none by have h := HN.out; rw [hke, List.take_length] at h; exact h)
      have HB2 := Lib.hid (HBR.out.sets (.int .i64 0) (.string ⟨#[]⟩) (.int .i64 0) (.slice none 0 0))
      have HBE := Lib.hid hb
      obtain ⟨q0, q1, q2, q3, f0, f1, f2, f3⟩ := HBR.out
      clear hke hb
      go_wp2_with fail
      obtain ⟨q0, q1, q2, q3, f0, f1, f2, f3⟩ := HB2.out
      refine bodyPost_ret (v := .tuple #[.agg #[.int .i64 0, .string ⟨#[]⟩, .int .i64 0, .slice none 0 0], .bool false]) (by simp [results, Try.results28, go_sem, q0, q1, q2, q3]) rfl ?_
      rw [HG.out]
      exact ⟨zeroV, rfl, rfl, zeroV_ok _, below_sets HBE.out (Nat.le_refl _) _ _ _ _⟩
end Go.Proofs.Ytcecbdglepneaaa
