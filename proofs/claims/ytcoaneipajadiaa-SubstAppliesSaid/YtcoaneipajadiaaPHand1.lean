/-
  What stands for a handle, by the closure that the program's Hands makes.
-/
import Derived.Test.YtcoaneipajadiaaPRep
namespace Go.Proofs.Ytcoaneipajadiaa
open Go.RowKit

/-- Whether a handle is one of a list's; what stands for it; whether nothing is missing. -/
def inH (l : List Tm) (t : Tm) : Bool := decide (t.kind = 3) && (decide (1 ≤ t.n) && decide (t.n ≤ l.length))
def fH (l : List Tm) (t : Tm) : Option Tm := if inH l t = true then l[(t.n - 1).toNat]? else none
def oH (l : List Tm) (t : Tm) : Bool := !(decide (t.kind = 3) && !(decide (1 ≤ t.n) && decide (t.n ≤ l.length)))
def QH (B gl gw : Nat) (v : Value) (b : Bool) (W : World) : Prop :=
  W.cell? ⟨gw, 0, none⟩ = some (.bool b) ∧ W.frozen? ⟨gw, 0, none⟩ = false ∧ W.cell? ⟨gl, 0, none⟩ = some v ∧ gl < B ∧ gw < B ∧ gl ≠ gw
theorem QH.below {B gl gw : Nat} {v : Value} {b : Bool} {W W' : World} (h : QH B gl gw v b W) (hb : Below B W W') : QH B gl gw v b W' := by
  obtain ⟨h1, h2, h3, h4, h5, h6⟩ := h
  exact ⟨(hb.cell (p := ⟨gw, 0, none⟩) h5).trans h1, (hb.frozen (p := ⟨gw, 0, none⟩) h5).trans h2, (hb.cell (p := ⟨gl, 0, none⟩) h4).trans h3, h4, h5, h6⟩
theorem QH.miss {B gl gw : Nat} {v : Value} {b : Bool} {W : World} (h : QH B gl gw v b W) : QH B gl gw v false (W.setCell ⟨gw, 0, none⟩ (.bool false)) := by
  obtain ⟨h1, h2, h3, h4, h5, h6⟩ := h
  exact ⟨World.cell?_setCell_same _ _ _ h1, by simp [h2], (cell_aside ⟨gw, 0, none⟩ ⟨gl, 0, none⟩ h6).trans h3, h4, h5, h6⟩
theorem grown_miss {w w1 : World} {gw : Nat} (h : w.grownBy w1 (some gw)) (x : Value) : w.grownBy (w1.setCell ⟨gw, 0, none⟩ x) (some gw) :=
  ⟨h.os, h.tape, h.output, by simpa using h.size, fun b hb hne => by rw [Below.heap_setCell _ _ _ _ (fun e => hne (by rw [e]))]; exact h.block b hb hne⟩

theorem below_two (w : World) (a b : Obj) : Below w.heap.size w ((w.alloc a).alloc b) := ((Below.refl _ _).alloc (Nat.le_refl _) _).alloc (by simp) _
theorem alloc_two (w : World) (a : Obj) (x0 x1 x2 x3 : Value) (ty : TypeId) : Box ((w.alloc a).alloc (.cells #[x0, x1, x2, x3] ty)) (w.heap.size + 1) x0 x1 x2 x3 := by
  have h := box_new (w.alloc a) x0 x1 x2 x3 ty
  rwa [show (w.alloc a).heap.size = w.heap.size + 1 by simp] at h
set_option maxRecDepth 100000 in
set_option maxHeartbeats 4000000 in
theorem hand_any (l : List Tm) (v : Value) (w0 : World) (hv : Tms w0 v l) (hl : l.length ≤ 100000) (B gl gw : Nat) : Tells 50 #[.pointer (some ⟨gl, 0, none⟩), .pointer (some ⟨gw, 0, none⟩)] (fH l) (oH l) w0 B (some gw) (QH B gl gw v) := by
  intro b x w hx hb0 hBW hq
  show Calls Try.prog 50 #[x.val, .pointer (some ⟨gl, 0, none⟩), .pointer (some ⟨gw, 0, none⟩)] w _
  obtain ⟨t, ax, cx⟩ := x
  have hz1 : (w.alloc (.cells #[.int .i64 t.kind, .string t.name, .int .i64 t.n, .slice ax t.args.length cx] 25)).heap.size = w.heap.size + 1 := by simp
  have hB2 : Below w.heap.size w ((w.alloc (.cells #[.int .i64 t.kind, .string t.name, .int .i64 t.n, .slice ax t.args.length cx] 25)).alloc (.cells #[.int .i64 0, .string ⟨#[]⟩, .int .i64 0, .slice none 0 0] 25)) := ((Below.refl _ _).alloc (Nat.le_refl _) _).alloc (by rw [hz1]; omega) _
  obtain ⟨wz, hwz⟩ : ∃ wz, wz = ((w.alloc (.cells #[.int .i64 t.kind, .string t.name, .int .i64 t.n, .slice ax t.args.length cx] 25)).alloc (.cells #[.int .i64 0, .string ⟨#[]⟩, .int .i64 0, .slice none 0 0] 25)) := ⟨_, rfl⟩
  have hzs : wz.heap.size = w.heap.size + 2 := by rw [hwz]; simp
  have bR := box_new (w.alloc (.cells #[.int .i64 t.kind, .string t.name, .int .i64 t.n, .slice ax t.args.length cx] 25)) (.int .i64 0) (.string ⟨#[]⟩) (.int .i64 0) (.slice none 0 0) 25
  rw [hz1] at bR
  rw [← hwz] at bR hB2
  have HBR := Lib.hid bR
  have HBZ := Lib.hid hB2
  have HQ := Lib.hid (hq.below (hB2.mono hBW))
  have HFI := Lib.hid hx.1
  have HQ0 := Lib.hid hq
  obtain ⟨cw, fw, cl, hgl, hgw, hne⟩ := hq
  have hnl1 : gl < w.heap.size := by omega
  have hnl2 : gl < w.heap.size + 1 := by omega
  have hnw1 : gw < w.heap.size := by omega
  have hnw2 : gw < w.heap.size + 1 := by omega
  obtain ⟨a, c, rfl, hA⟩ := hv
  have HA := Lib.hid hA
  have HB0 := Lib.hid (hb0.trans (hB2.mono hb0.size))
  clear hz1 bR hx hA hb0 hB2
  simp only [Tv.val] at *
  by_cases hk : t.kind = 3
  · have hkd : (t.kind == 3) = true := by rw [hk]; rfl
    have hkn : (t.kind != 3) = false := by rw [hk]; rfl
    by_cases hin : 1 ≤ t.n ∧ t.n ≤ l.length
    · have HF := Lib.hid (show fH l t = l[(t.n - 1).toNat]? ∧ oH l t = true by
        have h1 : inH l t = true := by unfold inH; rw [decide_eq_true hk, decide_eq_true hin.1, decide_eq_true hin.2]; rfl
        refine ⟨if_pos h1, ?_⟩
        unfold oH; rw [decide_eq_true hk, decide_eq_true hin.1, decide_eq_true hin.2]; rfl)
      obtain ⟨q, hq⟩ : ∃ q : Nat, t.n = q + 1 := ⟨(t.n - 1).toNat, by omega⟩
      have hql : q < l.length := by omega
      have n1 : ¬ t.n < 1 := by omega
      have n2 : ¬ (l.length : Int) < t.n := by omega
      have n3 : t.n - 1 = (q : Int) := by omega
      have HN3 := Lib.hid (show (t.n - 1).toNat = q by omega)
      obtain ⟨b', o', rfl, hlt', hrow⟩ := HA.out.2.resolve_left (by intro h; rw [h] at hql; simp at hql)
      obtain ⟨y, hyt, hyo, hy⟩ := tmAt_tv (rowAt_get hrow hql)
      obtain ⟨m0, m1, m2, m3⟩ : TvAt wz b' (o' + q * 4) y := ⟨(HB0.out.cell (p := ⟨b', o' + q * 4, none⟩) hlt').trans hy.c0, (HB0.out.cell (p := ⟨b', o' + q * 4 + 1, none⟩) hlt').trans hy.c1, (HB0.out.cell (p := ⟨b', o' + q * 4 + 2, none⟩) hlt').trans hy.c2, (HB0.out.cell (p := ⟨b', o' + q * 4 + 3, none⟩) hlt').trans hy.c3⟩
      obtain ⟨zt, za, zc⟩ := y
      simp only at hyt hyo m0 m1 m2 m3
      have HGET := Lib.hid (show l[q]? = some zt by rw [List.getElem?_eq_getElem hql, hyt])
      have HYO := Lib.hid hyo
      have hq0 : (0 : Int) ≤ (q : Int) := by omega
      have hq1 : (q : Int) < (l.length : Int) := by omega
      have BR8 := Lib.hid (HBR.out.sets (.int .i64 zt.kind) (.string zt.name) (.int .i64 zt.n) (.slice za zt.args.length zc))
      rw [hwz] at m0 m1 m2 m3
      clear hk hin hq hrow hy hyt hyo
      go_enter Try.func50, Try.ntmps50
      go_wp2_with fail
      obtain ⟨q0, q1, q2, q3, _, _, _, _⟩ := alloc_two w (.cells #[.int .i64 t.kind, .string t.name, .int .i64 t.n, .slice ax t.args.length cx] 25) (.int .i64 zt.kind) (.string zt.name) (.int .i64 zt.n) (.slice za zt.args.length zc) 25
      refine bodyPost_ret (v := .tuple #[.agg #[.int .i64 zt.kind, .string zt.name, .int .i64 zt.n, .slice za zt.args.length zc], .bool true]) (by simp [results, Try.results50, go_sem, q0, q1, q2, q3]) rfl ?_
      exact ⟨⟨zt, za, zc⟩, by rw [HF.out.1, HN3.out, HGET.out]; rfl, by rw [HF.out.1, HN3.out, HGET.out]; rfl, HYO.out, grown_of_below (below_two w _ _) _, by rw [HF.out.2, Bool.and_true]; exact HQ0.out.below ((below_two w _ _).mono hBW)⟩
    · have HF := Lib.hid (show fH l t = none ∧ oH l t = false by
        have h1 : (decide (1 ≤ t.n) && decide (t.n ≤ l.length)) = false := by
          rw [Bool.and_eq_false_iff, decide_eq_false_iff_not, decide_eq_false_iff_not]; omega
        refine ⟨if_neg (by unfold inH; rw [h1]; simp), ?_⟩
        unfold oH; rw [decide_eq_true hk, h1]; rfl)
      have HQM := Lib.hid HQ0.out.miss
      have HGM := Lib.hid (grown_miss (grown_refl w (some gw)) (.bool false))
      have hBW2 : B ≤ (w.setCell ⟨gw, 0, none⟩ (.bool false)).heap.size := by simpa using hBW
      have FIN := Lib.hid (fun (oa ob : Obj) => (show w.grownBy (((w.setCell ⟨gw, 0, none⟩ (.bool false)).alloc oa).alloc ob) (some gw) ∧ QH B gl gw (.slice a l.length c) false (((w.setCell ⟨gw, 0, none⟩ (.bool false)).alloc oa).alloc ob) from
        ⟨grown_alloc (grown_alloc HGM.out _) _, HQM.out.below ((below_two _ _ _).mono hBW2)⟩))
      have hz2 : (w.setCell ⟨gw, 0, none⟩ (.bool false)).heap.size = w.heap.size := by simp
      have hq := alloc_two (w.setCell ⟨gw, 0, none⟩ (.bool false)) (.cells #[.int .i64 t.kind, .string t.name, .int .i64 t.n, .slice ax t.args.length cx] 25) (.int .i64 0) (.string ⟨#[]⟩) (.int .i64 0) (.slice none 0 0) 25
      rw [hz2] at hq
      have HQQ := Lib.hid hq
      clear hk hq hz2 hBW2
      rcases (show t.n < 1 ∨ (¬ t.n < 1 ∧ (l.length : Int) < t.n) from by omega) with n1 | ⟨n1, n2⟩
      all_goals
        clear hin
        go_enter Try.func50, Try.ntmps50
        go_wp2_with fail
        obtain ⟨q0, q1, q2, q3, _, _, _, _⟩ := HQQ.out
        refine bodyPost_ret (v := .tuple #[.agg #[.int .i64 0, .string ⟨#[]⟩, .int .i64 0, .slice none 0 0], .bool false]) (by simp [results, Try.results50, go_sem, q0, q1, q2, q3]) rfl ?_
        exact ⟨zeroV, by rw [HF.out.1]; rfl, by rw [HF.out.1]; rfl, zeroV_ok _, (FIN.out _ _).1, by rw [HF.out.2, Bool.and_false]; exact (FIN.out _ _).2⟩
  · have hkd : (t.kind == 3) = false := by rw [beq_eq_false_iff_ne]; exact hk
    have hkn : (t.kind != 3) = true := by rw [bne, hkd]; rfl
    have HF := Lib.hid (show fH l t = none ∧ oH l t = true from ⟨if_neg (by unfold inH; rw [decide_eq_false hk]; simp), by unfold oH; rw [decide_eq_false hk]; rfl⟩)
    clear hk
    go_enter Try.func50, Try.ntmps50
    go_wp2_with fail
    rw [← hwz]
    obtain ⟨q0, q1, q2, q3, f0, f1, f2, f3⟩ := HBR.out
    refine bodyPost_ret (v := .tuple #[.agg #[.int .i64 0, .string ⟨#[]⟩, .int .i64 0, .slice none 0 0], .bool false]) (by simp [results, Try.results50, go_sem, q0, q1, q2, q3]) rfl ?_
    exact ⟨zeroV, by rw [HF.out.1]; rfl, by rw [HF.out.1]; rfl, zeroV_ok _, grown_of_below HBZ.out _, by rw [HF.out.2, Bool.and_true]; exact HQ.out⟩
end Go.Proofs.Ytcoaneipajadiaa
