/-
  A term with another one at a place, by the reference's Put; and the law that the program's Put is so.
-/
import Derived.Test.YtniikfihfeledaaRPut
import Derived.Test.YtniikfihfeledaaPPut
namespace Go.Proofs.Ytniikfihfeledaa
open Go.RowKit

set_option maxRecDepth 100000 in
set_option maxHeartbeats 4000000 in
theorem rputf_tm (ps : List Int) (x y : Tv) (v : Value) (w0 w : World) (hx : x.ok w0) (hy : y.ok w0) (hv : Nums w0 v ps) (hb0 : Below w0.heap.size w0 w) (hp : x.t.parts ≤ 100000) :
    Calls Try.prog 15 #[x.val, v, y.val] w (PutPost (putO x.t ps y.t) w0 w) := by
  have AT := Lib.hid (fun (W : World) (h : Below w.heap.size w W) => at_tm w0 ps x v W hx hv (hb0.trans (h.mono hb0.size)))
  have PT := Lib.hid (fun (W : World) (c0 : Tm) (h : Below w.heap.size w W) (hc : putO x.t ps y.t = some c0) => rput_tm w0 ps x y v W c0 hx hy hv (hb0.trans (h.mono hb0.size)) hp hc)
  have hS := putO_isSome y.t ps x.t
  obtain ⟨po, hpo⟩ : ∃ po, putO x.t ps y.t = po := ⟨_, rfl⟩
  rw [hpo] at hS ⊢
  have HPO := Lib.hid hpo
  have HS := Lib.hid hS
  clear hx hy hb0 hpo hS
  obtain ⟨a, c, rfl, _, _, _, _⟩ := hv
  obtain ⟨t, ax, cx⟩ := x
  obtain ⟨u, ay, cy⟩ := y
  have hB3 : ∀ o1 o2 o3, Below w.heap.size w (((w.alloc o1).alloc o2).alloc o3) := fun o1 o2 o3 => (((Below.refl _ _).alloc (Nat.le_refl _) _).alloc (by simp) _).alloc (by simp; omega) _
  obtain ⟨wz, hwz⟩ : ∃ wz, wz = (((w.alloc (.cells #[.int .i64 t.kind, .string t.name, .int .i64 t.n, .slice ax t.args.length cx] 24)).alloc (.cells #[.int .i64 u.kind, .string u.name, .int .i64 u.n, .slice ay u.args.length cy] 24)).alloc (.cells #[.int .i64 0, .string ⟨#[]⟩, .int .i64 0, .slice none 0 0] 24)) := ⟨_, rfl⟩
  have hzs : wz.heap.size = w.heap.size + 3 := by rw [hwz]; simp
  have hBz : Below w.heap.size w wz := by rw [hwz]; exact hB3 _ _ _
  have bX : Box wz w.heap.size (.int .i64 t.kind) (.string t.name) (.int .i64 t.n) (.slice ax t.args.length cx) := by
    rw [hwz]
    exact (box_new w _ _ _ _ _).below (((Below.refl _ _).alloc (Nat.le_refl _) _).alloc (by simp) _) (by simp)
  have bY : Box wz (w.heap.size + 1) (.int .i64 u.kind) (.string u.name) (.int .i64 u.n) (.slice ay u.args.length cy) := by
    have h1 := (box_new (w.alloc (.cells #[.int .i64 t.kind, .string t.name, .int .i64 t.n, .slice ax t.args.length cx] 24)) (.int .i64 u.kind) (.string u.name) (.int .i64 u.n) (.slice ay u.args.length cy) 24).below ((Below.refl _ _).alloc (Nat.le_refl _) (.cells #[.int .i64 0, .string ⟨#[]⟩, .int .i64 0, .slice none 0 0] 24)) (by simp)
    rw [hwz]; simpa using h1
  have bR : Box wz (w.heap.size + 2) (.int .i64 0) (.string ⟨#[]⟩) (.int .i64 0) (.slice none 0 0) := by
    have h1 := box_new ((w.alloc (.cells #[.int .i64 t.kind, .string t.name, .int .i64 t.n, .slice ax t.args.length cx] 24)).alloc (.cells #[.int .i64 u.kind, .string u.name, .int .i64 u.n, .slice ay u.args.length cy] 24)) (.int .i64 0) (.string ⟨#[]⟩) (.int .i64 0) (.slice none 0 0) 24
    rw [hwz]; simpa using h1
  have HBX := Lib.hid (fun (W : World) (h : Below wz.heap.size wz W) => bX.below h (by omega))
  have HBY := Lib.hid (fun (W : World) (h : Below wz.heap.size wz W) => bY.below h (by omega))
  have HBR := Lib.hid (fun (W : World) (h : Below wz.heap.size wz W) => bR.below h (by omega))
  have HBZ := Lib.hid hBz
  have HZS := Lib.hid hzs
  have HWZ := Lib.hid hwz
  clear bX bY bR hBz hzs hB3
  simp only [Tv.val] at *
  go_enter Try.func15, Try.ntmps15
  go_wp2_with fail
  rw [← HWZ.out]
  clear hwz
  refine (AT.out _ HBZ.out).mono ?_; rintro e w1 ⟨⟨ty, aY, cY⟩, he, hyt0, hyo0, hb1⟩; clear hyt0 hyo0
  rw [← HS.out] at he
  subst he
  have hb2 := hb1.alloc hb1.size (.cells #[.int .i64 ty.kind, .string ty.name, .int .i64 ty.n, .slice aY ty.args.length cY] 24)
  have HB2 := Lib.hid hb2
  have HB2W := Lib.hid (HBZ.out.trans (hb2.mono HBZ.out.size))
  have hzw := HZS.out
  simp only [Tv.val]
  cases po with
  | none =>
    have hbR := HBR.out _ hb2
    have BR8 := Lib.hid (hbR.sets (.int .i64 0) (.string ⟨#[]⟩) (.int .i64 0) (.slice none 0 0))
    obtain ⟨q0, q1, q2, q3, f0, f1, f2, f3⟩ := hbR
    clear hb1 hb2
    go_wp2_with fail
    obtain ⟨q0, q1, q2, q3, f0, f1, f2, f3⟩ := BR8.out
    refine bodyPost_ret (v := .tuple #[.agg #[.int .i64 0, .string ⟨#[]⟩, .int .i64 0, .slice none 0 0], .bool false]) (by simp [results, Try.results15, go_sem, q0, q1, q2, q3]) rfl ?_
    exact ⟨zeroV, rfl, rfl, fun _ _ _ _ => zeroV_ok _, below_sets HB2W.out (by omega) _ _ _ _⟩
  | some c0 =>
    obtain ⟨p0, p1, p2, p3, _, _, _, _⟩ := HBX.out _ hb2
    obtain ⟨y0, y1, y2, y3, _, _, _, _⟩ := HBY.out _ hb2
    have P := Lib.hid (PT.out _ c0 HB2W.out HPO.out)
    clear hb1 hb2
    go_wp2_with fail
    refine P.out.mono ?_; rintro e w5 ⟨⟨z, az, cz⟩, rfl, hzt, hzf, hb5⟩
    have HZT := Lib.hid hzt
    have HZF := Lib.hid hzf
    have hbR := HBR.out w5 (below_next HB2.out hb5)
    have BR8 := Lib.hid (hbR.sets (.int .i64 z.kind) (.string z.name) (.int .i64 z.n) (.slice az z.args.length cz))
    obtain ⟨q0, q1, q2, q3, f0, f1, f2, f3⟩ := hbR
    have HB5 := Lib.hid hb5
    clear hzt hzf hb5 p0 p1 p2 p3 y0 y1 y2 y3
    simp only
    go_wp2_with fail
    obtain ⟨q0, q1, q2, q3, f0, f1, f2, f3⟩ := BR8.out
    refine bodyPost_ret (v := .tuple #[.agg #[.int .i64 z.kind, .string z.name, .int .i64 z.n, .slice az z.args.length cz], .bool true]) (by simp [results, Try.results15, go_sem, q0, q1, q2, q3]) rfl ?_
    have hwe := below_next HB2W.out HB5.out
    have hs2 := HB2.out.size
    have hs5 := HB5.out.size
    refine ⟨⟨z, az, cz⟩, rfl, HZT.out, fun W hWb hWs hWa => ?_, below_sets hwe (by omega) _ _ _ _⟩
    have hkk : ∀ k, k ≠ w.heap.size + 2 → ((((w5.setCell ⟨w.heap.size + 2, 0, none⟩ (.int .i64 z.kind)).setCell ⟨w.heap.size + 2, 1, none⟩ (.string z.name)).setCell ⟨w.heap.size + 2, 2, none⟩ (.int .i64 z.n)).setCell ⟨w.heap.size + 2, 3, none⟩ (.slice az z.args.length cz)).heap[k]? = w5.heap[k]? := fun k hkR => by
      rw [Below.heap_setCell _ _ _ _ hkR, Below.heap_setCell _ _ _ _ hkR, Below.heap_setCell _ _ _ _ hkR, Below.heap_setCell _ _ _ _ hkR]
    exact HZF.out W hWb (by simpa using hWs) (fun k k1 k2 => by rw [hWa k (by omega) (by simpa using k2), hkk k (by omega)])
end Go.Proofs.Ytniikfihfeledaa
