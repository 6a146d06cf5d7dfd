/-
  A list's terms in the places of handles: the law answers true.
-/
import Derived.Test.YtcoaneipajadiaaAwakeBd
import Derived.Test.YtcoaneipajadiaaRHands
import Derived.Test.YtcoaneipajadiaaSmallsTm
import Derived.Test.YtcoaneipajadiaaSameTm
namespace Go.Proofs.Ytcoaneipajadiaa
open Go.RowKit

set_option maxRecDepth 100000 in
set_option maxHeartbeats 4000000 in
theorem lawHands_any (v : Value) (l : List Tm) (x : Tv) (w : World) (hv : Tms w v l) (hx : x.ok w) :
    Calls Try.prog 7 #[v, x.val] w fun e w' => e = .returned (.bool true) ∧ Below w.heap.size w w' := by
  have AW := Lib.hid (fun W => awake_bd W)
  have SM := Lib.hid (fun (W : World) (h : Below w.heap.size w W) => small_tm x W (hx.below h))
  have SS := Lib.hid (fun (W : World) (h : Below w.heap.size w W) => smalls_tm v l W (hv.below h))
  have PA := Lib.hid (fun (hl : l.length ≤ 60) (hp : x.t.parts ≤ 300) (W : World) (h : Below w.heap.size w W) => (hands_any l v x w W hv (by omega) hx (by omega) h).mono (fun e w' ⟨z, h1, h2, h3, h4⟩ => (show ∃ z : Tv, e = Ending.returned (.tuple #[z.val, .bool (okH l x.t)]) ∧ z.t = (if okH l x.t = true then repT (fH l) x.t else zeroT) ∧ z.ok w' ∧ Below W.heap.size W w' from ⟨z, h1, h2, h3.ok (below_next h h4), h4⟩)))
  have RA := Lib.hid (fun (hp : x.t.parts ≤ 300) (W : World) (h : Below w.heap.size w W) => (rhands_tm l v w hv x W (by omega) hx h).mono (fun e w' ⟨z, h1, h2, h3, h4⟩ => (show ∃ z : Tv, e = Ending.returned (.tuple #[z.val, .bool (okH l x.t)]) ∧ z.t = (if okH l x.t = true then repT (fH l) x.t else zeroT) ∧ z.ok w' ∧ Below W.heap.size W w' from ⟨z, h1, h2, h3.ok (below_next h h4), h4⟩)))
  have SA := Lib.hid (fun (y z : Tv) (W : World) (h1 : y.ok W) (h2 : z.ok W) => same_tm y.t.parts y z W (Nat.le_refl _) h1 h2)
  clear hx
  obtain ⟨a, c, rfl, _, _⟩ := hv
  obtain ⟨t, ax, cx⟩ := x
  have hbx := box_new w (.int .i64 t.kind) (.string t.name) (.int .i64 t.n) (.slice ax t.args.length cx) 25
  have hw : Below w.heap.size w (w.alloc (.cells #[.int .i64 t.kind, .string t.name, .int .i64 t.n, .slice ax t.args.length cx] 25)) := (Below.refl _ _).alloc (Nat.le_refl _) _
  have hz : (w.alloc (.cells #[.int .i64 t.kind, .string t.name, .int .i64 t.n, .slice ax t.args.length cx] 25)).heap.size = w.heap.size + 1 := by simp
  obtain ⟨wb, hwb⟩ : ∃ wb, wb = (w.alloc (.cells #[.int .i64 t.kind, .string t.name, .int .i64 t.n, .slice ax t.args.length cx] 25)) := ⟨_, rfl⟩
  rw [← hwb] at hbx hw hz
  have HBX := Lib.hid (fun (V : World) (h : Below wb.heap.size wb V) => hbx.below h (by omega))
  have HW := Lib.hid (fun (V : World) (h : Below wb.heap.size wb V) => hw.trans (h.mono hw.size))
  clear hbx hw hz
  simp only [Tv.val] at *
  obtain ⟨bb, hbb⟩ : ∃ bb, okH l t = bb := ⟨_, rfl⟩
  obtain ⟨tt, htt⟩ : ∃ tt, (if okH l t = true then repT (fH l) t else zeroT) = tt := ⟨_, rfl⟩
  rw [htt, hbb] at PA RA
  have hq : (bb == bb) = true := by cases bb <;> rfl
  clear hbb htt
  go_enter Try.func7, Try.ntmps7
  go_wp2_with fail
  rw [← hwb]
  clear hwb
  refine (AW.out _).mono ?_; rintro e w1 ⟨rfl, hb1⟩
  go_wp2_with fail
  refine (SS.out _ (HW.out _ hb1)).mono ?_; rintro e w2 ⟨rfl, hb2⟩
  replace hb2 := below_next hb1 hb2
  clear hb1
  cases hf : smallsB l with
  | false =>
    have HE := Lib.hid (HW.out _ hb2)
    clear hb2
    go_wp2_with fail
    go_ret
    exact ⟨rfl, HE.out⟩
  | true =>
    obtain ⟨p0, p1, p2, p3, _, _, _, _⟩ := HBX.out w2 hb2
    go_wp2_with fail
    refine (SM.out _ (HW.out _ hb2)).mono ?_; rintro e w3 ⟨rfl, hb3⟩
    replace hb3 := below_next hb2 hb3
    clear p0 p1 p2 p3 hb2
    cases hs : smallB t with
    | false =>
      have HE := Lib.hid (HW.out _ hb3)
      clear hb3
      go_wp2_with fail
      go_ret
      exact ⟨rfl, HE.out⟩
    | true =>
      have hpp : t.parts ≤ 300 := small_parts hs
      have hll : l.length ≤ 60 := (smalls_of hf).1
      obtain ⟨p0, p1, p2, p3, _, _, _, _⟩ := HBX.out w3 hb3
      go_wp2_with fail
      refine (PA.out hll hpp _ (HW.out _ hb3)).mono ?_; rintro e w4 ⟨⟨ty, ay, cy⟩, rfl, hyt, hyo, hb4⟩
      replace hb4 := below_next hb3 hb4
      have hby := box_new w4 (.int .i64 ty.kind) (.string ty.name) (.int .i64 ty.n) (.slice ay ty.args.length cy) 25
      have hz4 : (w4.alloc (.cells #[.int .i64 ty.kind, .string ty.name, .int .i64 ty.n, .slice ay ty.args.length cy] 25)).heap.size = w4.heap.size + 1 := by simp
      have hb5 := hb4.alloc hb4.size (.cells #[.int .i64 ty.kind, .string ty.name, .int .i64 ty.n, .slice ay ty.args.length cy] 25)
      have hyo5 : Tv.ok (w4.alloc (.cells #[.int .i64 ty.kind, .string ty.name, .int .i64 ty.n, .slice ay ty.args.length cy] 25)) ⟨ty, ay, cy⟩ := hyo.below ((Below.refl _ _).alloc (Nat.le_refl _) _)
      obtain ⟨w5, hw5⟩ : ∃ w5, w5 = (w4.alloc (.cells #[.int .i64 ty.kind, .string ty.name, .int .i64 ty.n, .slice ay ty.args.length cy] 25)) := ⟨_, rfl⟩
      rw [← hw5] at hby hz4 hb5 hyo5
      have HBY := Lib.hid (fun (V : World) (h : Below w5.heap.size w5 V) => hby.below h (by omega))
      have HB5 := Lib.hid hb5
      have HYO := Lib.hid (fun (V : World) (h : Below w5.heap.size w5 V) => hyo5.below h)
      have HYT := Lib.hid hyt
      have HW5 := Lib.hid hw5
      clear hyt hyo hyo5 hb3 hb4 hz4 hby p0 p1 p2 p3 hs hf
      obtain ⟨p0, p1, p2, p3, _, _, _, _⟩ := HBX.out w5 hb5
      rw [hw5] at p0 p1 p2 p3
      clear hb5 hw5
      simp only
      go_wp2_with fail
      rw [← HW5.out]
      refine (RA.out hpp _ (HW.out _ HB5.out)).mono ?_; rintro e w6 ⟨⟨tz, az, cz⟩, rfl, hzt, hzo, hb6⟩
      have hb56 := hb6
      replace hb6 := below_next HB5.out hb6
      have hbz := box_new w6 (.int .i64 tz.kind) (.string tz.name) (.int .i64 tz.n) (.slice az tz.args.length cz) 25
      have hb7 := hb6.alloc hb6.size (.cells #[.int .i64 tz.kind, .string tz.name, .int .i64 tz.n, .slice az tz.args.length cz] 25)
      have hb57 : Below w5.heap.size w5 (w6.alloc (.cells #[.int .i64 tz.kind, .string tz.name, .int .i64 tz.n, .slice az tz.args.length cz] 25)) := hb56.alloc hb56.size _
      have hyz : ty = tz := by rw [show ty = _ from HYT.out, show tz = _ from hzt]
      have HS := Lib.hid (SA.out ⟨ty, ay, cy⟩ ⟨tz, az, cz⟩ _ (HYO.out _ hb57) (hzo.below ((Below.refl _ _).alloc (Nat.le_refl _) (.cells #[.int .i64 tz.kind, .string tz.name, .int .i64 tz.n, .slice az tz.args.length cz] 25))))
      simp only at HS
      rw [eqT_true hyz] at HS
      have HB7 := Lib.hid (HW.out _ hb7)
      obtain ⟨p0, p1, p2, p3, _, _, _, _⟩ := HBY.out _ hb57
      clear hb6 hb56 hb7 hb57 hzt hzo hyz
      simp only
      go_wp2_with fail
      refine HS.out.mono ?_; rintro e w8 ⟨rfl, hb8⟩
      have HEND := Lib.hid (below_next HB7.out hb8)
      clear hb8
      go_wp2_with fail
      go_ret
      exact ⟨rfl, HEND.out⟩
end Go.Proofs.Ytcoaneipajadiaa
