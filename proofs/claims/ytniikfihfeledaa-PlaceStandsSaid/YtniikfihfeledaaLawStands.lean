/-
  What stands at any place of any term: the law answers true.
-/
import Derived.Test.YtniikfihfeledaaAwakePl
import Derived.Test.YtniikfihfeledaaSmallTm
import Derived.Test.YtniikfihfeledaaSameTm
namespace Go.Proofs.Ytniikfihfeledaa
open Go.RowKit

set_option maxRecDepth 100000 in
set_option maxHeartbeats 2000000 in
theorem lawStands_any (x : Tv) (v : Value) (ns : List Int) (w : World) (hx : x.ok w) (hv : Nums w v ns) :
    Calls Try.prog 3 #[x.val, v] w fun e w' => e = .returned (.bool true) ∧ Below w.heap.size w w' := by
  have AW := Lib.hid (fun W => awake_pl W)
  have SM := Lib.hid (fun (W : World) (h : Below w.heap.size w W) => small_tm x W (hx.below h))
  have PA := Lib.hid (fun (W : World) (h : Below w.heap.size w W) => pat_tm x v ns w W hx hv h)
  have RA := Lib.hid (fun (W : World) (h : Below w.heap.size w W) => at_tm w ns x v W hx hv h)
  have SA := Lib.hid (fun (y z : Tv) (W : World) (h1 : y.ok W) (h2 : z.ok W) => same_tm y.t.parts y z W (Nat.le_refl _) h1 h2)
  clear hx
  obtain ⟨a, c, rfl, hlc, hcm, _, _⟩ := hv
  obtain ⟨t, ax, cx⟩ := x
  have hbx := box_new w (.int .i64 t.kind) (.string t.name) (.int .i64 t.n) (.slice ax t.args.length cx) 24
  have hw : Below w.heap.size w (w.alloc (.cells #[.int .i64 t.kind, .string t.name, .int .i64 t.n, .slice ax t.args.length cx] 24)) := (Below.refl _ _).alloc (Nat.le_refl _) _
  have hz : (w.alloc (.cells #[.int .i64 t.kind, .string t.name, .int .i64 t.n, .slice ax t.args.length cx] 24)).heap.size = w.heap.size + 1 := by simp
  obtain ⟨wb, hwb⟩ : ∃ wb, wb = (w.alloc (.cells #[.int .i64 t.kind, .string t.name, .int .i64 t.n, .slice ax t.args.length cx] 24)) := ⟨_, rfl⟩
  rw [← hwb] at hbx hw hz
  have HBX := Lib.hid (fun (V : World) (h : Below wb.heap.size wb V) => hbx.below h (by omega))
  have HW := Lib.hid (fun (V : World) (h : Below wb.heap.size wb V) => hw.trans (h.mono hw.size))
  clear hbx hw hz
  simp only [Tv.val] at *
  go_enter Try.func3, Try.ntmps3
  go_wp2_with fail
  rw [← hwb]
  clear hwb
  refine (AW.out _).mono ?_; rintro e w1 ⟨rfl, hb1⟩
  obtain ⟨p0, p1, p2, p3, _, _, _, _⟩ := HBX.out w1 hb1
  go_wp2_with fail
  refine (SM.out _ (HW.out _ hb1)).mono ?_; rintro e w2 ⟨rfl, hb2⟩
  replace hb2 := below_next hb1 hb2
  clear p0 p1 p2 p3 hb1
  cases hs : smallB t with
  | false =>
    have HE := Lib.hid (HW.out _ hb2)
    clear hb2
    go_wp2_with fail
    go_ret
    exact ⟨rfl, HE.out⟩
  | true =>
    rcases Int.lt_or_le 100 (ns.length : Int) with hl | hl
    · have hd : decide ((100 : Int) < (ns.length : Int)) = true := decide_eq_true hl
      have HE := Lib.hid (HW.out _ hb2)
      clear hb2
      go_wp2_with fail
      go_ret
      exact ⟨rfl, HE.out⟩
    · have hd : decide ((100 : Int) < (ns.length : Int)) = false := decide_eq_false (by omega)
      obtain ⟨p0, p1, p2, p3, _, _, _, _⟩ := HBX.out w2 hb2
      go_wp2_with fail
      refine (PA.out _ (HW.out _ hb2)).mono ?_; rintro e w3 ⟨⟨ty, ay, cy⟩, rfl, hyt, hyo, hb3⟩
      replace hb3 := below_next hb2 hb3
      have hby := box_new w3 (.int .i64 ty.kind) (.string ty.name) (.int .i64 ty.n) (.slice ay ty.args.length cy) 24
      have hz3 : (w3.alloc (.cells #[.int .i64 ty.kind, .string ty.name, .int .i64 ty.n, .slice ay ty.args.length cy] 24)).heap.size = w3.heap.size + 1 := by simp
      have hb4 := hb3.alloc hb3.size (.cells #[.int .i64 ty.kind, .string ty.name, .int .i64 ty.n, .slice ay ty.args.length cy] 24)
      obtain ⟨w4, hw4⟩ : ∃ w4, w4 = (w3.alloc (.cells #[.int .i64 ty.kind, .string ty.name, .int .i64 ty.n, .slice ay ty.args.length cy] 24)) := ⟨_, rfl⟩
      rw [← hw4] at hby hz3 hb4
      have HBY := Lib.hid (fun (V : World) (h : Below w4.heap.size w4 V) => hby.below h (by omega))
      have HB4 := Lib.hid hb4
      have HY := Lib.hid (And.intro hyt hyo)
      have HW4 := Lib.hid hw4
      obtain ⟨bb, hbb⟩ : ∃ bb, (atT t ns).isSome = bb := ⟨_, rfl⟩
      simp only [hbb]
      have HBB := Lib.hid hbb
      have hq : (bb == bb) = true := by cases bb <;> rfl
      clear hyt hyo hb2 hb3 hz3 hby p0 p1 p2 p3 hbb
      obtain ⟨p0, p1, p2, p3, _, _, _, _⟩ := HBX.out w4 hb4
      rw [hw4] at p0 p1 p2 p3
      clear hb4 hw4
      simp only [Tv.val]
      go_wp2_with fail
      rw [← HW4.out]
      refine (RA.out _ (HW.out _ HB4.out)).mono ?_; rintro e w5 ⟨⟨tz, az, cz⟩, he, hzt, hzo, hb5⟩
      rw [HBB.out] at he
      subst he
      have hb45 := hb5
      replace hb5 := below_next HB4.out hb5
      have hbz := box_new w5 (.int .i64 tz.kind) (.string tz.name) (.int .i64 tz.n) (.slice az tz.args.length cz) 24
      have hb6 := hb5.alloc hb5.size (.cells #[.int .i64 tz.kind, .string tz.name, .int .i64 tz.n, .slice az tz.args.length cz] 24)
      have hb46 : Below w4.heap.size w4 (w5.alloc (.cells #[.int .i64 tz.kind, .string tz.name, .int .i64 tz.n, .slice az tz.args.length cz] 24)) := hb45.alloc hb45.size _
      have hyz : ty = tz := by rw [show ty = _ from HY.out.1, show tz = _ from hzt]
      have HS := Lib.hid (SA.out ⟨ty, ay, cy⟩ ⟨tz, az, cz⟩ _ (HY.out.2.below (HW.out _ hb6)) (hzo.below (HW.out _ hb6)))
      simp only at HS
      rw [eqT_true hyz] at HS
      have HB6 := Lib.hid (HW.out _ hb6)
      obtain ⟨p0, p1, p2, p3, _, _, _, _⟩ := HBY.out _ hb46
      clear hb5 hb45 hb6 hb46 hzt hzo hyz
      simp only [Tv.val]
      go_wp2_with fail
      refine HS.out.mono ?_; rintro e w7 ⟨rfl, hb7⟩
      have HEND := Lib.hid (below_next HB6.out hb7)
      clear hb7
      go_wp2_with fail
      go_ret
      exact ⟨rfl, HEND.out⟩
end Go.Proofs.Ytniikfihfeledaa
