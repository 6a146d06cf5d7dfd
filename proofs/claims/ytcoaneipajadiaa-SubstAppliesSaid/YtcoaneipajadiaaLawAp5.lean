/-
  Binds put into terms: the law answers true.
-/
import Derived.Test.YtcoaneipajadiaaAwakeBd
import Derived.Test.YtcoaneipajadiaaFewBd
import Derived.Test.YtcoaneipajadiaaSameTm
namespace Go.Proofs.Ytcoaneipajadiaa
open Go.RowKit

mutual
theorem appT_congr {l m : List Bn} (h : ∀ s, getB l s = getB m s) : ∀ t : Tm, appT l t = appT m t
  | .mk k s n xs => by rw [appT, appT, h s, appL_congr h xs]
theorem appL_congr {l m : List Bn} (h : ∀ s, getB l s = getB m s) : ∀ ts : List Tm, appL l ts = appL m ts
  | [] => by rw [appL, appL]
  | t :: r => by rw [appL, appL, appT_congr h t, appL_congr h r]
end
theorem appT_of (l : List Bn) (t : Tm) : appT (ofB l) t = appT l t := appT_congr (fun s => ofB_get l s) t

set_option maxRecDepth 100000 in
set_option maxHeartbeats 4000000 in
theorem lawApplies_any (v : Value) (bs : List Bn) (x : Tv) (w : World) (hv : Bds w v bs) (hx : x.ok w) :
    Calls Try.prog 5 #[v, x.val] w fun e w' => e = .returned (.bool true) ∧ Below w.heap.size w w' := by
  have AW := Lib.hid (fun W => awake_bd W)
  have SM := Lib.hid (fun (W : World) (h : Below w.heap.size w W) => small_tm x W (hx.below h))
  have FW := Lib.hid (fun (W : World) (h : Below w.heap.size w W) => few_any v bs W (hv.below h))
  have PA := Lib.hid (fun (hl : bs.length ≤ 40) (hp : x.t.parts ≤ 300) (W : World) (h : Below w.heap.size w W) => (apply_bd v bs x w W hv (by omega) hx (by omega) h).mono (fun e w' ⟨z, h1, h2, h3, h4⟩ => (show ∃ z : Tv, e = Ending.returned z.val ∧ z.t = appT bs x.t ∧ z.ok w' ∧ Below W.heap.size W w' from ⟨z, h1, h2, h3.ok (below_next h h4), h4⟩)))
  have RA := Lib.hid (fun (hp : x.t.parts ≤ 300) (W : World) (h : Below w.heap.size w W) => (rapply_tm bs v w hv 300 x W hp (by omega) hx h).mono (fun e w' ⟨z, h1, h2, h3, h4⟩ => (show ∃ z : Tv, e = Ending.returned z.val ∧ z.t = appT bs x.t ∧ z.ok w' ∧ Below W.heap.size W w' from ⟨z, h1, h2, h3.ok (below_next h h4), h4⟩)))
  have OF := Lib.hid (fun (hl : bs.length ≤ 40) (W : World) (h : Below w.heap.size w W) => (of_bd v bs w W hv h (by omega)).mono (fun e w' ⟨u, h1, h2, h3⟩ => (show ∃ u, e = Ending.returned u ∧ Bds w' u (ofB bs) ∧ Below W.heap.size W w' from ⟨u, h1, h2.bds (below_next h h3) (by have := ofB_length bs; omega), h3⟩)))
  have QA := Lib.hid (fun (hl : bs.length ≤ 40) (hp : x.t.parts ≤ 300) (u : Value) (W : World) (hu : Bds W u (ofB bs)) (h : Below w.heap.size w W) => (apply_bd u (ofB bs) x W W hu (by have := ofB_length bs; omega) (hx.below h) (by omega) (Below.refl _ _)).mono (fun e w' ⟨z, h1, h2, h3, h4⟩ => (show ∃ z : Tv, e = Ending.returned z.val ∧ z.t = appT bs x.t ∧ z.ok w' ∧ Below W.heap.size W w' from ⟨z, h1, by rw [h2, appT_of], h3.ok h4, h4⟩)))
  have SA := Lib.hid (fun (y z : Tv) (W : World) (h0 : y.t = z.t) (h1 : y.ok W) (h2 : z.ok W) => (show Calls Try.prog 13 #[y.val, z.val] W (fun e w' => e = Ending.returned (.bool true) ∧ Below W.heap.size W w') from by have := same_tm y.t.parts y z W (Nat.le_refl _) h1 h2; rwa [eqT_true h0] at this))
  clear hx
  obtain ⟨a, c, rfl, _, _⟩ := hv
  obtain ⟨t, ax, cx⟩ := x
  have hbx := box_new w (.int .i64 t.kind) (.string t.name) (.int .i64 t.n) (.slice ax t.args.length cx) 25
  have hw : Below w.heap.size w (w.alloc (.cells #[.int .i64 t.kind, .string t.name, .int .i64 t.n, .slice ax t.args.length cx] 25)) := (Below.refl _ _).alloc (Nat.le_refl _) _
  have hz : (w.alloc (.cells #[.int .i64 t.kind, .string t.name, .int .i64 t.n, .slice ax t.args.length cx] 25)).heap.size = w.heap.size + 1 := by simp
  obtain ⟨wb, hwb⟩ : ∃ wb, wb = (w.alloc (.cells #[.int .i64 t.kind, .string t.name, .int .i64 t.n, .slice ax t.args.length cx] 25)) := ⟨_, rfl⟩
  rw [← hwb] at hbx hw hz
  have HBX := Lib.hid (fun (V : World) (h : Below wb.heap.size wb V) => hbx.below h (by omega))
  have HW := Lib.hid (fun (V : World) (h : Below wb.heap.size wb V) => hw.trans (h.mono hw.size))
  clear hbx hw hz
  simp only [Tv.val] at *
  go_enter Try.func5, Try.ntmps5
  go_wp2_with fail
  rw [← hwb]
  clear hwb
  refine (AW.out _).mono ?_; rintro e w1 ⟨rfl, hb1⟩
  go_wp2_with fail
  refine (FW.out _ (HW.out _ hb1)).mono ?_; rintro e w2 ⟨rfl, hb2⟩
  replace hb2 := below_next hb1 hb2
  clear hb1
  cases hf : fewB bs with
  | false =>
    have HE := Lib.hid (HW.out _ hb2)
    clear hb2
    go_wp2_with fail
    go_ret
    exact ⟨rfl, HE.out⟩
  | true =>
    obtain ⟨p0, p1, p2, p3, _, _, _, _⟩ := HBX.out w2 hb2
    go_wp2_with fail
    refine (SM.out _ (HW.out _ hb2)).mono ?_; rintro e w3 ⟨rfl, hb3⟩
    replace hb3 := below_next hb2 hb3
    clear p0 p1 p2 p3 hb2
    cases hs : smallB t with
    | false =>
      have HE := Lib.hid (HW.out _ hb3)
      clear hb3
      go_wp2_with fail
      go_ret
      exact ⟨rfl, HE.out⟩
    | true =>
      have hpp : t.parts ≤ 300 := small_parts hs
      have hll : bs.length ≤ 40 := (few_of hf).1
      obtain ⟨p0, p1, p2, p3, _, _, _, _⟩ := HBX.out w3 hb3
      go_wp2_with fail
      refine (PA.out hll hpp _ (HW.out _ hb3)).mono ?_; rintro e w4 ⟨⟨ty, ay, cy⟩, rfl, hyt, hyo, hb4⟩
      replace hb4 := below_next hb3 hb4
      have hby := box_new w4 (.int .i64 ty.kind) (.string ty.name) (.int .i64 ty.n) (.slice ay ty.args.length cy) 25
      have hz4 : (w4.alloc (.cells #[.int .i64 ty.kind, .string ty.name, .int .i64 ty.n, .slice ay ty.args.length cy] 25)).heap.size = w4.heap.size + 1 := by simp
      have hb5 := hb4.alloc hb4.size (.cells #[.int .i64 ty.kind, .string ty.name, .int .i64 ty.n, .slice ay ty.args.length cy] 25)
      have hyo5 : Tv.ok (w4.alloc (.cells #[.int .i64 ty.kind, .string ty.name, .int .i64 ty.n, .slice ay ty.args.length cy] 25)) ⟨ty, ay, cy⟩ := hyo.below ((Below.refl _ _).alloc (Nat.le_refl _) _)
      obtain ⟨w5, hw5⟩ : ∃ w5, w5 = (w4.alloc (.cells #[.int .i64 ty.kind, .string ty.name, .int .i64 ty.n, .slice ay ty.args.length cy] 25)) := ⟨_, rfl⟩
      rw [← hw5] at hby hz4 hb5 hyo5
      have HBY := Lib.hid (fun (V : World) (h : Below w5.heap.size w5 V) => hby.below h (by omega))
      have HBX5 := Lib.hid (fun (V : World) (h : Below w5.heap.size w5 V) => HBX.out V (below_next hb5 h))
      have HW5 := Lib.hid (fun (V : World) (h : Below w5.heap.size w5 V) => HW.out V (below_next hb5 h))
      have HYO := Lib.hid (fun (V : World) (h : Below w5.heap.size w5 V) => hyo5.below h)
      have HYT := Lib.hid hyt
      have HW5E := Lib.hid hw5
      have R1 := Lib.hid (RA.out hpp w5.drew (HW5.out _ (Below.refl _ _).drew))
      have O1 := Lib.hid (OF.out hll)
      have Q1 := Lib.hid (QA.out hll hpp)
      have BD := Lib.hid (show Below w5.heap.size w5 w5.drew from (Below.refl _ _).drew)
      clear hyt hyo hyo5 hb3 hb4 hz4 hby p0 p1 p2 p3 hpp hll RA OF QA PA SM FW AW hs hf
      obtain ⟨p0, p1, p2, p3, _, _, _, _⟩ := HBX.out w5 hb5
      obtain ⟨q0, q1, q2, q3, _, _, _, _⟩ := HBY.out w5 (Below.refl _ _)
      clear hb5 HBX HW
      rw [hw5] at p0 p1 p2 p3 q0 q1 q2 q3
      clear hw5
      simp only at *
      go_wp2_with fail
      rw [← HW5E.out] at p0 p1 p2 p3 q0 q1 q2 q3 ⊢
      clear HW5E
      go_region_with (first
        | (go_at_call 23; (with_reducible refine R1.out.mono ?_); rintro e w6 ⟨⟨tz, az, cz⟩, rfl, hzt, hzo, h6⟩; have H6 := Lib.hid (BD.out.trans (h6.mono BD.out.size)); have HZT := Lib.hid hzt; have HZO := Lib.hid hzo; obtain ⟨p0, p1, p2, p3, _, _, _, _⟩ := HBX5.out w6 H6.out; obtain ⟨q0, q1, q2, q3, _, _, _, _⟩ := HBY.out w6 H6.out; clear hzt hzo h6; try simp only)
        | (go_at_call 15; (with_reducible refine (O1.out _ (HW5.out _ H7.out)).mono ?_); rintro e w8 ⟨u8, rfl, hu8, h8⟩; have H8 := Lib.hid (below_next H7.out h8); have HU8 := Lib.hid hu8; obtain ⟨p0, p1, p2, p3, _, _, _, _⟩ := HBX5.out w8 H8.out; obtain ⟨q0, q1, q2, q3, _, _, _, _⟩ := HBY.out w8 H8.out; clear hu8 h8)
        | (go_at_call 22; (with_reducible refine (Q1.out _ _ HU8.out (HW5.out _ H8.out)).mono ?_); rintro e w9 ⟨⟨tq, aq, cq⟩, rfl, hqt, hqo, h9⟩; have H9 := Lib.hid (below_next H8.out h9); have HQT := Lib.hid hqt; have HQO := Lib.hid hqo; obtain ⟨p0, p1, p2, p3, _, _, _, _⟩ := HBX5.out w9 H9.out; obtain ⟨q0, q1, q2, q3, _, _, _, _⟩ := HBY.out w9 H9.out; clear hqt hqo h9; try simp only)
        | (go_at_call 13; (with_reducible refine (SA.out ⟨ty, ay, cy⟩ ⟨tq, aq, cq⟩ w9 (HYT.out.trans HQT.out.symm) (HYO.out _ H9.out) HQO.out).mono ?_); rintro e w10 ⟨rfl, h10⟩; have H10 := Lib.hid (below_next H9.out h10); clear h10)
        | (go_at_call 13; (with_reducible refine (SA.out ⟨ty, ay, cy⟩ ⟨tz, az, cz⟩ w6 (HYT.out.trans HZT.out.symm) (HYO.out _ H6.out) HZO.out).mono ?_); rintro e w7 ⟨rfl, h7⟩; have H7 := Lib.hid (below_next H6.out h7); obtain ⟨p0, p1, p2, p3, _, _, _, _⟩ := HBX5.out w7 H7.out; obtain ⟨q0, q1, q2, q3, _, _, _, _⟩ := HBY.out w7 H7.out; clear h7))
      all_goals
        go_wp2_with fail
        go_ret
        exact ⟨rfl, HW5.out _ H10.out⟩
end Go.Proofs.Ytcoaneipajadiaa
