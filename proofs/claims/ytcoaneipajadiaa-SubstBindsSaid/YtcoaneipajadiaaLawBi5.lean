/-
  Binds in their order, what a name stands for, one bind more, some of them: the law answers true.
-/
import Derived.Test.YtcoaneipajadiaaAwakeBd
import Derived.Test.YtcoaneipajadiaaFewBd
import Derived.Test.YtcoaneipajadiaaPOnly
import Derived.Test.YtcoaneipajadiaaPGetBd
import Derived.Test.YtcoaneipajadiaaREqual
import Derived.Test.YtcoaneipajadiaaOpenStrs
namespace Go.Proofs.Ytcoaneipajadiaa
open Go.RowKit

set_option maxRecDepth 100000 in
set_option maxHeartbeats 4000000 in
theorem lawBinds_any (v : Value) (bs : List Bn) (s : ByteArray) (x : Tv) (ns : Value) (zs : List ByteArray) (w : World) (hv : Bds w v bs) (hx : x.ok w) (hns : Txts w ns zs) :
    Calls Try.prog 3 #[v, .string s, x.val, ns] w fun e w' => e = .returned (.bool true) ∧ Below w.heap.size w w' := by
  have AW := Lib.hid (fun W => awake_bd W)
  have FW := Lib.hid (fun (W : World) (h : Below w.heap.size w W) => few_any v bs W (hv.below h))
  have SM := Lib.hid (fun (W : World) (h : Below w.heap.size w W) => small_tm x W (hx.below h))
  have PG := Lib.hid (fun (W : World) (h : Below w.heap.size w W) => (pget_any v bs s w W hv h).mono (fun e w' ⟨y, h1, h2, h3, h4⟩ => (show ∃ y : Tv, e = Ending.returned (.tuple #[y.val, .bool (getB bs s).isSome]) ∧ y.t = (getB bs s).getD zeroT ∧ y.ok w' ∧ Below W.heap.size W w' from ⟨y, h1, h2, h3.below (below_next h h4), h4⟩)))
  have RG := Lib.hid (fun (W : World) (h : Below w.heap.size w W) => (rget_any v bs s w W hv h).mono (fun e w' ⟨y, h1, h2, h3, h4⟩ => (show ∃ y : Tv, e = Ending.returned (.tuple #[y.val, .bool (getB bs s).isSome]) ∧ y.t = (getB bs s).getD zeroT ∧ y.ok w' ∧ Below W.heap.size W w' from ⟨y, h1, h2, h3.below (below_next h h4), h4⟩)))
  have OF := Lib.hid (fun (hl : bs.length ≤ 40) (W : World) (h : Below w.heap.size w W) => (of_bd v bs w W hv h (by omega)).mono (fun e w' ⟨u, h1, h2, h3⟩ => (show ∃ u, e = Ending.returned u ∧ Bds w' u (ofB bs) ∧ Below W.heap.size W w' from ⟨u, h1, h2.bds (below_next h h3) (by have := ofB_length bs; omega), h3⟩)))
  have RO := Lib.hid (fun (hl : bs.length ≤ 40) (W : World) (h : Below w.heap.size w W) => (rof_any v bs w W hv h (by omega)).mono (fun e w' ⟨u, h1, h2, h3⟩ => (show ∃ u, e = Ending.returned u ∧ Bds w' u (ofB bs) ∧ Below W.heap.size W w' from ⟨u, h1, h2.bds (below_next h h3) (by have := ofB_length bs; omega), h3⟩)))
  have PW := Lib.hid (fun (hl : bs.length ≤ 40) (hs : s.size ≤ 100) (W : World) (h : Below w.heap.size w W) => with_bd v bs s x w W hv hx (by omega) h (by omega))
  have RW := Lib.hid (fun (hl : bs.length ≤ 40) (hs : s.size ≤ 100) (W : World) (h : Below w.heap.size w W) => rwith_any v bs s x w W hv hx (by omega) h (by omega))
  have PO := Lib.hid (fun (hl : bs.length ≤ 40) (hz : zs.length ≤ 40) (W : World) (h : Below w.heap.size w W) => only_bd v ns bs zs w W hv (hns.strs (by omega)) h (by omega) (by omega))
  have RN := Lib.hid (fun (hl : bs.length ≤ 40) (hz : zs.length ≤ 40) (W : World) (h : Below w.heap.size w W) => ronly_any v ns bs zs w W hv (hns.strs (by omega)) h (by omega))
  have PH := Lib.hid (fun (u : Value) (W : World) (hu : Bds W u (ofB ((s, x.t) :: bs))) => (pget_any u _ s W W hu (Below.refl _ _)).mono (fun e w' ⟨y, h1, h2, h3, h4⟩ => (show ∃ y : Tv, e = Ending.returned (.tuple #[y.val, .bool true]) ∧ y.t = x.t ∧ y.ok w' ∧ Below W.heap.size W w' from by
    rw [ofB_get, getB_hit (s, x.t) bs rfl] at h1 h2
    exact ⟨y, h1, h2, h3.below h4, h4⟩)))
  have EQ := Lib.hid (fun (u v : Value) (cs : List Bn) (W : World) (h1 : Bds W u cs) (h2 : Bds W v cs) => (show Calls Try.prog 14 #[u, v] W (fun e w' => e = Ending.returned (.bool true) ∧ Below W.heap.size W w') from by have := requal_any u v cs cs W h1 h2; rwa [eqB_self] at this))
  have SA := Lib.hid (fun (y z : Tv) (W : World) (h0 : y.t = z.t) (h1 : y.ok W) (h2 : z.ok W) => (show Calls Try.prog 13 #[y.val, z.val] W (fun e w' => e = Ending.returned (.bool true) ∧ Below W.heap.size W w') from by have := same_tm y.t.parts y z W (Nat.le_refl _) h1 h2; rwa [eqT_true h0] at this))
  have HXO := Lib.hid (fun (W : World) (h : Below w.heap.size w W) => hx.below h)
  clear hx
  obtain ⟨a, c, rfl, _, _⟩ := hv
  obtain ⟨an, cn, rfl, _, _⟩ := hns
  obtain ⟨bb, hbb⟩ : ∃ bb, (getB bs s).isSome = bb := ⟨_, rfl⟩
  rw [hbb] at PG RG
  have hq : (bb != bb) = false := by cases bb <;> rfl
  have hq2 : (bb == bb) = true := by cases bb <;> rfl
  clear hbb
  obtain ⟨t, ax, cx⟩ := x
  have hbx := box_new w (.int .i64 t.kind) (.string t.name) (.int .i64 t.n) (.slice ax t.args.length cx) 25
  have hw : Below w.heap.size w (w.alloc (.cells #[.int .i64 t.kind, .string t.name, .int .i64 t.n, .slice ax t.args.length cx] 25)) := (Below.refl _ _).alloc (Nat.le_refl _) _
  have hz : (w.alloc (.cells #[.int .i64 t.kind, .string t.name, .int .i64 t.n, .slice ax t.args.length cx] 25)).heap.size = w.heap.size + 1 := by simp
  obtain ⟨wb, hwb⟩ : ∃ wb, wb = (w.alloc (.cells #[.int .i64 t.kind, .string t.name, .int .i64 t.n, .slice ax t.args.length cx] 25)) := ⟨_, rfl⟩
  rw [← hwb] at hbx hw hz
  have HBX := Lib.hid (fun (V : World) (h : Below wb.heap.size wb V) => hbx.below h (by omega))
  have HW := Lib.hid (fun (V : World) (h : Below wb.heap.size wb V) => hw.trans (h.mono hw.size))
  clear hbx hw hz
  simp only [Tv.val] at *
  go_enter Try.func3, Try.ntmps3
  go_wp2_with fail
  rw [← hwb]
  clear hwb
  refine (AW.out _).mono ?_; rintro e w1 ⟨rfl, hb1⟩
  go_wp2_with fail
  refine (FW.out _ (HW.out _ hb1)).mono ?_; rintro e w2 ⟨rfl, hb2⟩
  replace hb2 := below_next hb1 hb2
  clear hb1
  cases hf : fewB bs with
  | false =>
    have HE := Lib.hid (HW.out _ hb2)
    clear hb2
    go_wp2_with fail
    go_ret
    exact ⟨rfl, HE.out⟩
  | true =>
  obtain ⟨p0, p1, p2, p3, _, _, _, _⟩ := HBX.out w2 hb2
  go_wp2_with fail
  refine (SM.out _ (HW.out _ hb2)).mono ?_; rintro e w3 ⟨rfl, hb3⟩
  replace hb3 := below_next hb2 hb3
  clear p0 p1 p2 p3 hb2
  cases hs : smallB t with
  | false =>
    have HE := Lib.hid (HW.out _ hb3)
    clear hb3
    go_wp2_with fail
    go_ret
    exact ⟨rfl, HE.out⟩
  | true =>
  have H3 := Lib.hid hb3
  clear hb3
  by_cases hsz : s.size ≤ 100
  case neg =>
    have hsi : (100 : Int) < (s.size : Int) := by omega
    have hsd : decide ((100 : Int) < (s.size : Int)) = true := decide_eq_true hsi
    go_wp2_with fail
    go_ret
    exact ⟨rfl, HW.out _ H3.out⟩
  have hsi : ¬ (100 : Int) < (s.size : Int) := by omega
  have hsj : (s.size : Int) ≤ 100 := by omega
  have hsd : decide ((100 : Int) < (s.size : Int)) = false := decide_eq_false hsi
  by_cases hzl : zs.length ≤ 40
  case neg =>
    have hzi : (40 : Int) < (zs.length : Int) := by omega
    have hzd : decide ((40 : Int) < (zs.length : Int)) = true := decide_eq_true hzi
    go_wp2_with fail
    go_ret
    exact ⟨rfl, HW.out _ H3.out⟩
  have hzi : ¬ (40 : Int) < (zs.length : Int) := by omega
  have hzj : (zs.length : Int) ≤ 40 := by omega
  have hzd : decide ((40 : Int) < (zs.length : Int)) = false := decide_eq_false hzi
  have hll : bs.length ≤ 40 := (few_of hf).1
  have O1 := Lib.hid (OF.out hll)
  have R1 := Lib.hid (RO.out hll)
  have P1 := Lib.hid (PW.out hll hsz)
  have Q1 := Lib.hid (RW.out hll hsz)
  have N1 := Lib.hid (PO.out hll hzl)
  have M1 := Lib.hid (RN.out hll hzl)
  clear OF RO PW RW PO RN hf hs hll hsz hzl FW SM AW
  go_wp2_with fail
  refine (PG.out _ (HW.out _ H3.out)).mono ?_; rintro e w4 ⟨⟨ty, ay, cy⟩, rfl, hyt, hyo, hb4⟩
  have hb5x := below_next H3.out hb4
  have hby := box_new w4 (.int .i64 ty.kind) (.string ty.name) (.int .i64 ty.n) (.slice ay ty.args.length cy) 25
  have hz4 : (w4.alloc (.cells #[.int .i64 ty.kind, .string ty.name, .int .i64 ty.n, .slice ay ty.args.length cy] 25)).heap.size = w4.heap.size + 1 := by simp
  have hb5 := hb5x.alloc hb5x.size (.cells #[.int .i64 ty.kind, .string ty.name, .int .i64 ty.n, .slice ay ty.args.length cy] 25)
  have hyo5 : Tv.ok (w4.alloc (.cells #[.int .i64 ty.kind, .string ty.name, .int .i64 ty.n, .slice ay ty.args.length cy] 25)) ⟨ty, ay, cy⟩ := hyo.below ((Below.refl _ _).alloc (Nat.le_refl _) _)
  obtain ⟨w5, hw5⟩ : ∃ w5, w5 = (w4.alloc (.cells #[.int .i64 ty.kind, .string ty.name, .int .i64 ty.n, .slice ay ty.args.length cy] 25)) := ⟨_, rfl⟩
  rw [← hw5] at hby hz4 hb5 hyo5
  have BY := Lib.hid (fun (V : World) (h : Below w5.heap.size w5 V) => hby.below h (by omega))
  have BYO := Lib.hid (fun (V : World) (h : Below w5.heap.size w5 V) => hyo5.below h)
  have BYT := Lib.hid hyt
  have H5 := Lib.hid hb5
  clear hby hz4 hb5 hyo5 hyo hyt hb4 hb5x
  simp only
  go_wp2_with fail
  rw [← hw5]
  clear hw5
  refine (RG.out _ (HW.out _ H5.out)).mono ?_; rintro e w6 ⟨⟨tz, az, cz⟩, rfl, hyt, hyo, hb6⟩
  have HS6 := Lib.hid hb6
  have hb7x := below_next H5.out hb6
  have hby := box_new w6 (.int .i64 tz.kind) (.string tz.name) (.int .i64 tz.n) (.slice az tz.args.length cz) 25
  have hz4 : (w6.alloc (.cells #[.int .i64 tz.kind, .string tz.name, .int .i64 tz.n, .slice az tz.args.length cz] 25)).heap.size = w6.heap.size + 1 := by simp
  have hb5 := hb7x.alloc hb7x.size (.cells #[.int .i64 tz.kind, .string tz.name, .int .i64 tz.n, .slice az tz.args.length cz] 25)
  have hyo5 : Tv.ok (w6.alloc (.cells #[.int .i64 tz.kind, .string tz.name, .int .i64 tz.n, .slice az tz.args.length cz] 25)) ⟨tz, az, cz⟩ := hyo.below ((Below.refl _ _).alloc (Nat.le_refl _) _)
  obtain ⟨w7, hw7⟩ : ∃ w7, w7 = (w6.alloc (.cells #[.int .i64 tz.kind, .string tz.name, .int .i64 tz.n, .slice az tz.args.length cz] 25)) := ⟨_, rfl⟩
  rw [← hw7] at hby hz4 hb5 hyo5
  have BZ := Lib.hid (fun (V : World) (h : Below w7.heap.size w7 V) => hby.below h (by omega))
  have BZO := Lib.hid (fun (V : World) (h : Below w7.heap.size w7 V) => hyo5.below h)
  have BZT := Lib.hid hyt
  have H7 := Lib.hid hb5
  clear hby hz4 hb5 hyo5 hyo hyt hb6 hb7x
  have BW7 := Lib.hid (show Below w5.heap.size w5 w7 from by rw [hw7]; exact HS6.out.alloc HS6.out.size _)
  obtain ⟨q0, q1, q2, q3, _, _, _, _⟩ := BY.out w7 BW7.out
  obtain ⟨r0, r1, r2, r3, _, _, _, _⟩ := BZ.out w7 (Below.refl _ _)
  have HW7 := Lib.hid hw7
  rw [hw7] at q0 q1 q2 q3 r0 r1 r2 r3
  clear hw7
  simp only at *
  go_wp2_with fail
  rw [← HW7.out]
  clear q0 q1 q2 q3 r0 r1 r2 r3 HW7
  refine (SA.out ⟨ty, ay, cy⟩ ⟨tz, az, cz⟩ w7 (BYT.out.trans BZT.out.symm) (BYO.out _ BW7.out) (BZO.out _ (Below.refl _ _))).mono ?_; rintro e w8 ⟨rfl, hb8⟩
  have H8 := Lib.hid (below_next H7.out hb8)
  clear hb8 BY BZ BYO BZO BYT BZT BW7 HS6
  go_wp2_with fail
  refine (O1.out _ (HW.out _ H8.out)).mono ?_; rintro e w9 ⟨u9, rfl, hu9, hb9⟩
  have U9 := Lib.hid hu9
  have H9 := Lib.hid (below_next H8.out hb9)
  obtain ⟨au9, cu9, rfl, _, _⟩ := hu9
  clear hb9
  go_wp2_with fail
  refine (R1.out _ (HW.out _ H9.out)).mono ?_; rintro e w10 ⟨u10, rfl, hu10, hb10⟩
  have E10 := Lib.hid (EQ.out _ _ _ w10 (U9.out.below hb10) hu10)
  have H10 := Lib.hid (below_next H9.out hb10)
  obtain ⟨au10, cu10, rfl, _, _⟩ := hu10
  clear hb10
  go_wp2_with fail
  refine E10.out.mono ?_; rintro e w11 ⟨rfl, hb11⟩
  have H11 := Lib.hid (below_next H10.out hb11)
  clear hb11 E10 U9
  obtain ⟨p0, p1, p2, p3, _, _, _, _⟩ := HBX.out w11 H11.out
  go_wp2_with fail
  refine (P1.out _ (HW.out _ H11.out)).mono ?_; rintro e w12 ⟨u12, rfl, hu12, hb12⟩
  have U12 := Lib.hid hu12
  have H12 := Lib.hid (below_next H11.out hb12)
  obtain ⟨au12, cu12, rfl, _, _⟩ := hu12
  clear hb12 p0 p1 p2 p3
  go_wp2_with fail
  refine (PH.out _ _ U12.out).mono ?_; rintro e w13 ⟨⟨ty, ay, cy⟩, rfl, hyt, hyo, hb13⟩
  have HS13 := Lib.hid hb13
  have hb14x := below_next H12.out hb13
  have hby := box_new w13 (.int .i64 ty.kind) (.string ty.name) (.int .i64 ty.n) (.slice ay ty.args.length cy) 25
  have hz4 : (w13.alloc (.cells #[.int .i64 ty.kind, .string ty.name, .int .i64 ty.n, .slice ay ty.args.length cy] 25)).heap.size = w13.heap.size + 1 := by simp
  have hb5 := hb14x.alloc hb14x.size (.cells #[.int .i64 ty.kind, .string ty.name, .int .i64 ty.n, .slice ay ty.args.length cy] 25)
  have hyo5 : Tv.ok (w13.alloc (.cells #[.int .i64 ty.kind, .string ty.name, .int .i64 ty.n, .slice ay ty.args.length cy] 25)) ⟨ty, ay, cy⟩ := hyo.below ((Below.refl _ _).alloc (Nat.le_refl _) _)
  obtain ⟨w14, hw14⟩ : ∃ w14, w14 = (w13.alloc (.cells #[.int .i64 ty.kind, .string ty.name, .int .i64 ty.n, .slice ay ty.args.length cy] 25)) := ⟨_, rfl⟩
  rw [← hw14] at hby hz4 hb5 hyo5
  have BY := Lib.hid (fun (V : World) (h : Below w14.heap.size w14 V) => hby.below h (by omega))
  have BYO := Lib.hid (fun (V : World) (h : Below w14.heap.size w14 V) => hyo5.below h)
  have BYT := Lib.hid hyt
  have H14 := Lib.hid hb5
  clear hby hz4 hb5 hyo5 hyo hyt hb13 hb14x
  have BW14 := Lib.hid (show Below w12.heap.size w12 w14 from by rw [hw14]; exact HS13.out.alloc HS13.out.size _)
  have U14 := Lib.hid (U12.out.below BW14.out)
  obtain ⟨p0, p1, p2, p3, _, _, _, _⟩ := HBX.out w14 H14.out
  obtain ⟨q0, q1, q2, q3, _, _, _, _⟩ := BY.out w14 (Below.refl _ _)
  have HW14 := Lib.hid hw14
  rw [hw14] at p0 p1 p2 p3 q0 q1 q2 q3
  clear hw14
  simp only at *
  go_wp2_with fail
  rw [← HW14.out]
  clear q0 q1 q2 q3 p0 p1 p2 p3 HW14
  refine (SA.out ⟨ty, ay, cy⟩ ⟨t, ax, cx⟩ w14 BYT.out (BYO.out _ (Below.refl _ _)) (HXO.out _ (HW.out _ H14.out))).mono ?_; rintro e w15 ⟨rfl, hb15⟩
  have H15 := Lib.hid (below_next H14.out hb15)
  have U15 := Lib.hid (U14.out.below hb15)
  clear hb15 BY BYO BYT BW14 HS13 U12 U14
  obtain ⟨p0, p1, p2, p3, _, _, _, _⟩ := HBX.out w15 H15.out
  go_wp2_with fail
  refine (Q1.out _ (HW.out _ H15.out)).mono ?_; rintro e w16 ⟨u16, rfl, hu16, hb16⟩
  have E16 := Lib.hid (EQ.out _ _ _ w16 (U15.out.below hb16) hu16)
  have H16 := Lib.hid (below_next H15.out hb16)
  obtain ⟨au16, cu16, rfl, _, _⟩ := hu16
  clear hb16 p0 p1 p2 p3
  go_wp2_with fail
  refine E16.out.mono ?_; rintro e w17 ⟨rfl, hb17⟩
  have H17 := Lib.hid (below_next H16.out hb17)
  clear hb17 E16 U15
  go_wp2_with fail
  refine (N1.out _ (HW.out _ H17.out)).mono ?_; rintro e w18 ⟨u18, rfl, hu18, hb18⟩
  have U18 := Lib.hid hu18
  have H18 := Lib.hid (below_next H17.out hb18)
  obtain ⟨au18, cu18, hv18, _, _⟩ := hu18
  subst hv18
  clear hb18
  go_wp2_with fail
  refine (M1.out _ (HW.out _ H18.out)).mono ?_; rintro e w19 ⟨u19, rfl, hu19, hb19⟩
  have E19 := Lib.hid (EQ.out _ _ _ w19 (U18.out.below hb19) hu19)
  have H19 := Lib.hid (below_next H18.out hb19)
  obtain ⟨au19, cu19, hv19, _, _⟩ := hu19
  subst hv19
  clear hb19
  go_wp2_with fail
  refine E19.out.mono ?_; rintro e w20 ⟨rfl, hb20⟩
  have H20 := Lib.hid (below_next H19.out hb20)
  clear hb20 E19 U18
  go_wp2_with fail
  go_ret
  exact ⟨rfl, HW.out _ H20.out⟩
end Go.Proofs.Ytcoaneipajadiaa
