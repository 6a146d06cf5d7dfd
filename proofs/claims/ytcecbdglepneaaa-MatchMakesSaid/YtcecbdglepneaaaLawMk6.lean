/-
  A match puts what it finds into the pattern, and that is the term; what is put into a pattern is matched: the law answers true, from what the program's Match answers and the program's Apply.
-/
import Derived.Test.YtcecbdglepneaaaAwakeMt
import Derived.Test.YtcecbdglepneaaaRInst
import Derived.Test.YtcecbdglepneaaaFewBd
import Derived.Test.YtcecbdglepneaaaSameTm
namespace Go.Proofs.Ytcecbdglepneaaa
open Go.RowKit

theorem few_parts6 {bs : List Bn} (h : fewB bs = true) : ∀ x ∈ bs, x.2.parts ≤ 100 := fun x hx => by
  have h1 := (few_of h).2 x hx
  unfold bindB at h1
  rw [Bool.and_eq_true] at h1
  have := within_parts h1.2
  omega
set_option maxRecDepth 100000 in
set_option maxHeartbeats 8000000 in
theorem lawMakes_of6 (PM : ∀ (x y : Tv) (w : World), x.ok w → y.ok w → x.t.parts ≤ 6000 → y.t.parts ≤ 6000 → Calls Try.prog 12 #[x.val, y.val] w (MorePost (moreT x.t y.t []) w))
    (AP : ∀ (v : Value) (bs : List Bn) (x : Tv) (w : World), Bds w v bs → bs.length ≤ 1000000 → x.ok w → x.t.parts ≤ 100000 → Calls Try.prog 18 #[v, x.val] w fun e w' => ∃ (tz : Tm) (az : Option Addr) (cz : Nat), e = .returned (.agg #[.int .i64 tz.kind, .string tz.name, .int .i64 tz.n, .slice az tz.args.length cz]) ∧ tz = appT bs x.t ∧ Tv.ok w' ⟨tz, az, cz⟩ ∧ Below w.heap.size w w')
    (v : Value) (bs : List Bn) (x y : Tv) (w : World) (hv : Bds w v bs) (hx : x.ok w) (hy : y.ok w) :
    Calls Try.prog 4 #[v, x.val, y.val] w fun e w' => e = .returned (.bool true) ∧ Below w.heap.size w w' := by
  have AW := Lib.hid (fun W => awake_of6 PM W)
  have FW := Lib.hid (fun (W : World) (h : Below w.heap.size w W) => few_any v bs W (hv.below h))
  have SX := Lib.hid (fun (W : World) (h : Below w.heap.size w W) => within_tm x 60 (by omega) (by omega) W (hx.below h))
  have SY := Lib.hid (fun (W : World) (h : Below w.heap.size w W) => small_tm y W (hy.below h))
  have SP := Lib.hid (fun (h1 : x.t.parts ≤ 60) (W : World) (h : Below w.heap.size w W) => rplain_tm x W (hx.below h) (by omega))
  have MA := Lib.hid (fun (h1 : x.t.parts ≤ 60) (h2 : y.t.parts ≤ 300) (W : World) (h : Below w.heap.size w W) => (PM x y W (hx.below h) (hy.below h) (by omega) (by omega)).mono (fun e w' ⟨u, h1, h2, h3⟩ => (show ∃ (au : Option Addr) (cu : Nat), e = Ending.returned (.tuple #[.slice au ((moreT x.t y.t []).getD []).length cu, .bool (moreT x.t y.t []).isSome]) ∧ Bds w' (.slice au ((moreT x.t y.t []).getD []).length cu) ((moreT x.t y.t []).getD []) ∧ Below W.heap.size W w' from by
    obtain ⟨au, cu, rfl, _⟩ := id h2
    exact ⟨au, cu, h1, h2, h3⟩)))
  have A1 := Lib.hid (fun (u : Value) (ms : List Bn) (hm : ms.length ≤ 1000000) (h1 : x.t.parts ≤ 60) (W : World) (hu : Bds W u ms) (h : Below w.heap.size w W) => AP u ms x W hu hm (hx.below h) (by omega))
  have A2 := Lib.hid (fun (hl : bs.length ≤ 10) (h1 : x.t.parts ≤ 60) (W : World) (h : Below w.heap.size w W) => AP v bs x W (hv.below h) (by omega) (hx.below h) (by omega))
  have MB := Lib.hid (fun (h1 : x.t.parts ≤ 60) (z : Tv) (ms : List Bn) (hz : moreT x.t z.t [] = some ms) (hzp : z.t.parts ≤ 6000) (W : World) (ho : z.ok W) (h : Below w.heap.size w W) => (PM x z W (hx.below h) ho (by omega) hzp).mono (fun e w' ⟨u, h1, h2, h3⟩ => (show ∃ (au : Option Addr) (cu : Nat), e = Ending.returned (.tuple #[.slice au ms.length cu, .bool true]) ∧ Bds w' (.slice au ms.length cu) ms ∧ Below W.heap.size W w' from by
    rw [hz] at h1 h2
    obtain ⟨au, cu, rfl, _⟩ := id h2
    exact ⟨au, cu, h1, h2, h3⟩)))
  have SA := Lib.hid (fun (y z : Tv) (W : World) (h0 : y.t = z.t) (h1 : y.ok W) (h2 : z.ok W) => (show Calls Try.prog 17 #[y.val, z.val] W (fun e w' => e = Ending.returned (.bool true) ∧ Below W.heap.size W w') from by have := same_tm y.t.parts y z W (Nat.le_refl _) h1 h2; rwa [eqT_true h0] at this))
  have HYO := Lib.hid (fun (W : World) (h : Below w.heap.size w W) => hy.below h)
  have HAP := Lib.hid (fun (hp : ∀ y ∈ bs, y.2.parts ≤ 100) (h : x.t.parts ≤ 60) => (show (appT bs x.t).parts ≤ 6000 from by have := appT_parts (m := 100) (by omega) hp x.t; omega))
  have HDN := Lib.hid (fun (h : PlainT x.t) => moreT_done bs x.t [] h (com_nil bs))
  have HMK := Lib.hid (fun (h : PlainT x.t) (t : Tm) (ms : List Bn) (hm : moreT x.t t [] = some ms) => more_makes h hm)
  have HLN := Lib.hid (fun (t : Tm) (ms : List Bn) (hm : moreT x.t t [] = some ms) => moreT_len x.t t [] ms hm)
  clear hx hy PM AP
  obtain ⟨a, c, rfl, _, _⟩ := hv
  obtain ⟨xt, xa, xc⟩ := x
  obtain ⟨yt, ya, yc⟩ := y
  have bX := (box_new w (.int .i64 xt.kind) (.string xt.name) (.int .i64 xt.n) (.slice xa xt.args.length xc) 25).below ((Below.refl _ _).alloc (Nat.le_refl _) (.cells #[.int .i64 yt.kind, .string yt.name, .int .i64 yt.n, .slice ya yt.args.length yc] 25)) (by simp)
  have bY := alloc_two w (.cells #[.int .i64 xt.kind, .string xt.name, .int .i64 xt.n, .slice xa xt.args.length xc] 25) (.int .i64 yt.kind) (.string yt.name) (.int .i64 yt.n) (.slice ya yt.args.length yc) 25
  have hB2 := below_two w (.cells #[.int .i64 xt.kind, .string xt.name, .int .i64 xt.n, .slice xa xt.args.length xc] 25) (.cells #[.int .i64 yt.kind, .string yt.name, .int .i64 yt.n, .slice ya yt.args.length yc] 25)
  obtain ⟨wz, hwz⟩ : ∃ wz, wz = ((w.alloc (.cells #[.int .i64 xt.kind, .string xt.name, .int .i64 xt.n, .slice xa xt.args.length xc] 25)).alloc (.cells #[.int .i64 yt.kind, .string yt.name, .int .i64 yt.n, .slice ya yt.args.length yc] 25)) := ⟨_, rfl⟩
  have hzs : wz.heap.size = w.heap.size + 2 := by rw [hwz]; simp
  rw [← hwz] at bX bY hB2
  have HBX := Lib.hid (fun (V : World) (h : Below wz.heap.size wz V) => bX.below h (by omega))
  have HBY := Lib.hid (fun (V : World) (h : Below wz.heap.size wz V) => bY.below h (by omega))
  have HW := Lib.hid (fun (V : World) (h : Below wz.heap.size wz V) => below_next hB2 h)
  have KEEP := Lib.hid (fun (W : World) (h : Below wz.heap.size wz W) => (show Below wz.heap.size wz W ∧ (W.cell? ⟨w.heap.size, 0, none⟩ = some (.int .i64 xt.kind) ∧ W.cell? ⟨w.heap.size, 1, none⟩ = some (.string xt.name) ∧ W.cell? ⟨w.heap.size, 2, none⟩ = some (.int .i64 xt.n) ∧ W.cell? ⟨w.heap.size, 3, none⟩ = some (.slice xa xt.args.length xc)) ∧ (W.cell? ⟨w.heap.size + 1, 0, none⟩ = some (.int .i64 yt.kind) ∧ W.cell? ⟨w.heap.size + 1, 1, none⟩ = some (.string yt.name) ∧ W.cell? ⟨w.heap.size + 1, 2, none⟩ = some (.int .i64 yt.n) ∧ W.cell? ⟨w.heap.size + 1, 3, none⟩ = some (.slice ya yt.args.length yc)) from by
    have b1 := HBX.out W h
    have b2 := HBY.out W h
    exact ⟨h, ⟨b1.c0, b1.c1, b1.c2, b1.c3⟩, ⟨b2.c0, b2.c1, b2.c2, b2.c3⟩⟩))
  have AD := Lib.hid (fun (W : World) (h : Below wz.heap.size wz W) => (show Below wz.heap.size wz W.drew from h.drew))
  clear bX bY hB2 hzs
  simp only [Tv.val] at *
  go_enter Try.func4, Try.ntmps4
  go_wp2_with fail
  rw [← hwz]
  clear hwz
  refine (AW.out _).mono ?_; rintro e w1 ⟨rfl, hb1⟩
  go_wp2_with fail
  refine (FW.out _ (HW.out _ hb1)).mono ?_; rintro e w2 ⟨rfl, hb2⟩
  have H2 := Lib.hid (below_next hb1 hb2)
  clear hb1 hb2
  cases hf : fewB bs with
  | false =>
    go_wp2_with fail
    go_ret
    exact ⟨rfl, HW.out _ H2.out⟩
  | true =>
  obtain ⟨p0, p1, p2, p3, _, _, _, _⟩ := HBX.out w2 H2.out
  go_wp2_with fail
  refine (SX.out _ (HW.out _ H2.out)).mono ?_; rintro e w3 ⟨rfl, hb3⟩
  have H3 := Lib.hid (below_next H2.out hb3)
  clear hb3 p0 p1 p2 p3
  cases hs : withinB xt 60 with
  | false =>
    go_wp2_with fail
    go_ret
    exact ⟨rfl, HW.out _ H3.out⟩
  | true =>
  obtain ⟨q0, q1, q2, q3, _, _, _, _⟩ := HBY.out w3 H3.out
  go_wp2_with fail
  refine (SY.out _ (HW.out _ H3.out)).mono ?_; rintro e w4 ⟨rfl, hb4⟩
  have H4 := Lib.hid (below_next H3.out hb4)
  clear hb4 q0 q1 q2 q3
  cases ht : smallB yt with
  | false =>
    go_wp2_with fail
    go_ret
    exact ⟨rfl, HW.out _ H4.out⟩
  | true =>
  have hpx : xt.parts ≤ 60 := by have := within_parts hs; omega
  have SP1 := Lib.hid (SP.out hpx)
  obtain ⟨p0, p1, p2, p3, _, _, _, _⟩ := HBX.out w4 H4.out
  clear hpx
  go_wp2_with fail
  refine (SP1.out _ (HW.out _ H4.out)).mono ?_; rintro e w5 ⟨rfl, hb5⟩
  have H5 := Lib.hid (below_next H4.out hb5)
  clear hb5 p0 p1 p2 p3
  cases hr : plainB xt with
  | false =>
    go_wp2_with fail
    go_ret
    exact ⟨rfl, HW.out _ H5.out⟩
  | true =>
  by_cases hc : bs.length ≤ 10
  case neg =>
    have hci : (10 : Int) < (bs.length : Int) := by omega
    have hcd : decide ((10 : Int) < (bs.length : Int)) = true := decide_eq_true hci
    go_wp2_with fail
    go_ret
    exact ⟨rfl, HW.out _ H5.out⟩
  have hci : ¬ (10 : Int) < (bs.length : Int) := by omega
  have hcj : (bs.length : Int) ≤ 10 := by omega
  have hcd : decide ((10 : Int) < (bs.length : Int)) = false := decide_eq_false hci
  have hpx : xt.parts ≤ 60 := by have := within_parts hs; omega
  have HPX := Lib.hid hpx
  have HPL := Lib.hid (plain_of hr)
  have HZP := Lib.hid (HAP.out (few_parts6 hf) hpx)
  obtain ⟨ms, hms, _⟩ := HDN.out HPL.out
  have HMS := Lib.hid hms
  have M1 := Lib.hid (MA.out hpx (small_parts ht))
  have B1 := Lib.hid (A2.out hc hpx)
  obtain ⟨om, hom⟩ : ∃ om, moreT xt yt [] = om := ⟨_, rfl⟩
  have HOM := Lib.hid hom
  rw [hom] at M1
  clear MA A2 SP SP1 hf hs ht hr H2 H3 H4 AW FW SX SY hms hpx hc hom HAP HDN
  obtain ⟨p0, p1, p2, p3, _, _, _, _⟩ := HBX.out w5 H5.out
  obtain ⟨q0, q1, q2, q3, _, _, _, _⟩ := HBY.out w5 H5.out
  cases om with
  | none =>
    go_wp2_with fail
    refine (M1.out _ (HW.out _ H5.out)).mono ?_; rintro e w6 ⟨au, cu, rfl, hu6, hb6⟩
    have H6 := Lib.hid (below_next H5.out hb6)
    clear hb6 hu6 p0 p1 p2 p3 q0 q1 q2 q3
    go_wp2_with fail
    go_quiet (fail)
    have H7 := Lib.hid (below_drewN H6.out nq)
    obtain ⟨w7, hw7⟩ : ∃ w7, w7 = w6.drewN nq := ⟨_, rfl⟩
    rw [← hw7] at H7 ⊢
    clear hw7
    obtain ⟨_, ⟨p0, p1, p2, p3⟩, ⟨q0, q1, q2, q3⟩⟩ := KEEP.out w7 H7.out
    have D7 := Lib.hid (AD.out _ H7.out)
    have h0e := D7.out
    go_wp2_with fail
    go_region_held3 (fun W => Below wz.heap.size wz W ∧ (W.cell? ⟨w.heap.size, 0, none⟩ = some (.int .i64 xt.kind) ∧ W.cell? ⟨w.heap.size, 1, none⟩ = some (.string xt.name) ∧ W.cell? ⟨w.heap.size, 2, none⟩ = some (.int .i64 xt.n) ∧ W.cell? ⟨w.heap.size, 3, none⟩ = some (.slice xa xt.args.length xc)) ∧ (W.cell? ⟨w.heap.size + 1, 0, none⟩ = some (.int .i64 yt.kind) ∧ W.cell? ⟨w.heap.size + 1, 1, none⟩ = some (.string yt.name) ∧ W.cell? ⟨w.heap.size + 1, 2, none⟩ = some (.int .i64 yt.n) ∧ W.cell? ⟨w.heap.size + 1, 3, none⟩ = some (.slice ya yt.args.length yc))) (first | exact KEEP.out _ (by with_reducible assumption) | exact KEEP.out _ D7.out)
      ((first
        | (go_at_call 18; refine (B1.out _ (HW.out _ D7.out)).mono ?_; rintro e w9 ⟨tv, av, cv, rfl, hvt, hvo, hb9⟩; have hn9 := below_next D7.out hb9; have HVT := Lib.hid hvt; clear hvt)
        | (go_at_call 12; refine (MB.out HPX.out ⟨tv, av, cv⟩ ms (by rw [show (⟨tv, av, cv⟩ : Tv).t = _ from HVT.out]; exact HMS.out) (by rw [show (⟨tv, av, cv⟩ : Tv).t = _ from HVT.out]; exact HZP.out) w9 hvo (HW.out _ hn9)).mono ?_; rintro e w10 ⟨am, cm, rfl, hm, hb10⟩; have hn10 := below_next hn9 hb10)))
    have H10 := Lib.hid hn10
    have UM := Lib.hid hm
    have HMM := Lib.hid (HMK.out HPL.out _ ms HMS.out)
    have HML := Lib.hid (show ms.length ≤ 1000000 from by have := HLN.out _ ms HMS.out; have := HPX.out; simp at *; omega)
    clear hn9 hn10 hb9 hb10 hvo hm p0 p1 p2 p3 q0 q1 q2 q3 h0e
    obtain ⟨_, ⟨p0, p1, p2, p3⟩, ⟨q0, q1, q2, q3⟩⟩ := KEEP.out w10 H10.out
    have D10 := Lib.hid (AD.out _ H10.out)
    have h0f := D10.out
    have DM := Lib.hid (show Below w10.heap.size w10 w10.drew from (Below.refl _ _).drew)
    go_wp2_with fail
    go_region_held3 (fun W => Below wz.heap.size wz W ∧ (W.cell? ⟨w.heap.size, 0, none⟩ = some (.int .i64 xt.kind) ∧ W.cell? ⟨w.heap.size, 1, none⟩ = some (.string xt.name) ∧ W.cell? ⟨w.heap.size, 2, none⟩ = some (.int .i64 xt.n) ∧ W.cell? ⟨w.heap.size, 3, none⟩ = some (.slice xa xt.args.length xc)) ∧ (W.cell? ⟨w.heap.size + 1, 0, none⟩ = some (.int .i64 yt.kind) ∧ W.cell? ⟨w.heap.size + 1, 1, none⟩ = some (.string yt.name) ∧ W.cell? ⟨w.heap.size + 1, 2, none⟩ = some (.int .i64 yt.n) ∧ W.cell? ⟨w.heap.size + 1, 3, none⟩ = some (.slice ya yt.args.length yc))) (first | exact KEEP.out _ (by with_reducible assumption) | exact KEEP.out _ D10.out)
      ((first
        | (go_at_call 17; refine (SA.out ⟨tg, ag, cg⟩ ⟨th, ah, ch⟩ w12 (HGT.out.trans (HMM.out.trans HHT.out.symm)) (hgo.below hb12) hho).mono ?_; rintro e w13 ⟨rfl, hb13⟩; have hn13 := below_next hn12 hb13)
        | (go_at_call 18; refine (B1.out w11 (HW.out _ hn11)).mono ?_; rintro e w12 ⟨th, ah, ch, rfl, hht, hho, hb12⟩; have hn12 := below_next hn11 hb12; have HHT := Lib.hid hht; clear hht)
        | (go_at_call 18; refine (A1.out _ ms HML.out HPX.out w10.drew (UM.out.below DM.out) (HW.out _ D10.out)).mono ?_; rintro e w11 ⟨tg, ag, cg, rfl, hgt, hgo, hb11⟩; have hn11 := below_next D10.out hb11; have HGT := Lib.hid hgt; clear hgt)))
    have HE := Lib.hid (HW.out _ hn13)
    clear hn11 hn12 hn13 hb11 hb12 hb13 hgo hho p0 p1 p2 p3 q0 q1 q2 q3 h0f
    go_wp2_with fail
    go_ret
    exact ⟨rfl, HE.out⟩
  | some l =>
    go_wp2_with fail
    refine (M1.out _ (HW.out _ H5.out)).mono ?_; rintro e w6 ⟨au, cu, rfl, hu6, hb6⟩
    have H6 := Lib.hid (below_next H5.out hb6)
    have U6 := Lib.hid hu6
    have HAL := Lib.hid (HMK.out HPL.out yt l HOM.out)
    have HLL := Lib.hid (show l.length ≤ 1000000 from by have := HLN.out yt l HOM.out; have := HPX.out; simp at *; omega)
    clear hb6 hu6 p0 p1 p2 p3 q0 q1 q2 q3
    have D6 := Lib.hid (AD.out _ H6.out)
    have h0d := D6.out
    have DR := Lib.hid (show Below w6.heap.size w6 w6.drew from (Below.refl _ _).drew)
    obtain ⟨_, ⟨p0, p1, p2, p3⟩, ⟨q0, q1, q2, q3⟩⟩ := KEEP.out w6 H6.out
    simp only [Option.getD_some, Option.isSome_some] at *
    go_wp2_with fail
    go_region_held3 (fun W => Below wz.heap.size wz W ∧ (W.cell? ⟨w.heap.size, 0, none⟩ = some (.int .i64 xt.kind) ∧ W.cell? ⟨w.heap.size, 1, none⟩ = some (.string xt.name) ∧ W.cell? ⟨w.heap.size, 2, none⟩ = some (.int .i64 xt.n) ∧ W.cell? ⟨w.heap.size, 3, none⟩ = some (.slice xa xt.args.length xc)) ∧ (W.cell? ⟨w.heap.size + 1, 0, none⟩ = some (.int .i64 yt.kind) ∧ W.cell? ⟨w.heap.size + 1, 1, none⟩ = some (.string yt.name) ∧ W.cell? ⟨w.heap.size + 1, 2, none⟩ = some (.int .i64 yt.n) ∧ W.cell? ⟨w.heap.size + 1, 3, none⟩ = some (.slice ya yt.args.length yc))) (first | exact KEEP.out _ (by with_reducible assumption) | exact KEEP.out _ D6.out)
      ((first
        | (go_at_call 18; refine (A1.out _ l HLL.out HPX.out w6.drew (U6.out.below DR.out) (HW.out _ D6.out)).mono ?_; rintro e w7 ⟨tz, az, cz, rfl, hzt, hzo, hb7⟩; have hn7 := below_next D6.out hb7; have HZT := Lib.hid hzt; clear hzt)
        | (go_at_call 17; refine (SA.out ⟨tz, az, cz⟩ ⟨yt, ya, yc⟩ w7 (HZT.out.trans HAL.out) hzo (HYO.out _ (HW.out _ hn7))).mono ?_; rintro e w8 ⟨rfl, hb8⟩; have hn8 := below_next hn7 hb8)))
    have H7 := Lib.hid hn8
    obtain ⟨w7, hw7⟩ : ∃ w7, w7 = w8 := ⟨_, rfl⟩
    rw [← hw7] at H7 ⊢
    clear hw7 hn7 hn8 hb7 hb8 hzo p0 p1 p2 p3 q0 q1 q2 q3 h0d
    obtain ⟨_, ⟨p0, p1, p2, p3⟩, ⟨q0, q1, q2, q3⟩⟩ := KEEP.out w7 H7.out
    have D7 := Lib.hid (AD.out _ H7.out)
    have h0e := D7.out
    go_wp2_with fail
    go_region_held3 (fun W => Below wz.heap.size wz W ∧ (W.cell? ⟨w.heap.size, 0, none⟩ = some (.int .i64 xt.kind) ∧ W.cell? ⟨w.heap.size, 1, none⟩ = some (.string xt.name) ∧ W.cell? ⟨w.heap.size, 2, none⟩ = some (.int .i64 xt.n) ∧ W.cell? ⟨w.heap.size, 3, none⟩ = some (.slice xa xt.args.length xc)) ∧ (W.cell? ⟨w.heap.size + 1, 0, none⟩ = some (.int .i64 yt.kind) ∧ W.cell? ⟨w.heap.size + 1, 1, none⟩ = some (.string yt.name) ∧ W.cell? ⟨w.heap.size + 1, 2, none⟩ = some (.int .i64 yt.n) ∧ W.cell? ⟨w.heap.size + 1, 3, none⟩ = some (.slice ya yt.args.length yc))) (first | exact KEEP.out _ (by with_reducible assumption) | exact KEEP.out _ D7.out)
      ((first
        | (go_at_call 18; refine (B1.out _ (HW.out _ D7.out)).mono ?_; rintro e w9 ⟨tv, av, cv, rfl, hvt, hvo, hb9⟩; have hn9 := below_next D7.out hb9; have HVT := Lib.hid hvt; clear hvt)
        | (go_at_call 12; refine (MB.out HPX.out ⟨tv, av, cv⟩ ms (by rw [show (⟨tv, av, cv⟩ : Tv).t = _ from HVT.out]; exact HMS.out) (by rw [show (⟨tv, av, cv⟩ : Tv).t = _ from HVT.out]; exact HZP.out) w9 hvo (HW.out _ hn9)).mono ?_; rintro e w10 ⟨am, cm, rfl, hm, hb10⟩; have hn10 := below_next hn9 hb10)))
    have H10 := Lib.hid hn10
    have UM := Lib.hid hm
    have HMM := Lib.hid (HMK.out HPL.out _ ms HMS.out)
    have HML := Lib.hid (show ms.length ≤ 1000000 from by have := HLN.out _ ms HMS.out; have := HPX.out; simp at *; omega)
    clear hn9 hn10 hb9 hb10 hvo hm p0 p1 p2 p3 q0 q1 q2 q3 h0e
    obtain ⟨_, ⟨p0, p1, p2, p3⟩, ⟨q0, q1, q2, q3⟩⟩ := KEEP.out w10 H10.out
    have D10 := Lib.hid (AD.out _ H10.out)
    have h0f := D10.out
    have DM := Lib.hid (show Below w10.heap.size w10 w10.drew from (Below.refl _ _).drew)
    go_wp2_with fail
    go_region_held3 (fun W => Below wz.heap.size wz W ∧ (W.cell? ⟨w.heap.size, 0, none⟩ = some (.int .i64 xt.kind) ∧ W.cell? ⟨w.heap.size, 1, none⟩ = some (.string xt.name) ∧ W.cell? ⟨w.heap.size, 2, none⟩ = some (.int .i64 xt.n) ∧ W.cell? ⟨w.heap.size, 3, none⟩ = some (.slice xa xt.args.length xc)) ∧ (W.cell? ⟨w.heap.size + 1, 0, none⟩ = some (.int .i64 yt.kind) ∧ W.cell? ⟨w.heap.size + 1, 1, none⟩ = some (.string yt.name) ∧ W.cell? ⟨w.heap.size + 1, 2, none⟩ = some (.int .i64 yt.n) ∧ W.cell? ⟨w.heap.size + 1, 3, none⟩ = some (.slice ya yt.args.length yc))) (first | exact KEEP.out _ (by with_reducible assumption) | exact KEEP.out _ D10.out)
      ((first
        | (go_at_call 17; refine (SA.out ⟨tg, ag, cg⟩ ⟨th, ah, ch⟩ w12 (HGT.out.trans (HMM.out.trans HHT.out.symm)) (hgo.below hb12) hho).mono ?_; rintro e w13 ⟨rfl, hb13⟩; have hn13 := below_next hn12 hb13)
        | (go_at_call 18; refine (B1.out w11 (HW.out _ hn11)).mono ?_; rintro e w12 ⟨th, ah, ch, rfl, hht, hho, hb12⟩; have hn12 := below_next hn11 hb12; have HHT := Lib.hid hht; clear hht)
        | (go_at_call 18; refine (A1.out _ ms HML.out HPX.out w10.drew (UM.out.below DM.out) (HW.out _ D10.out)).mono ?_; rintro e w11 ⟨tg, ag, cg, rfl, hgt, hgo, hb11⟩; have hn11 := below_next D10.out hb11; have HGT := Lib.hid hgt; clear hgt)))
    have HE := Lib.hid (HW.out _ hn13)
    clear hn11 hn12 hn13 hb11 hb12 hb13 hgo hho p0 p1 p2 p3 q0 q1 q2 q3 h0f
    go_wp2_with fail
    go_ret
    exact ⟨rfl, HE.out⟩
end Go.Proofs.Ytcecbdglepneaaa
