/-
  The most general binds that make two terms alike, and whether there are such, by the program: All, Unify.
  The binds by which any two terms are made alike: the law answers true.
  What two terms are made alike by does make them alike, and once more changes nothing: the law answers true, from what the program's functions answer.
  Where any binds make two terms alike: what is found, and these binds behind it. No function of the program.
  Where any binds make two terms alike, some are found, and these binds are some behind them: the law answers true, from what the program's functions answer.
-/
import Derived.Test.YtedljdcliilggaaU36
import Derived.Test.YtedljdcliilggaaU37
import Derived.Test.YtedljdcliilggaaU14
import Derived.Test.YtedljdcliilggaaU13
import Derived.Deep.RegionWith
import Derived.Sort.AtCall
import Derived.Test.YtedljdcliilggaaU09
import Derived.Test.YtedljdcliilggaaU08
import Derived.Deep.RegionHeld3
namespace Go.Proofs.Ytedljdcliilggaa
open Go.RowKit Go.Maps

set_option maxRecDepth 100000 in
set_option maxHeartbeats 4000000 in
theorem all_any (a b : Tm) (va vb : Value) (w : World) (o : Option (List Bn)) (h1 : Tms w va [a]) (h2 : Tms w vb [b]) (ha : PlainT a) (hb : PlainT b) (pa : a.parts ≤ 40) (pb : b.parts ≤ 40) (ho : RowU [a] [b] o) :
    Calls Try.prog 28 #[va, vb] w (RowPost (uniO o) w) := by
  have TR := Lib.hid ((triangle_any a b va vb w o h1 h2 ha hb pa pb ho).mono (fun e w' ⟨u, e1, e2, e3⟩ => (show ∃ au cu, e = Ending.returned (.tuple #[.slice au (o.getD []).length cu, .bool o.isSome]) ∧ Bds w' (.slice au (o.getD []).length cu) (o.getD []) ∧ Below w.heap.size w w' from by
    obtain ⟨au, cu, rfl, _⟩ := id e2
    exact ⟨au, cu, e1, e2, e3⟩)))
  cases o with
  | none =>
    clear h1 h2 ha hb pa pb ho
    simp only [Option.isSome_none, Option.getD_none] at TR
    go_enter Try.func28, Try.ntmps28
    go_wp2_with fail
    refine TR.out.mono ?_; rintro e w3 ⟨au, cu, rfl, hu, hb3⟩
    have HB := Lib.hid hb3
    clear hu hb3 TR
    go_wp2_with fail
    go_ret2
    exact ⟨_, rfl, Bds.none_ _ _ _, HB.out⟩
  | some l =>
    have hfine := row_fine ho rfl rfl rfl ha hb pa pb
    have htri := row_tri ho l rfl (plainL_one ha) (plainL_one hb)
    have SV := Lib.hid (fun (v : Value) (W : World) (h : Bds W v l) => solve_any v l W h (by omega) htri.2.1 (fun x hx => by
      obtain ⟨i, hi, rfl⟩ := List.getElem_of_mem hx
      have := hfine.1 i _ (List.getElem?_eq_getElem hi) 0
      rw [List.take_zero, appR] at this
      unfold mostT at this; omega))
    clear h1 h2 ha hb pa pb ho hfine htri
    simp only [Option.isSome_some, Option.getD_some] at TR
    go_enter Try.func28, Try.ntmps28
    go_wp2_with fail
    refine TR.out.mono ?_; rintro e w3 ⟨au, cu, rfl, hu, hb3⟩
    have SV2 := Lib.hid (SV.out _ _ hu)
    have HB := Lib.hid hb3
    clear hu hb3 TR SV
    go_wp2_with fail
    refine SV2.out.mono ?_; rintro e w4 ⟨u, rfl, hu4, hb4⟩
    have H4 := Lib.hid (And.intro hu4 (below_next HB.out hb4))
    clear hu4 hb4 SV2
    go_wp2_with fail
    go_ret2
    exact ⟨_, rfl, H4.out.1, H4.out.2⟩

set_option maxRecDepth 100000 in
set_option maxHeartbeats 4000000 in
theorem punify_any : AskTwo 12 (fun o => RowPost (uniO o)) := by
  intro x y w o hx hy hpx hpy hax hay ho
  obtain ⟨xt, xa, xc⟩ := x
  obtain ⟨yt, ya, yc⟩ := y
  have hB2 := below_two w (.cells #[.int .i64 xt.kind, .string xt.name, .int .i64 xt.n, .slice xa xt.args.length xc] 24) (.cells #[.int .i64 yt.kind, .string yt.name, .int .i64 yt.n, .slice ya yt.args.length yc] 24)
  have bX := (box_new w (.int .i64 xt.kind) (.string xt.name) (.int .i64 xt.n) (.slice xa xt.args.length xc) 24).below ((Below.refl _ _).alloc (Nat.le_refl _) (.cells #[.int .i64 yt.kind, .string yt.name, .int .i64 yt.n, .slice ya yt.args.length yc] 24)) (by simp)
  have bY := alloc_two w (.cells #[.int .i64 xt.kind, .string xt.name, .int .i64 xt.n, .slice xa xt.args.length xc] 24) (.int .i64 yt.kind) (.string yt.name) (.int .i64 yt.n) (.slice ya yt.args.length yc) 24
  obtain ⟨wz, hwz⟩ : ∃ wz, wz = ((w.alloc (.cells #[.int .i64 xt.kind, .string xt.name, .int .i64 xt.n, .slice xa xt.args.length xc] 24)).alloc (.cells #[.int .i64 yt.kind, .string yt.name, .int .i64 yt.n, .slice ya yt.args.length yc] 24)) := ⟨_, rfl⟩
  have hzs : wz.heap.size = w.heap.size + 1 + 1 := by rw [hwz]; simp
  rw [← hwz] at hB2 bX bY
  have hB3 : Below wz.heap.size wz (wz.alloc (.cells #[.int .i64 xt.kind, .string xt.name, .int .i64 xt.n, .slice xa xt.args.length xc] 24)) := (Below.refl _ _).alloc (Nat.le_refl _) _
  have hz1 : (wz.alloc (.cells #[.int .i64 xt.kind, .string xt.name, .int .i64 xt.n, .slice xa xt.args.length xc] 24)).heap.size = wz.heap.size + 1 := by simp
  have TX := tms_new1 wz ⟨xt, xa, xc⟩ (hx.below hB2) 24
  have TY := tms_new1 (wz.alloc (.cells #[.int .i64 xt.kind, .string xt.name, .int .i64 xt.n, .slice xa xt.args.length xc] 24)) ⟨yt, ya, yc⟩ (hy.below (below_next hB2 hB3)) 24
  rw [hz1] at TY
  have hB4 : Below wz.heap.size wz ((wz.alloc (.cells #[.int .i64 xt.kind, .string xt.name, .int .i64 xt.n, .slice xa xt.args.length xc] 24)).alloc (.cells #[.int .i64 yt.kind, .string yt.name, .int .i64 yt.n, .slice ya yt.args.length yc] 24)) := hB3.alloc hB3.size _
  rw [hzs] at TX TY
  simp only at TX TY
  have CT := Lib.hid (all_any xt yt _ _ _ o (TX.below ((Below.refl _ _).alloc (Nat.le_refl _) _)) TY hpx hpy hax hay ho)
  have HB4 := Lib.hid (below_next hB2 hB4)
  obtain ⟨p0, p1, p2, p3, _, _, _, _⟩ := bX
  obtain ⟨q0, q1, q2, q3, _, _, _, _⟩ := bY
  have hg1 : w.heap.size < wz.heap.size := by omega
  have hg2 : w.heap.size + 1 < wz.heap.size := by omega
  have HO := Lib.hid ho
  clear hx hy hpx hpy hax hay ho hB2 hB3 hB4 hz1 hzs TX TY
  simp only [Tv.val]
  go_enter Try.func12, Try.ntmps12
  go_wp2_with fail
  rw [← hwz]
  refine CT.out.mono ?_; rintro e w3 ⟨u3, rfl, hu3, hb3⟩
  have HU := Lib.hid hu3
  have HB := Lib.hid (HB4.out.trans (hb3.mono HB4.out.size))
  obtain ⟨a3, c3, rfl, _, _⟩ := hu3
  clear hb3 hwz p0 p1 p2 p3 q0 q1 q2 q3
  go_wp2_with fail
  go_ret2
  exact ⟨_, rfl, HU.out, HB.out⟩
end Go.Proofs.Ytedljdcliilggaa

namespace Go.Proofs.Ytedljdcliilggaa
open Go.RowKit

theorem lawFinds7_any (x y : Tv) (w : World) (hx : x.ok w) (hy : y.ok w) :
    Calls Try.prog 3 #[x.val, y.val] w fun e w' => e = .returned (.bool true) ∧ Below w.heap.size w w' :=
  lawFinds7_of (awake7_of pcan_any punify_any) ptriangle_any pcan_any punify_any x y w hx hy
end Go.Proofs.Ytedljdcliilggaa

namespace Go.Proofs.Ytedljdcliilggaa
open Go.RowKit

/-- What the program's Apply answers. -/
def AskApply : Prop := ∀ (bs : List Bn) (v : Value) (x : Tv) (w0 w : World), Bds w0 v bs → bs.length ≤ 1000 → x.ok w0 → x.t.parts ≤ 2300000000000 → Below w0.heap.size w0 w →
  Calls Try.prog 14 #[v, x.val] w (ApPost (appT bs x.t) w0 w)
theorem alike7 {a b : Tm} {o : Option (List Bn)} (h : RowU [a] [b] o) (ha : PlainT a) (hb : PlainT b) (pa : a.parts ≤ 40) (pb : b.parts ≤ 40) {m : List Bn} (hm : o = some m) :
    ∃ T : Tm, appT (ofB (solveL m)) a = T ∧ appT (ofB (solveL m)) b = T ∧ T.parts ≤ 2300000000000 ∧ appT (ofB (solveL m)) T = T ∧ (ofB (solveL m)).length ≤ 1000 := by
  have tri := row_tri h m hm (plainL_one ha) (plainL_one hb)
  have fine := row_fine h rfl rfl hm ha hb pa pb
  have e : ∀ t, PlainT t → appT (ofB (solveL m)) t = appR m t := fun t ht => (appT_congr (ofB_get _) t).trans (appR_solve t ht).symm
  have al := row_alike h m hm rfl (plainL_one ha) (plainL_one hb)
  have al2 : appR m a = appR m b := by
    rw [List.map_cons, List.map_nil, List.map_cons, List.map_nil] at al; injection al
  refine ⟨appR m a, e a ha, (e b hb).trans al2.symm, ?_, (e _ (plain_appR a tri.2.1 ha)).trans (appR_twice tri.1 tri.2.1 a ha), ?_⟩
  · have := fine.2.1 m.length
    rw [List.take_length] at this
    unfold mostT at this; omega
  · have h1 := ofB_length (solveL m)
    have h2 := fine.2.2.2
    rw [solve_len] at h1; omega

set_option maxRecDepth 100000 in
set_option maxHeartbeats 8000000 in
theorem lawAlike7_of (AW : ∀ W, Calls Try.prog 6 #[] W fun e w' => e = .returned (.bool true) ∧ Below W.heap.size W w')
    (PU : AskTwo 12 (fun o => RowPost (uniO o))) (PA : AskApply)
    (x y : Tv) (w : World) (hx : x.ok w) (hy : y.ok w) :
    Calls Try.prog 4 #[x.val, y.val] w fun e w' => e = .returned (.bool true) ∧ Below w.heap.size w w' := by
  have AW1 := Lib.hid AW
  have FX := Lib.hid (fun (W : World) (h : Below w.heap.size w W) => rfits_tm x W (hx.below h))
  have FY := Lib.hid (fun (W : World) (h : Below w.heap.size w W) => rfits_tm y W (hy.below h))
  obtain ⟨o, ho⟩ : ∃ o, fitsB x.t = true → fitsB y.t = true → RowU [x.t] [y.t] o := by
    by_cases hf : fitsB x.t = true
    · by_cases hg : fitsB y.t = true
      · obtain ⟨o, h⟩ := row_any [x.t] [y.t] rfl (plainL_one (fits_of hf).2) (plainL_one (fits_of hg).2)
        exact ⟨o, fun _ _ => h⟩
      · exact ⟨none, fun _ h => absurd h hg⟩
    · exact ⟨none, fun h => absurd h hf⟩
  have U1 := Lib.hid (fun (hf : fitsB x.t = true) (hg : fitsB y.t = true) (W : World) (h : Below w.heap.size w W) => (PU x y W o (hx.below h) (hy.below h) (fits_of hf).2 (fits_of hg).2 (fits_of hf).1 (fits_of hg).1 (ho hf hg)).mono (fun e w' ⟨u, h1, h2, h3⟩ => (show ∃ a c, e = Ending.returned (.tuple #[.slice a ((uniO o).getD []).length c, .bool o.isSome]) ∧ Bds w' (.slice a ((uniO o).getD []).length c) ((uniO o).getD []) ∧ Below W.heap.size W w' from by obtain ⟨a, c, rfl, _⟩ := id h2; exact ⟨a, c, by rw [h1, uniO_some], h2, h3⟩)))
  have AP := Lib.hid (fun (bs : List Bn) (v : Value) (z : Tv) (W : World) (h1 : Bds W v bs) (h2 : bs.length ≤ 1000) (h3 : z.ok W) (h4 : z.t.parts ≤ 2300000000000) => (PA bs v z W W h1 h2 h3 h4 (Below.refl _ _)).mono (fun e w' ⟨u, h1, h2, h3, h4⟩ => (show ∃ (tz : Tm) (az : Option Addr) (cz : Nat), e = Ending.returned (.agg #[.int .i64 tz.kind, .string tz.name, .int .i64 tz.n, .slice az tz.args.length cz]) ∧ tz = appT bs z.t ∧ Tv.ok w' ⟨tz, az, cz⟩ ∧ Below W.heap.size W w' from ⟨u.t, u.a, u.c, h1, h2, h3.ok h4, h4⟩)))
  have AL := Lib.hid (fun (hf : fitsB x.t = true) (hg : fitsB y.t = true) (m : List Bn) (hm : o = some m) => alike7 (ho hf hg) (fits_of hf).2 (fits_of hg).2 (fits_of hf).1 (fits_of hg).1 hm)
  have PX := Lib.hid (fun (hf : fitsB x.t = true) => (show x.t.parts ≤ 2300000000000 by have := (fits_of hf).1; omega))
  have PY := Lib.hid (fun (hg : fitsB y.t = true) => (show y.t.parts ≤ 2300000000000 by have := (fits_of hg).1; omega))
  have SA := Lib.hid (fun (y z : Tv) (W : World) (h0 : y.t = z.t) (h1 : y.ok W) (h2 : z.ok W) => (show Calls Try.prog 15 #[y.val, z.val] W (fun e w' => e = Ending.returned (.bool true) ∧ Below W.heap.size W w') from
    (same_tm y.t.parts y z W (Nat.le_refl _) h1 h2).mono (fun e w' ⟨h3, h4⟩ => ⟨by rw [h3, eqT_iff.2 h0], h4⟩)))
  have HXO := Lib.hid (fun (W : World) (h : Below w.heap.size w W) => hx.below h)
  have HYO := Lib.hid (fun (W : World) (h : Below w.heap.size w W) => hy.below h)
  clear AW PA PU hx hy ho
  obtain ⟨xt, xa, xc⟩ := x
  obtain ⟨yt, ya, yc⟩ := y
  have hbx := box_new w (.int .i64 xt.kind) (.string xt.name) (.int .i64 xt.n) (.slice xa xt.args.length xc) 24
  have hby := box_new (w.alloc (.cells #[.int .i64 xt.kind, .string xt.name, .int .i64 xt.n, .slice xa xt.args.length xc] 24)) (.int .i64 yt.kind) (.string yt.name) (.int .i64 yt.n) (.slice ya yt.args.length yc) 24
  have hz1 : (w.alloc (.cells #[.int .i64 xt.kind, .string xt.name, .int .i64 xt.n, .slice xa xt.args.length xc] 24)).heap.size = w.heap.size + 1 := by simp
  rw [hz1] at hby
  have hBA := below_two w (.cells #[.int .i64 xt.kind, .string xt.name, .int .i64 xt.n, .slice xa xt.args.length xc] 24) (.cells #[.int .i64 yt.kind, .string yt.name, .int .i64 yt.n, .slice ya yt.args.length yc] 24)
  have hbx2 := hbx.below ((Below.refl _ _).alloc (Nat.le_refl _) (.cells #[.int .i64 yt.kind, .string yt.name, .int .i64 yt.n, .slice ya yt.args.length yc] 24)) (by rw [hz1]; omega)
  obtain ⟨wb, hwb⟩ : ∃ wb, wb = (w.alloc (.cells #[.int .i64 xt.kind, .string xt.name, .int .i64 xt.n, .slice xa xt.args.length xc] 24)).alloc (.cells #[.int .i64 yt.kind, .string yt.name, .int .i64 yt.n, .slice ya yt.args.length yc] 24) := ⟨_, rfl⟩
  have hz2 : wb.heap.size = w.heap.size + 2 := by rw [hwb]; simp
  rw [← hwb] at hby hBA hbx2
  have HBX := Lib.hid (fun (V : World) (h : Below wb.heap.size wb V) => hbx2.below h (by omega))
  have HBY := Lib.hid (fun (V : World) (h : Below wb.heap.size wb V) => hby.below h (by omega))
  have HW := Lib.hid (fun (V : World) (h : Below wb.heap.size wb V) => hBA.trans (h.mono hBA.size))
  clear hbx hby hz1 hBA hbx2 hz2
  simp only [Tv.val] at *
  go_enter Try.func4, Try.ntmps4
  go_wp2_with fail
  rw [← hwb]
  clear hwb
  refine (AW1.out _).mono ?_; rintro e w1 ⟨rfl, hb1⟩
  obtain ⟨p0, p1, p2, p3, _, _, _, _⟩ := HBX.out w1 hb1
  go_wp2_with fail
  refine (FX.out _ (HW.out _ hb1)).mono ?_; rintro e w2 ⟨rfl, hb2⟩
  replace hb2 := below_next hb1 hb2
  clear hb1 p0 p1 p2 p3
  cases hf : fitsB xt with
  | false =>
    have HE := Lib.hid (HW.out _ hb2)
    clear hb2
    go_wp2_with fail
    go_ret
    exact ⟨rfl, HE.out⟩
  | true =>
  obtain ⟨q0, q1, q2, q3, _, _, _, _⟩ := HBY.out w2 hb2
  go_wp2_with fail
  refine (FY.out _ (HW.out _ hb2)).mono ?_; rintro e w3 ⟨rfl, hb3⟩
  replace hb3 := below_next hb2 hb3
  clear hb2 q0 q1 q2 q3
  cases hg : fitsB yt with
  | false =>
    have HE := Lib.hid (HW.out _ hb3)
    clear hb3
    go_wp2_with fail
    go_ret
    exact ⟨rfl, HE.out⟩
  | true =>
  have U2 := Lib.hid (U1.out hf hg)
  have A2 := Lib.hid (AL.out hf hg)
  have PX2 := Lib.hid (PX.out hf)
  have PY2 := Lib.hid (PY.out hg)
  clear U1 AL PX PY hf hg FX FY AW1
  obtain ⟨p0, p1, p2, p3, _, _, _, _⟩ := HBX.out w3 hb3
  obtain ⟨q0, q1, q2, q3, _, _, _, _⟩ := HBY.out w3 hb3
  go_wp2_with fail
  refine (U2.out _ (HW.out _ hb3)).mono ?_; rintro e w4 ⟨a4, c4, rfl, hu4, hb4⟩
  replace hb4 := below_next hb3 hb4
  have H4 := Lib.hid hb4
  have HU4 := Lib.hid hu4
  clear hb3 hu4 hb4 p0 p1 p2 p3 q0 q1 q2 q3
  cases o with
  | none =>
    have HE := Lib.hid (HW.out _ H4.out)
    have hl0 : ((uniO none).getD []).length = 0 := rfl
    go_wp2_with fail
    go_ret
    exact ⟨rfl, HE.out⟩
  | some m =>
  obtain ⟨T, hTa, hTb, hTp, hTT, hTl⟩ := A2.out m rfl
  have HTA := Lib.hid hTa
  have HTB := Lib.hid hTb
  have HTP := Lib.hid hTp
  have HTT := Lib.hid hTT
  have HTL := Lib.hid hTl
  have HU5 := Lib.hid (show Bds w4 (.slice a4 (ofB (solveL m)).length c4) (ofB (solveL m)) from HU4.out)
  clear hTa hTb hTp hTT hTl A2 U2 HU4
  simp only [uniO, Option.map_some, Option.getD_some, Option.isSome_some]
  obtain ⟨bs, hbs⟩ : ∃ bs, ofB (solveL m) = bs := ⟨_, rfl⟩
  rw [hbs] at HTA HTB HTT HTL HU5 ⊢
  clear hbs
  obtain ⟨p0, p1, p2, p3, _, _, _, _⟩ := HBX.out w4 H4.out
  go_wp2_with fail
  refine (AP.out bs _ ⟨xt, xa, xc⟩ w4 HU5.out HTL.out (HXO.out _ (HW.out _ H4.out)) PX2.out).mono ?_; rintro e w5 ⟨tz, az, cz, rfl, hzt, hzo, hb5⟩
  obtain rfl : tz = T := hzt.trans HTA.out
  have hbT := box_new w5 (.int .i64 tz.kind) (.string tz.name) (.int .i64 tz.n) (.slice az tz.args.length cz) 24
  have hA := (Below.refl w5.heap.size w5).alloc (Nat.le_refl _) (.cells #[.int .i64 tz.kind, .string tz.name, .int .i64 tz.n, .slice az tz.args.length cz] 24)
  have hz5 : (w5.alloc (.cells #[.int .i64 tz.kind, .string tz.name, .int .i64 tz.n, .slice az tz.args.length cz] 24)).heap.size = w5.heap.size + 1 := by simp
  obtain ⟨w6, hw6⟩ : ∃ w6, w6 = w5.alloc (.cells #[.int .i64 tz.kind, .string tz.name, .int .i64 tz.n, .slice az tz.args.length cz] 24) := ⟨_, rfl⟩
  rw [← hw6] at hbT hA hz5
  have hb46 := below_next hb5 hA
  have h6 := below_next H4.out hb46
  have HBT := Lib.hid (fun (V : World) (h : Below w6.heap.size w6 V) => hbT.below h (by omega))
  have HX6 := Lib.hid (fun (V : World) (h : Below w6.heap.size w6 V) => HBX.out V (below_next h6 h))
  have HY6 := Lib.hid (fun (V : World) (h : Below w6.heap.size w6 V) => HBY.out V (below_next h6 h))
  have HW6 := Lib.hid (fun (V : World) (h : Below w6.heap.size w6 V) => HW.out V (below_next h6 h))
  have HU6 := Lib.hid (fun (V : World) (h : Below w6.heap.size w6 V) => HU5.out.below (below_next hb46 h))
  have HZ6 := Lib.hid (fun (V : World) (h : Below w6.heap.size w6 V) => (hzo.below (below_next hA h)))
  have BD := Lib.hid (show Below w6.heap.size w6 w6.drew from (Below.refl _ _).drew)
  have HW6E := Lib.hid hw6
  clear p0 p1 p2 p3 hbT hA hz5 hb46 h6 hzt hzo hb5
  obtain ⟨p0, p1, p2, p3, _, _, _, _⟩ := HBT.out w6 (Below.refl _ _)
  obtain ⟨q0, q1, q2, q3, _, _, _, _⟩ := HY6.out w6 (Below.refl _ _)
  rw [hw6] at p0 p1 p2 p3 q0 q1 q2 q3
  clear hw6
  go_wp2_with fail
  rw [← HW6E.out] at p0 p1 p2 p3 q0 q1 q2 q3 ⊢
  clear HW6E
  go_region_with (first
    | (go_at_call_has 14 (Value.agg #[.int .i64 yt.kind, .string yt.name, .int .i64 yt.n, .slice ya yt.args.length yc]); (with_reducible refine (AP.out bs _ ⟨yt, ya, yc⟩ _ (HU6.out _ BD.out) HTL.out (HYO.out _ (HW6.out _ BD.out)) PY2.out).mono ?_); rintro e w7 ⟨tq, aq, cq, rfl, hqt, hqo, h7⟩; have H7 := Lib.hid (below_next BD.out h7); have HQT := Lib.hid hqt; have HQO := Lib.hid hqo; obtain ⟨p0, p1, p2, p3, _, _, _, _⟩ := HBT.out w7 H7.out; clear hqt hqo h7)
    | (go_at_call_has 15 (Value.agg #[.int .i64 tq.kind, .string tq.name, .int .i64 tq.n, .slice aq tq.args.length cq]); (with_reducible refine (SA.out ⟨tz, az, cz⟩ ⟨tq, aq, cq⟩ w7 (HQT.out.trans HTB.out).symm (HZ6.out _ H7.out) HQO.out).mono ?_); rintro e w8 ⟨rfl, h8⟩; have H8 := Lib.hid (below_next H7.out h8); obtain ⟨p0, p1, p2, p3, _, _, _, _⟩ := HBT.out w8 H8.out; clear h8)
    | (go_at_call 14; (with_reducible refine (AP.out bs _ ⟨tz, az, cz⟩ _ (HU6.out _ H8.out) HTL.out (HZ6.out _ H8.out) HTP.out).mono ?_); rintro e w9 ⟨tr, ar, cr, rfl, hrt, hro, h9⟩; have H9 := Lib.hid (below_next H8.out h9); have HRT := Lib.hid hrt; have HRO := Lib.hid hro; obtain ⟨p0, p1, p2, p3, _, _, _, _⟩ := HBT.out w9 H9.out; clear hrt hro h9)
    | (go_at_call 15; (with_reducible refine (SA.out ⟨tr, ar, cr⟩ ⟨tz, az, cz⟩ w9 (HRT.out.trans HTT.out) HRO.out (HZ6.out _ H9.out)).mono ?_); rintro e w10 ⟨rfl, h10⟩; have H10 := Lib.hid (below_next H9.out h10); clear h10))
  all_goals
    go_wp2_with fail
    go_ret
    exact ⟨rfl, HW6.out _ H10.out⟩
end Go.Proofs.Ytedljdcliilggaa

namespace Go.Proofs.Ytedljdcliilggaa
open Go.RowKit

/-- Whether binds become others, by matches of all of them. -/
noncomputable def genL (b : List Bn) : List Bn → List Bn → Bool
  | [], _ => true
  | x :: a, l => match moreT x.2 ((getB b x.1).getD (varT x.1)) l with | some m => genL b a m | none => false
theorem app_var_get (s : List Bn) (z : ByteArray) : appT s (varT z) = (getB s z).getD (varT z) := by
  rw [appT_eq, if_pos (show (varT z).kind = 1 from rfl)]
  show (match getB s z with | some u => u | none => _) = _
  cases getB s z <;> rfl
theorem gen_done (s : List Bn) : ∀ (a l : List Bn), (∀ x ∈ a, PlainT x.2 ∧ appT s x.2 = appT s (varT x.1)) → Com s l → genL s a l = true
  | [], _, _, _ => rfl
  | x :: a, l, h, hc => by
    obtain ⟨h1, h2⟩ := h x List.mem_cons_self
    obtain ⟨m, hm, hcm⟩ := moreT_done s x.2 l h1 hc
    rw [genL, ← app_var_get, ← h2, hm]
    exact gen_done s a m (fun y hy => h y (List.mem_cons_of_mem _ hy)) hcm
mutual
theorem parts_app_le (s : List Bn) : ∀ t : Tm, PlainT t → t.parts ≤ (appT s t).parts
  | .mk k z n xs, hp => by
    by_cases hk : k = 1
    · have e := plain_var hp hk
      rw [e]
      have h1 : (varT (Tm.mk k z n xs).name).parts = 1 := rfl
      have := parts_pos (appT s (varT (Tm.mk k z n xs).name))
      omega
    · rw [appT_eq, if_neg (show ¬ (Tm.mk k z n xs).kind = 1 from hk), parts_eq, parts_eq]
      have := parts_appL_le s xs hp.args
      show partsL xs + 1 ≤ partsL (xs.map (appT s)) + 1
      rw [← appL_map]; omega
theorem parts_appL_le (s : List Bn) : ∀ l : List Tm, PlainL l → partsL l ≤ partsL (appL s l)
  | [], _ => by rw [appL]; exact Nat.le_refl _
  | t :: r, hp => by
    rw [appL, partsL_cons, partsL_cons]
    have h1 := parts_app_le s t hp.head
    have h2 := parts_appL_le s r hp.tail
    omega
end
theorem plainL_1 {t : Tm} (h : PlainT t) : PlainL [t] := fun x hx => by rw [allL_cons, allL, List.append_nil] at hx; exact h x hx
theorem solve_plain : ∀ {m : List Bn}, (∀ x ∈ m, PlainT x.2) → ∀ x ∈ solveL m, PlainT x.2
  | [], _, x, hx => by cases hx
  | c :: l, h, x, hx => by
    rw [solveL] at hx
    rcases List.mem_cons.1 hx with rfl | hx
    · exact plain_appR c.2 (fun y hy => h y (List.mem_cons_of_mem _ hy)) (h c List.mem_cons_self)
    · exact solve_plain (fun y hy => h y (List.mem_cons_of_mem _ hy)) x hx
theorem rising_at7 : ∀ {l : List Bn}, Rising l → ∀ {x : Bn}, x ∈ l → getB l x.1 = some x.2
  | [], _, x, hx => by cases hx
  | c :: l, h, x, hx => by
    unfold Rising at h
    rw [List.pairwise_cons] at h
    rcases List.mem_cons.1 hx with rfl | hx
    · exact getB_hit _ _ rfl
    · rw [getB_miss c l (ltN_ne (h.1 x hx))]
      exact rising_at7 h.2 hx
theorem getB_mem2 {l : List Bn} {s : ByteArray} {t : Tm} (h : getB l s = some t) : ∃ y ∈ l, y.1 = s ∧ y.2 = t := by
  unfold getB at h
  obtain ⟨x, hx, rfl⟩ := Option.map_eq_some_iff.1 h
  exact ⟨x, List.mem_of_find?_eq_some hx, beq_name.1 (List.find?_some (p := fun x : Bn => x.1.toList == s.toList) hx), rfl⟩
theorem general7 {a b : Tm} {o : Option (List Bn)} (h : RowU [a] [b] o) (ha : PlainT a) (hb : PlainT b) (pa : a.parts ≤ 40) (pb : b.parts ≤ 40) {s : List Bn} (hs : ∀ x ∈ s, x.2.parts ≤ 40 ∧ PlainT x.2) (he : appT s a = appT s b) :
    ∃ m, o = some m ∧ (ofB (solveL m)).length ≤ 80 ∧ (∀ x ∈ ofB (solveL m), PlainT x.2 ∧ x.2.parts ≤ 40) ∧ genL s (ofB (solveL m)) [] = true ∧ appT (thenB (ofB (solveL m)) s) a = appT s a := by
  have heL : appL s [a] = appL s [b] := by rw [appL, appL, appL, appL, he]
  obtain ⟨m, hm, hall⟩ := row_most h s rfl (plainL_1 ha) (plainL_1 hb) heL
  obtain ⟨m', hm', hgen⟩ := row_general h s rfl (plainL_1 ha) (plainL_1 hb) heL
  obtain rfl : m = m' := by rw [hm] at hm'; injection hm'
  have tri := row_tri h m hm (plainL_1 ha) (plainL_1 hb)
  have fine := row_fine h rfl rfl hm ha hb pa pb
  have hsp : ∀ x ∈ solveL m, PlainT x.2 := solve_plain tri.2.1
  have hof : ∀ x ∈ ofB (solveL m), ∃ y ∈ solveL m, y.1 = x.1 ∧ y.2 = x.2 := fun x hx => by
    have h1 : getB (ofB (solveL m)) x.1 = some x.2 := rising_at7 (ofB_rising _) hx
    rw [ofB_get] at h1
    exact getB_mem2 h1
  refine ⟨m, hm, ?_, fun x hx => ?_, gen_done s _ [] (fun x hx => ?_) (com_nil s), ?_⟩
  · have h1 := ofB_le (solveL m)
    have h2 := congrArg List.length (solve_names m)
    rw [List.length_map, List.length_map] at h2
    have := fine.2.2.2; omega
  · obtain ⟨y, hy, e1, e2⟩ := hof x hx
    have h1 := hsp y hy
    have h2 := parts_app_le s y.2 h1
    rw [hall y hy, app_var_get] at h2
    rw [← e2]
    refine ⟨h1, Nat.le_trans h2 ?_⟩
    cases hg : getB s y.1 with
    | none => rw [Option.getD_none]; show 1 ≤ 40; omega
    | some u =>
      rw [Option.getD_some]
      obtain ⟨v, hv, e⟩ := getB_mem hg
      rw [← e]; exact (hs v hv).1
  · obtain ⟨y, hy, e1, e2⟩ := hof x hx
    rw [← e1, ← e2]
    exact ⟨hsp y hy, hall y hy⟩
  · rw [then_app, (appT_congr (ofB_get _) a).trans (appR_solve a ha).symm]
    exact agree_row a hgen ha
end Go.Proofs.Ytedljdcliilggaa

namespace Go.Proofs.Ytedljdcliilggaa
open Go.RowKit

/-- What the program's Then answers. -/
def AskThen : Prop := ∀ (cs bs : List Bn) (va vb : Value) (W : World), Bds W va cs → Bds W vb bs → cs.length ≤ 1000 → bs.length ≤ 1000 → (∀ x ∈ cs, x.2.parts ≤ 2300000000000) →
  Calls Try.prog 19 #[va, vb] W fun e w' => ∃ u, e = .returned u ∧ Bds w' u (thenB cs bs) ∧ Below W.heap.size W w'
/-- What the program's General answers, of few small binds. -/
def AskGen : Prop := ∀ (cs bs : List Bn) (va vb : Value) (W : World), Bds W va cs → Bds W vb bs → cs.length ≤ 80 → bs.length ≤ 80 → (∀ x ∈ cs, PlainT x.2 ∧ x.2.parts ≤ 40) → (∀ x ∈ bs, PlainT x.2 ∧ x.2.parts ≤ 40) →
  Calls Try.prog 18 #[va, vb] W fun e w' => e = .returned (.bool (genL bs (ofB cs) [])) ∧ Below W.heap.size W w'

set_option maxRecDepth 100000 in
set_option maxHeartbeats 8000000 in
theorem lawGeneral7_of (AW : ∀ W, Calls Try.prog 6 #[] W fun e w' => e = .returned (.bool true) ∧ Below W.heap.size W w')
    (PU : AskTwo 12 (fun o => RowPost (uniO o))) (PA : AskApply) (PH : AskThen) (PG : AskGen)
    (x y : Tv) (v : Value) (s : List Bn) (w : World) (hx : x.ok w) (hy : y.ok w) (hv : Bds w v s) :
    Calls Try.prog 5 #[x.val, y.val, v] w fun e w' => e = .returned (.bool true) ∧ Below w.heap.size w w' := by
  have AW1 := Lib.hid AW
  have FX := Lib.hid (fun (W : World) (h : Below w.heap.size w W) => rfits_tm x W (hx.below h))
  have FY := Lib.hid (fun (W : World) (h : Below w.heap.size w W) => rfits_tm y W (hy.below h))
  have FS := Lib.hid (fun (W : World) (h : Below w.heap.size w W) => rbinds_any v s W (hv.below h))
  obtain ⟨o, ho⟩ : ∃ o, fitsB x.t = true → fitsB y.t = true → RowU [x.t] [y.t] o := by
    by_cases hf : fitsB x.t = true
    · by_cases hg : fitsB y.t = true
      · obtain ⟨o, h⟩ := row_any [x.t] [y.t] rfl (plainL_one (fits_of hf).2) (plainL_one (fits_of hg).2)
        exact ⟨o, fun _ _ => h⟩
      · exact ⟨none, fun _ h => absurd h hg⟩
    · exact ⟨none, fun h => absurd h hf⟩
  have GN := Lib.hid (fun (hf : fitsB x.t = true) (hg : fitsB y.t = true) (hs : bindsB s = true) (he : appT s x.t = appT s y.t) => general7 (ho hf hg) (fits_of hf).2 (fits_of hg).2 (fits_of hf).1 (fits_of hg).1 (s := s) (fun z hz => ⟨((binds_of hs).2 z hz).2.1, ((binds_of hs).2 z hz).2.2⟩) he)
  have U1 := Lib.hid (fun (hf : fitsB x.t = true) (hg : fitsB y.t = true) (m : List Bn) (hm : o = some m) (W : World) (h : Below w.heap.size w W) => (PU x y W o (hx.below h) (hy.below h) (fits_of hf).2 (fits_of hg).2 (fits_of hf).1 (fits_of hg).1 (ho hf hg)).mono (fun e w' ⟨u, h1, h2, h3⟩ => (show ∃ a c, e = Ending.returned (.tuple #[.slice a (ofB (solveL m)).length c, .bool true]) ∧ Bds w' (.slice a (ofB (solveL m)).length c) (ofB (solveL m)) ∧ Below W.heap.size W w' from by subst hm; obtain ⟨a, c, rfl, _⟩ := id h2; exact ⟨a, c, h1, h2, h3⟩)))
  have AP := Lib.hid (fun (bs : List Bn) (v : Value) (z : Tv) (W : World) (h1 : Bds W v bs) (h2 : bs.length ≤ 1000) (h3 : z.ok W) (h4 : z.t.parts ≤ 2300000000000) => (PA bs v z W W h1 h2 h3 h4 (Below.refl _ _)).mono (fun e w' ⟨u, h1, h2, h3, h4⟩ => (show ∃ (tz : Tm) (az : Option Addr) (cz : Nat), e = Ending.returned (.agg #[.int .i64 tz.kind, .string tz.name, .int .i64 tz.n, .slice az tz.args.length cz]) ∧ tz = appT bs z.t ∧ Tv.ok w' ⟨tz, az, cz⟩ ∧ Below W.heap.size W w' from ⟨u.t, u.a, u.c, h1, h2, h3.ok h4, h4⟩)))
  have RA := Lib.hid (fun (z : Tv) (hp : z.t.parts ≤ 2300000000000) (hz : z.ok w) (W : World) (h : Below w.heap.size w W) => (rapply_tm s v w hv 2300000000000 z W hp (Nat.le_refl _) hz h).mono (fun e w' ⟨u, h1, h2, h3, h4⟩ => (show ∃ (tz : Tm) (az : Option Addr) (cz : Nat), e = Ending.returned (.agg #[.int .i64 tz.kind, .string tz.name, .int .i64 tz.n, .slice az tz.args.length cz]) ∧ tz = appT s z.t ∧ Tv.ok w' ⟨tz, az, cz⟩ ∧ Below W.heap.size W w' from ⟨u.t, u.a, u.c, h1, h2, h3.ok (h.trans (h4.mono h.size)), h4⟩)))
  have TH := Lib.hid (fun (cs : List Bn) (va : Value) (W : World) (h1 : Bds W va cs) (h2 : cs.length ≤ 80) (hs : s.length ≤ 6) (h4 : ∀ x ∈ cs, PlainT x.2 ∧ x.2.parts ≤ 40) (h : Below w.heap.size w W) => (PH cs s va v W h1 (hv.below h) (by omega) (by omega) (fun x hx => by have := (h4 x hx).2; omega)).mono (fun e w' ⟨u, h1, h2, h3⟩ => (show ∃ a c, e = Ending.returned (.slice a (thenB cs s).length c) ∧ Bds w' (.slice a (thenB cs s).length c) (thenB cs s) ∧ Below W.heap.size W w' from by obtain ⟨a, c, rfl, _⟩ := id h2; exact ⟨a, c, h1, h2, h3⟩)))
  have TL := Lib.hid (fun (cs : List Bn) (h2 : cs.length ≤ 80) (hs : s.length ≤ 6) => (show (thenB cs s).length ≤ 1000 from by rw [thenB_length]; have := namesB_len (cs ++ s); rw [List.length_append] at this; omega))
  have GE := Lib.hid (fun (cs : List Bn) (va : Value) (W : World) (h1 : Bds W va cs) (h2 : cs.length ≤ 80) (hs : bindsB s = true) (h4 : ∀ x ∈ cs, PlainT x.2 ∧ x.2.parts ≤ 40) (hr : ofB cs = cs) (hg : genL s cs [] = true) (h : Below w.heap.size w W) => (PG cs s va v W h1 (hv.below h) h2 (by have := (binds_of hs).1; omega) h4 (fun z hz => ⟨((binds_of hs).2 z hz).2.2, ((binds_of hs).2 z hz).2.1⟩)).mono (fun e w' ⟨h5, h6⟩ => (show e = Ending.returned (.bool true) ∧ Below W.heap.size W w' from ⟨by rw [h5, hr, hg], h6⟩)))
  have PX := Lib.hid (fun (hf : fitsB x.t = true) => (show x.t.parts ≤ 2300000000000 by have := (fits_of hf).1; omega))
  have PY := Lib.hid (fun (hg : fitsB y.t = true) => (show y.t.parts ≤ 2300000000000 by have := (fits_of hg).1; omega))
  have SM := Lib.hid (fun (y z : Tv) (W : World) (h1 : y.ok W) (h2 : z.ok W) => same_tm y.t.parts y z W (Nat.le_refl _) h1 h2)
  have HX0 := Lib.hid hx
  have HY0 := Lib.hid hy
  have HXO := Lib.hid (fun (W : World) (h : Below w.heap.size w W) => hx.below h)
  obtain ⟨av, cv, rfl, _, _⟩ := hv
  clear AW PA PU PH PG hx hy ho
  obtain ⟨xt, xa, xc⟩ := x
  obtain ⟨yt, ya, yc⟩ := y
  have hbx := box_new w (.int .i64 xt.kind) (.string xt.name) (.int .i64 xt.n) (.slice xa xt.args.length xc) 24
  have hby := box_new (w.alloc (.cells #[.int .i64 xt.kind, .string xt.name, .int .i64 xt.n, .slice xa xt.args.length xc] 24)) (.int .i64 yt.kind) (.string yt.name) (.int .i64 yt.n) (.slice ya yt.args.length yc) 24
  have hz1 : (w.alloc (.cells #[.int .i64 xt.kind, .string xt.name, .int .i64 xt.n, .slice xa xt.args.length xc] 24)).heap.size = w.heap.size + 1 := by simp
  rw [hz1] at hby
  have hBA := below_two w (.cells #[.int .i64 xt.kind, .string xt.name, .int .i64 xt.n, .slice xa xt.args.length xc] 24) (.cells #[.int .i64 yt.kind, .string yt.name, .int .i64 yt.n, .slice ya yt.args.length yc] 24)
  have hbx2 := hbx.below ((Below.refl _ _).alloc (Nat.le_refl _) (.cells #[.int .i64 yt.kind, .string yt.name, .int .i64 yt.n, .slice ya yt.args.length yc] 24)) (by rw [hz1]; omega)
  obtain ⟨wb, hwb⟩ : ∃ wb, wb = (w.alloc (.cells #[.int .i64 xt.kind, .string xt.name, .int .i64 xt.n, .slice xa xt.args.length xc] 24)).alloc (.cells #[.int .i64 yt.kind, .string yt.name, .int .i64 yt.n, .slice ya yt.args.length yc] 24) := ⟨_, rfl⟩
  have hz2 : wb.heap.size = w.heap.size + 2 := by rw [hwb]; simp
  rw [← hwb] at hby hBA hbx2
  have HBX := Lib.hid (fun (V : World) (h : Below wb.heap.size wb V) => hbx2.below h (by omega))
  have HBY := Lib.hid (fun (V : World) (h : Below wb.heap.size wb V) => hby.below h (by omega))
  have HW := Lib.hid (fun (V : World) (h : Below wb.heap.size wb V) => hBA.trans (h.mono hBA.size))
  clear hbx hby hz1 hBA hbx2 hz2
  simp only [Tv.val] at *
  go_enter Try.func5, Try.ntmps5
  go_wp2_with fail
  rw [← hwb]
  clear hwb
  refine (AW1.out _).mono ?_; rintro e w1 ⟨rfl, hb1⟩
  obtain ⟨p0, p1, p2, p3, _, _, _, _⟩ := HBX.out w1 hb1
  go_wp2_with fail
  refine (FX.out _ (HW.out _ hb1)).mono ?_; rintro e w2 ⟨rfl, hb2⟩
  replace hb2 := below_next hb1 hb2
  clear hb1 p0 p1 p2 p3
  cases hf : fitsB xt with
  | false =>
    have HE := Lib.hid (HW.out _ hb2)
    clear hb2
    go_wp2_with fail
    go_ret
    exact ⟨rfl, HE.out⟩
  | true =>
  obtain ⟨q0, q1, q2, q3, _, _, _, _⟩ := HBY.out w2 hb2
  go_wp2_with fail
  refine (FY.out _ (HW.out _ hb2)).mono ?_; rintro e w3 ⟨rfl, hb3⟩
  replace hb3 := below_next hb2 hb3
  clear hb2 q0 q1 q2 q3
  cases hg : fitsB yt with
  | false =>
    have HE := Lib.hid (HW.out _ hb3)
    clear hb3
    go_wp2_with fail
    go_ret
    exact ⟨rfl, HE.out⟩
  | true =>
  go_wp2_with fail
  refine (FS.out _ (HW.out _ hb3)).mono ?_; rintro e w4 ⟨rfl, hb4⟩
  replace hb4 := below_next hb3 hb4
  clear hb3
  cases hs : bindsB s with
  | false =>
    have HE := Lib.hid (HW.out _ hb4)
    clear hb4
    go_wp2_with fail
    go_ret
    exact ⟨rfl, HE.out⟩
  | true =>
  have H4 := Lib.hid hb4
  have G2 := Lib.hid (GN.out hf hg hs)
  have U2 := Lib.hid (U1.out hf hg)
  have R1 := Lib.hid (RA.out ⟨xt, xa, xc⟩ (PX.out hf) HX0.out)
  have R2 := Lib.hid (RA.out ⟨yt, ya, yc⟩ (PY.out hg) HY0.out)
  have PX2 := Lib.hid (PX.out hf)
  have HBS := Lib.hid hs
  have HS6 := Lib.hid (show s.length ≤ 6 from (binds_of hs).1)
  clear hb4 hf hg hs U1 GN PX PY RA FX FY FS AW1 HX0 HY0
  have KEEP := Lib.hid (fun (W : World) (h : Below wb.heap.size wb W) => (show Below wb.heap.size wb W ∧ (W.cell? ⟨w.heap.size, 0, none⟩ = some (.int .i64 xt.kind) ∧ W.cell? ⟨w.heap.size, 1, none⟩ = some (.string xt.name) ∧ W.cell? ⟨w.heap.size, 2, none⟩ = some (.int .i64 xt.n) ∧ W.cell? ⟨w.heap.size, 3, none⟩ = some (.slice xa xt.args.length xc)) ∧ (W.cell? ⟨w.heap.size + 1, 0, none⟩ = some (.int .i64 yt.kind) ∧ W.cell? ⟨w.heap.size + 1, 1, none⟩ = some (.string yt.name) ∧ W.cell? ⟨w.heap.size + 1, 2, none⟩ = some (.int .i64 yt.n) ∧ W.cell? ⟨w.heap.size + 1, 3, none⟩ = some (.slice ya yt.args.length yc)) from by
    have b1 := HBX.out W h
    have b2 := HBY.out W h
    exact ⟨h, ⟨b1.c0, b1.c1, b1.c2, b1.c3⟩, ⟨b2.c0, b2.c1, b2.c2, b2.c3⟩⟩))
  have D4 := Lib.hid (H4.out.drew)
  have h0d := D4.out
  obtain ⟨_, ⟨p0, p1, p2, p3⟩, ⟨q0, q1, q2, q3⟩⟩ := KEEP.out w4 H4.out
  go_wp2_with fail
  go_region_held3 (fun W => Below wb.heap.size wb W ∧ (W.cell? ⟨w.heap.size, 0, none⟩ = some (.int .i64 xt.kind) ∧ W.cell? ⟨w.heap.size, 1, none⟩ = some (.string xt.name) ∧ W.cell? ⟨w.heap.size, 2, none⟩ = some (.int .i64 xt.n) ∧ W.cell? ⟨w.heap.size, 3, none⟩ = some (.slice xa xt.args.length xc)) ∧ (W.cell? ⟨w.heap.size + 1, 0, none⟩ = some (.int .i64 yt.kind) ∧ W.cell? ⟨w.heap.size + 1, 1, none⟩ = some (.string yt.name) ∧ W.cell? ⟨w.heap.size + 1, 2, none⟩ = some (.int .i64 yt.n) ∧ W.cell? ⟨w.heap.size + 1, 3, none⟩ = some (.slice ya yt.args.length yc))) (first | exact KEEP.out _ (by with_reducible assumption) | exact KEEP.out _ D4.out)
    ((first
      | (go_at_call 15; refine (SM.out ⟨tz, az, cz⟩ ⟨tq, aq, cq⟩ w6 (Tv.ok.below hzo hb6) hqo).mono ?_; rintro e w7 ⟨rfl, hb7⟩; have hn7 := below_next hn6 hb7)
      | (go_at_call 17; refine (R2.out w5 (HW.out _ hn5)).mono ?_; rintro e w6 ⟨tq, aq, cq, rfl, hqt, hqo, hb6⟩; have hn6 := below_next hn5 hb6; have HQT := Lib.hid hqt; clear hqt)
      | (go_at_call 17; refine (R1.out _ (HW.out _ D4.out)).mono ?_; rintro e w5 ⟨tz, az, cz, rfl, hzt, hzo, hb5⟩; have hn5 := below_next D4.out hb5; have HZT := Lib.hid hzt; clear hzt)))
  have H7 := Lib.hid hn7
  clear hn5 hn6 hn7 hb5 hb6 hb7 hzo hqo p0 p1 p2 p3 q0 q1 q2 q3 h0d D4
  obtain ⟨eb, heb⟩ : ∃ eb, eqT tz tq = eb := ⟨_, rfl⟩
  have HEB := Lib.hid heb
  simp only [heb]
  clear heb
  cases eb with
  | false =>
    have HE := Lib.hid (HW.out _ H7.out)
    go_wp2_with fail
    go_ret
    exact ⟨rfl, HE.out⟩
  | true =>
  obtain ⟨m, hm, hl80, hpl, hgen, hthen⟩ := G2.out (by
    have := eqT_iff.1 HEB.out
    rw [HZT.out, HQT.out] at this
    exact this)
  have U3 := Lib.hid (U2.out m hm)
  have HR := Lib.hid (ofB_rise (ofB_rising (solveL m)))
  obtain ⟨l, hl⟩ : ∃ l, ofB (solveL m) = l := ⟨_, rfl⟩
  rw [hl] at hl80 hpl hgen hthen U3 HR
  have HL80 := Lib.hid hl80
  have HPL := Lib.hid hpl
  have HGEN := Lib.hid hgen
  have HTHEN := Lib.hid hthen
  clear G2 U2 hm hl80 hpl hgen hthen hl HEB HZT HQT
  obtain ⟨_, ⟨p0, p1, p2, p3⟩, ⟨q0, q1, q2, q3⟩⟩ := KEEP.out w7 H7.out
  go_wp2_with fail
  refine (U3.out _ (HW.out _ H7.out)).mono ?_; rintro e w8 ⟨a8, c8, rfl, hu8, hb8⟩
  have H8 := Lib.hid (below_next H7.out hb8)
  have HU8 := Lib.hid hu8
  clear hu8 hb8 p0 p1 p2 p3 q0 q1 q2 q3
  go_wp2_with fail
  refine (GE.out l _ w8 HU8.out HL80.out HBS.out HPL.out HR.out HGEN.out (HW.out _ H8.out)).mono ?_; rintro e w9 ⟨rfl, hb9⟩
  have H9 := Lib.hid (below_next H8.out hb9)
  have HU9 := Lib.hid (HU8.out.below hb9)
  clear hb9
  go_wp2_with fail
  refine (TH.out l _ w9 HU9.out HL80.out HS6.out HPL.out (HW.out _ H9.out)).mono ?_; rintro e w10 ⟨a10, c10, rfl, hu10, hb10⟩
  have H10 := Lib.hid (below_next H9.out hb10)
  have HU10 := Lib.hid hu10
  have HTL := Lib.hid (TL.out l HL80.out HS6.out)
  clear hu10 hb10
  have D10 := Lib.hid (H10.out.drew)
  have HU10D := Lib.hid (HU10.out.below (show Below w10.heap.size w10 w10.drew from (Below.refl _ _).drew))
  have h0d := D10.out
  obtain ⟨_, ⟨p0, p1, p2, p3⟩, ⟨q0, q1, q2, q3⟩⟩ := KEEP.out w10 H10.out
  go_wp2_with fail
  go_region_held3 (fun W => Below wb.heap.size wb W ∧ (W.cell? ⟨w.heap.size, 0, none⟩ = some (.int .i64 xt.kind) ∧ W.cell? ⟨w.heap.size, 1, none⟩ = some (.string xt.name) ∧ W.cell? ⟨w.heap.size, 2, none⟩ = some (.int .i64 xt.n) ∧ W.cell? ⟨w.heap.size, 3, none⟩ = some (.slice xa xt.args.length xc)) ∧ (W.cell? ⟨w.heap.size + 1, 0, none⟩ = some (.int .i64 yt.kind) ∧ W.cell? ⟨w.heap.size + 1, 1, none⟩ = some (.string yt.name) ∧ W.cell? ⟨w.heap.size + 1, 2, none⟩ = some (.int .i64 yt.n) ∧ W.cell? ⟨w.heap.size + 1, 3, none⟩ = some (.slice ya yt.args.length yc))) (first | exact KEEP.out _ (by with_reducible assumption) | exact KEEP.out _ D10.out)
    ((first
      | (go_at_call 15; refine (SM.out ⟨ty, ay, cy⟩ ⟨tr, ar, cr⟩ w12 (Tv.ok.below hyo hb12) hro).mono ?_; rintro e w13 ⟨rfl, hb13⟩; have hn13 := below_next hn12 hb13)
      | (go_at_call 17; refine (R1.out w11 (HW.out _ hn11)).mono ?_; rintro e w12 ⟨tr, ar, cr, rfl, hrt, hro, hb12⟩; have hn12 := below_next hn11 hb12; have HRT := Lib.hid hrt; clear hrt)
      | (go_at_call 14; refine (AP.out (thenB l s) _ ⟨xt, xa, xc⟩ _ HU10D.out HTL.out (HXO.out _ (HW.out _ D10.out)) PX2.out).mono ?_; rintro e w11 ⟨ty, ay, cy, rfl, hyt, hyo, hb11⟩; have hn11 := below_next D10.out hb11; have HYT := Lib.hid hyt; clear hyt)))
  have HE := Lib.hid (HW.out _ hn13)
  have HQ := Lib.hid (show eqT ty tr = true from eqT_iff.2 (by rw [HYT.out, HRT.out]; exact HTHEN.out))
  clear hn11 hn12 hn13 hb11 hb12 hb13 hyo hro p0 p1 p2 p3 q0 q1 q2 q3 h0d
  try simp only [HQ.out]
  go_wp2_with fail
  go_ret
  exact ⟨rfl, HE.out⟩
end Go.Proofs.Ytedljdcliilggaa
