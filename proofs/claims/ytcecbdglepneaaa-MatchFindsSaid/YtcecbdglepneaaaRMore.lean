/-
  Binds with which a pattern is a term, by the reference of layer 6: More.
-/
import Derived.Test.YtcecbdglepneaaaRMat
import Derived.Test.YtcecbdglepneaaaSameTm
namespace Go.Proofs.Ytcecbdglepneaaa
open Go.RowKit

theorem headB_no {p t : Tm} (h : ¬ (p.kind = t.kind ∧ p.n = t.n ∧ p.name = t.name)) : headB p t = false := by
  cases e : headB p t with
  | false => rfl
  | true => exact absurd (headB_iff.1 e) h

set_option maxRecDepth 100000 in
set_option maxHeartbeats 4000000 in
theorem rmore_tm (m : Nat) : ∀ (x y : Tv) (v : Value) (l : List Bn) (w : World), x.t.parts ≤ m → x.ok w → y.ok w → Bds w v l → l.length + x.t.parts ≤ 50000 →
    Calls Try.prog 11 #[v, x.val, y.val] w (MorePost (moreT x.t y.t l) w) := by
  induction m with
  | zero => intro x y v l w h; have := parts_pos x.t; omega
  | succ m ih =>
    intro x y v l w hm hx hy hv hl
    obtain ⟨xt, xa, xc⟩ := x
    obtain ⟨yt, ya, yc⟩ := y
    simp only at hm hl
    have bX := (box_new w (.int .i64 xt.kind) (.string xt.name) (.int .i64 xt.n) (.slice xa xt.args.length xc) 25).below ((Below.refl _ _).alloc (Nat.le_refl _) (.cells #[.int .i64 yt.kind, .string yt.name, .int .i64 yt.n, .slice ya yt.args.length yc] 25)) (by simp)
    have bY := alloc_two w (.cells #[.int .i64 xt.kind, .string xt.name, .int .i64 xt.n, .slice xa xt.args.length xc] 25) (.int .i64 yt.kind) (.string yt.name) (.int .i64 yt.n) (.slice ya yt.args.length yc) 25
    have hB2 := below_two w (.cells #[.int .i64 xt.kind, .string xt.name, .int .i64 xt.n, .slice xa xt.args.length xc] 25) (.cells #[.int .i64 yt.kind, .string yt.name, .int .i64 yt.n, .slice ya yt.args.length yc] 25)
    obtain ⟨wz, hwz⟩ : ∃ wz, wz = ((w.alloc (.cells #[.int .i64 xt.kind, .string xt.name, .int .i64 xt.n, .slice xa xt.args.length xc] 25)).alloc (.cells #[.int .i64 yt.kind, .string yt.name, .int .i64 yt.n, .slice ya yt.args.length yc] 25)) := ⟨_, rfl⟩
    have hzs : wz.heap.size = w.heap.size + 2 := by rw [hwz]; simp
    rw [← hwz] at bX bY hB2
    have HBX := Lib.hid (fun (V : World) (h : Below wz.heap.size wz V) => bX.below h (by omega))
    have HBY := Lib.hid (fun (V : World) (h : Below wz.heap.size wz V) => bY.below h (by omega))
    have HBZ := Lib.hid hB2
    have HX := Lib.hid hx
    have HY := Lib.hid (fun (V : World) (h : Below wz.heap.size wz V) => hy.below (below_next hB2 h))
    have HAX := Lib.hid (fun (V : World) (h : Below wz.heap.size wz V) => (show Tms V (.slice xa xt.args.length xc) xt.args from ⟨xa, xc, rfl, (hx.below (below_next hB2 h)).2⟩))
    have HAY := Lib.hid (fun (V : World) (h : Below wz.heap.size wz V) => (show Tms V (.slice ya yt.args.length yc) yt.args from ⟨ya, yc, rfl, (hy.below (below_next hB2 h)).2⟩))
    have HIH := Lib.hid ih
    have HPA := Lib.hid (fun (p : Tm) (hp : p ∈ xt.args) => (show p.parts ≤ m from by
      obtain ⟨j, hj, rfl⟩ := List.getElem_of_mem hp
      have := parts_arg xt hj
      omega))
    have HPP := Lib.hid (parts_eq xt)
    have HOL := Lib.hid (ofB_length l)
    have OF := Lib.hid (rof_any v l w wz hv hB2 (by omega))
    have SA := Lib.hid (fun (y z : Tv) (W : World) (h1 : y.ok W) (h2 : z.ok W) => same_tm y.t.parts y z W (Nat.le_refl _) h1 h2)
    have HME := Lib.hid (moreT_eq xt yt l)
    have HL := Lib.hid hl
    obtain ⟨av, cv, rfl, _, _⟩ := hv
    obtain ⟨p0, p1, p2, p3, _, _, _, _⟩ := bX
    obtain ⟨q0, q1, q2, q3, _, _, _, _⟩ := bY
    clear hx hy hB2 hzs ih hm hl
    simp only [Tv.val]
    go_enter Try.func11, Try.ntmps11
    go_wp2_with fail
    rw [← hwz]
    clear hwz p0 p1 p2 p3 q0 q1 q2 q3
    refine OF.out.mono ?_; rintro e w1 ⟨u1, rfl, hu1, hb1⟩
    have hbd := hu1.bds (below_next HBZ.out hb1) (by have := HOL.out; have := HL.out; omega)
    have HBD := Lib.hid hbd
    have HB1 := Lib.hid hb1
    obtain ⟨a1, c1, rfl, _, _⟩ := hbd
    clear hu1 hb1 OF
    obtain ⟨p0, p1, p2, p3, _, _, _, _⟩ := HBX.out w1 HB1.out
    obtain ⟨q0, q1, q2, q3, _, _, _, _⟩ := HBY.out w1 HB1.out
    by_cases hk : xt.kind = 1
    · have hkd : (xt.kind == 1) = true := by rw [hk]; rfl
      have hE := HME.out
      rw [if_pos hk] at hE
      clear hk
      have G := rget_any (.slice a1 (ofB l).length c1) (ofB l) xt.name w1 w1 HBD.out (Below.refl _ _)
      rw [ofB_get] at G
      obtain ⟨og, hog⟩ : ∃ og, getB l xt.name = og := ⟨_, rfl⟩
      rw [hog] at G hE
      have HG := Lib.hid G
      have HE := Lib.hid hE
      clear G hE hog
      cases og with
      | none =>
        go_wp2_with fail
        clear p0 p1 p2 p3 q0 q1 q2 q3
        refine HG.out.mono ?_; rintro e w2 ⟨⟨zt, za, zc⟩, rfl, hzt, hzo, hb2⟩
        have hb3 := below_next HB1.out (hb2.alloc hb2.size (.cells #[.int .i64 zt.kind, .string zt.name, .int .i64 zt.n, .slice za zt.args.length zc] 25))
        have hbz := box_new w2 (.int .i64 zt.kind) (.string zt.name) (.int .i64 zt.n) (.slice za zt.args.length zc) 25
        have hz3 : (w2.alloc (.cells #[.int .i64 zt.kind, .string zt.name, .int .i64 zt.n, .slice za zt.args.length zc] 25)).heap.size = w2.heap.size + 1 := by simp
        have hb13 := hb2.alloc hb2.size (.cells #[.int .i64 zt.kind, .string zt.name, .int .i64 zt.n, .slice za zt.args.length zc] 25)
        obtain ⟨w3, hw3⟩ : ∃ w3, w3 = w2.alloc (.cells #[.int .i64 zt.kind, .string zt.name, .int .i64 zt.n, .slice za zt.args.length zc] 25) := ⟨_, rfl⟩
        rw [← hw3] at hb3 hbz hz3 hb13
        have HB3 := Lib.hid hb3
        have HB13 := Lib.hid hb13
        have HZO := Lib.hid (hzo.below hb13)
        have HZT := Lib.hid hzt
        obtain ⟨p0, p1, p2, p3, _, _, _, _⟩ := HBX.out w3 HB3.out
        obtain ⟨q0, q1, q2, q3, _, _, _, _⟩ := HBY.out w3 HB3.out
        obtain ⟨r0, r1, r2, r3, _, _, _, _⟩ := hbz
        have HW3 := Lib.hid hw3
        rw [hw3] at p0 p1 p2 p3 q0 q1 q2 q3 r0 r1 r2 r3
        clear hb2 hb3 hb13 hz3 hw3 hzo hzt
        simp only [Tv.val]
        go_wp2_with fail
        rw [← HW3.out]
        clear p0 p1 p2 p3 q0 q1 q2 q3 r0 r1 r2 r3 HW3
        refine (rwith_any (.slice a1 (ofB l).length c1) (ofB l) xt.name ⟨yt, ya, yc⟩ w3 w3 (HBD.out.below HB13.out) (HY.out _ HB3.out) HX.out.1.len (Below.refl _ _) (by have := HOL.out; have := HL.out; omega)).mono ?_
        rintro e w4 ⟨u4, rfl, hu4, hb4⟩
        have HU := Lib.hid (show Bds w4 u4 (ofB ((xt.name, yt) :: l)) from by
          rw [show ofB ((xt.name, yt) :: l) = ofB ((xt.name, yt) :: ofB l) from ofB_congr fun s => by
            by_cases h : xt.name = s
            · rw [getB_hit _ _ h, getB_hit _ _ h]
            · rw [getB_miss _ _ h, getB_miss _ _ h, ofB_get]]
          exact hu4)
        have HB4 := Lib.hid (below_next HBZ.out (below_next HB3.out hb4))
        obtain ⟨a4, c4, rfl, _, _⟩ := hu4
        clear hb4
        go_wp2_with fail
        go_ret2
        rw [HE.out]
        exact ⟨_, rfl, HU.out, HB4.out⟩
      | some u =>
        obtain ⟨bb, hbb⟩ : ∃ bb, eqT u yt = bb := ⟨_, rfl⟩
        have hE2 := HE.out
        simp only [hbb] at hE2
        have HE2 := Lib.hid hE2
        clear hE2
        go_wp2_with fail
        clear p0 p1 p2 p3 q0 q1 q2 q3
        refine HG.out.mono ?_; rintro e w2 ⟨⟨zt, za, zc⟩, rfl, hzt, hzo, hb2⟩
        have hb3 := below_next HB1.out (hb2.alloc hb2.size (.cells #[.int .i64 zt.kind, .string zt.name, .int .i64 zt.n, .slice za zt.args.length zc] 25))
        have hbz := box_new w2 (.int .i64 zt.kind) (.string zt.name) (.int .i64 zt.n) (.slice za zt.args.length zc) 25
        have hz3 : (w2.alloc (.cells #[.int .i64 zt.kind, .string zt.name, .int .i64 zt.n, .slice za zt.args.length zc] 25)).heap.size = w2.heap.size + 1 := by simp
        have hb13 := hb2.alloc hb2.size (.cells #[.int .i64 zt.kind, .string zt.name, .int .i64 zt.n, .slice za zt.args.length zc] 25)
        obtain ⟨w3, hw3⟩ : ∃ w3, w3 = w2.alloc (.cells #[.int .i64 zt.kind, .string zt.name, .int .i64 zt.n, .slice za zt.args.length zc] 25) := ⟨_, rfl⟩
        rw [← hw3] at hb3 hbz hz3 hb13
        have HB3 := Lib.hid hb3
        have HB13 := Lib.hid hb13
        have HZO := Lib.hid (hzo.below hb13)
        have HZT := Lib.hid hzt
        obtain ⟨p0, p1, p2, p3, _, _, _, _⟩ := HBX.out w3 HB3.out
        obtain ⟨q0, q1, q2, q3, _, _, _, _⟩ := HBY.out w3 HB3.out
        obtain ⟨r0, r1, r2, r3, _, _, _, _⟩ := hbz
        have HW3 := Lib.hid hw3
        rw [hw3] at p0 p1 p2 p3 q0 q1 q2 q3 r0 r1 r2 r3
        clear hb2 hb3 hb13 hz3 hw3 hzo hzt
        simp only [Tv.val]
        have S := SA.out ⟨zt, za, zc⟩ ⟨yt, ya, yc⟩ w3 HZO.out (HY.out _ HB3.out)
        rw [show eqT (⟨zt, za, zc⟩ : Tv).t (⟨yt, ya, yc⟩ : Tv).t = bb from by rw [← hbb]; show eqT zt yt = eqT u yt; rw [show zt = u from HZT.out]] at S
        have HS := Lib.hid S
        clear S hbb
        cases bb with
        | false =>
          go_wp2_with fail
          rw [← HW3.out]
          clear p0 p1 p2 p3 q0 q1 q2 q3 r0 r1 r2 r3 HW3
          refine HS.out.mono ?_; rintro e w4 ⟨rfl, hb4⟩
          have HB4 := Lib.hid (below_next HBZ.out (below_next HB3.out hb4))
          clear hb4
          go_wp2_with fail
          go_ret2
          rw [HE2.out]
          exact ⟨_, rfl, Bds.none_ _ _ _, HB4.out⟩
        | true =>
          go_wp2_with fail
          rw [← HW3.out]
          clear p0 p1 p2 p3 q0 q1 q2 q3 r0 r1 r2 r3 HW3
          refine HS.out.mono ?_; rintro e w4 ⟨rfl, hb4⟩
          have HB4 := Lib.hid (below_next HBZ.out (below_next HB3.out hb4))
          have HU := Lib.hid (HBD.out.below (below_next HB13.out hb4))
          clear hb4
          go_wp2_with fail
          go_ret2
          rw [HE2.out]
          exact ⟨_, rfl, HU.out, HB4.out⟩
    · have hkd : (xt.kind == 1) = false := by rw [beq_eq_false_iff_ne]; exact hk
      have HK := Lib.hid hk
      clear hk
      by_cases h1 : xt.kind = yt.kind
      case neg =>
        have H1 := Lib.hid h1
        have e1 : (xt.kind != yt.kind) = true := by rw [bne_iff_ne]; exact h1
        have e2 : (xt.kind == yt.kind) = false := by rw [beq_eq_false_iff_ne]; exact h1
        have HF := Lib.hid (show moreT xt yt l = none by rw [HME.out, if_neg HK.out, headB_no (fun h => H1.out h.1)]; rfl)
        go_wp2_with fail
        go_ret2
        rw [HF.out]
        exact ⟨_, rfl, Bds.none_ _ _ _, below_next HBZ.out HB1.out⟩
      have H1 := Lib.hid h1
      have e1 : (xt.kind != yt.kind) = false := by rw [h1]; simp
      have e2 : (xt.kind == yt.kind) = true := by rw [h1]; simp
      clear h1
      by_cases h2 : xt.n = yt.n
      case neg =>
        have H2 := Lib.hid h2
        have e3 : (xt.n != yt.n) = true := by rw [bne_iff_ne]; exact h2
        have e4 : (xt.n == yt.n) = false := by rw [beq_eq_false_iff_ne]; exact h2
        have HF := Lib.hid (show moreT xt yt l = none by rw [HME.out, if_neg HK.out, headB_no (fun h => H2.out h.2.1)]; rfl)
        go_wp2_with fail
        go_ret2
        rw [HF.out]
        exact ⟨_, rfl, Bds.none_ _ _ _, below_next HBZ.out HB1.out⟩
      have H2 := Lib.hid h2
      have e3 : (xt.n != yt.n) = false := by rw [h2]; simp
      have e4 : (xt.n == yt.n) = true := by rw [h2]; simp
      clear h2
      cases h3 : (xt.name.toList == yt.name.toList) with
      | false =>
        have H3 := Lib.hid h3
        have HF := Lib.hid (show moreT xt yt l = none by rw [HME.out, if_neg HK.out, headB_no (fun h => by have := H3.out; rw [h.2.2] at this; simp at this)]; rfl)
        go_wp2_with fail
        go_ret2
        rw [HF.out]
        exact ⟨_, rfl, Bds.none_ _ _ _, below_next HBZ.out HB1.out⟩
      | true =>
        have HF := Lib.hid (show moreT xt yt l = moreL xt.args yt.args (ofB l) by rw [HME.out, if_neg HK.out, if_pos (headB_iff.2 ⟨H1.out, H2.out, beq_name.1 h3⟩)])
        have AL := Lib.hid (rall_of m HIH.out (.slice xa xt.args.length xc) (.slice ya yt.args.length yc) (.slice a1 (ofB l).length c1) xt.args yt.args (ofB l) w1 HPA.out (HAX.out _ HB1.out) (HAY.out _ HB1.out) HBD.out (by have := HOL.out; have := HL.out; have := HPP.out; omega))
        obtain ⟨om, hom⟩ : ∃ om, moreL xt.args yt.args (ofB l) = om := ⟨_, rfl⟩
        rw [hom] at AL HF
        clear hom
        go_wp2_with fail
        refine AL.out.mono ?_; rintro e w2 ⟨u2, rfl, hu2, hb2⟩
        have HB2 := Lib.hid (below_next HBZ.out (below_next HB1.out hb2))
        have HU := Lib.hid hu2
        obtain ⟨a2, c2, rfl, _, _⟩ := hu2
        clear hb2 p0 p1 p2 p3 q0 q1 q2 q3
        go_wp2_with fail
        go_ret2
        rw [HF.out]
        exact ⟨_, rfl, HU.out, HB2.out⟩
end Go.Proofs.Ytcecbdglepneaaa
