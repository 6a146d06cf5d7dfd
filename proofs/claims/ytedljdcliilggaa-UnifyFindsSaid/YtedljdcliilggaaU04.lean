/-
  Binds put into a term, by the reference of layer 5: Apply.
  The order of terms, as data: cmpT. No function of the program.
  The order of terms is one: turned about it is turned, it goes on over a third, and only the same stand alike. No function of the program.
  Slices that read as lists of texts. Nothing of the program's functions.
-/
import Derived.Test.YtedljdcliilggaaU03
import Derived.Maps.AppendAt
import Derived.Deep.AppendLies
import Derived.Test.YtedljdcliilggaaU01
namespace Go.Proofs.Ytedljdcliilggaa
open Go.RowKit

set_option maxRecDepth 100000 in
set_option maxHeartbeats 4000000 in
theorem rapply_ok (bs : List Bn) (v : Value) (w0 wv : World) (hv : BdsOk w0 wv v bs) (h0v : Reads w0 wv) (m : Nat) : ∀ (x : Tv) (w : World), x.t.parts ≤ m → m ≤ 2300000000000 → x.ok w0 → Below wv.heap.size wv w →
    Calls Try.prog 17 #[v, x.val] w (ApPost (appT bs x.t) w0 w) := by
  induction m with
  | zero => intro x w h; have := parts_pos x.t; omega
  | succ m ih =>
    intro x w hm hm1 hx hbv
    have hb0 : Reads w0 w := h0v.trans (reads_below hbv)
    have HBV := Lib.hid hbv
    have GT := Lib.hid (fun (s : ByteArray) (W : World) (h : Below w.heap.size w W) => rget_ok v bs s w0 wv W hv (hbv.trans (h.mono hbv.size)))
    obtain ⟨t, ax, cx⟩ := x
    have hE := appT_eq bs t
    have hz1 : (w.alloc (.cells #[.int .i64 t.kind, .string t.name, .int .i64 t.n, .slice ax t.args.length cx] 24)).heap.size = w.heap.size + 1 := by simp
    have hB2 : Below w.heap.size w ((w.alloc (.cells #[.int .i64 t.kind, .string t.name, .int .i64 t.n, .slice ax t.args.length cx] 24)).alloc (.cells #[.int .i64 0, .string ⟨#[]⟩, .int .i64 0, .slice none 0 0] 24)) := ((Below.refl _ _).alloc (Nat.le_refl _) _).alloc (by rw [hz1]; omega) _
    obtain ⟨wz, hwz⟩ : ∃ wz, wz = ((w.alloc (.cells #[.int .i64 t.kind, .string t.name, .int .i64 t.n, .slice ax t.args.length cx] 24)).alloc (.cells #[.int .i64 0, .string ⟨#[]⟩, .int .i64 0, .slice none 0 0] 24)) := ⟨_, rfl⟩
    have hzs : wz.heap.size = w.heap.size + 2 := by rw [hwz]; simp
    have bX := (box_new w (.int .i64 t.kind) (.string t.name) (.int .i64 t.n) (.slice ax t.args.length cx) 24).below ((Below.refl _ _).alloc (Nat.le_refl _) (.cells #[.int .i64 0, .string ⟨#[]⟩, .int .i64 0, .slice none 0 0] 24)) (by rw [hz1]; omega)
    have bR := box_new (w.alloc (.cells #[.int .i64 t.kind, .string t.name, .int .i64 t.n, .slice ax t.args.length cx] 24)) (.int .i64 0) (.string ⟨#[]⟩) (.int .i64 0) (.slice none 0 0) 24
    rw [hz1] at bR
    rw [← hwz] at bX bR hB2
    have hargs : t.args.length ≤ 2300000000000 := by have := partsL_length t.args; have := parts_eq t; simp only at hm; omega
    have hpl : ∀ j (h : j < t.args.length), t.args[j].parts ≤ m := fun j h => by have := parts_arg t h; simp only at hm; omega
    obtain ⟨i0, hi0, hiz0, his0, hib0⟩ := info_parts termInfo
    have HX := Lib.hid hx
    have HB0 := Lib.hid hb0
    have HBX := Lib.hid (fun (V : World) (h : Below wz.heap.size wz V) => bX.below h (by omega))
    have HBR := Lib.hid (fun (V : World) (h : Below wz.heap.size wz V) => bR.below h (by omega))
    have HBZ := Lib.hid hB2
    have HZS := Lib.hid hzs
    have HWZ := Lib.hid hwz
    have HE := Lib.hid hE
    have IH := Lib.hid ih
    have HPL := Lib.hid hpl
    obtain ⟨av, cv, rfl, hlv, hrv⟩ := hv
    have E0 := Lib.hid (Below.refl wz.heap.size wz)
    obtain ⟨p0, p1, p2, p3, _, _, _, _⟩ := HBX.out wz E0.out
    clear bX bR hB2 hzs hx hb0 hbv hz1 hE ih hpl hrv h0v
    simp only [Tv.val] at *
    have HBL : Hid (Below wz.heap.size wz wz) := E0
    by_cases hk : t.kind = 1
    · have hkd : (t.kind == 1) = true := by rw [hk]; rfl
      have hE1 := HE.out
      rw [if_pos hk] at hE1
      have HK := Lib.hid hk
      clear hk
      obtain ⟨po, hpo⟩ : ∃ po, getB bs t.name = po := ⟨_, rfl⟩
      have G := GT.out t.name wz HBZ.out
      rw [hpo] at G hE1
      have HG := Lib.hid G
      have HE1 := Lib.hid hE1
      clear G hE1 hpo
      go_enter Try.func17, Try.ntmps17
      go_wp2_with fail
      rw [← hwz]
      clear hwz
      refine HG.out.mono ?_; rintro e w1 ⟨⟨ty, aY, cY⟩, he, hyt, hyo, hb1⟩
      obtain rfl := he
      have HYT := Lib.hid hyt
      have HYO := Lib.hid hyo
      have hb2 := hb1.alloc hb1.size (.cells #[.int .i64 ty.kind, .string ty.name, .int .i64 ty.n, .slice aY ty.args.length cY] 24)
      have HBL2 := Lib.hid hb2
      have hzw := HZS.out
      simp only [Tv.val]
      cases po with
      | some u =>
        have hbR := HBR.out _ hb2
        have BR8 := Lib.hid (hbR.sets (.int .i64 ty.kind) (.string ty.name) (.int .i64 ty.n) (.slice aY ty.args.length cY))
        obtain ⟨q0, q1, q2, q3, f0, f1, f2, f3⟩ := hbR
        have hwe : Below w.heap.size w (w1.alloc (.cells #[.int .i64 ty.kind, .string ty.name, .int .i64 ty.n, .slice aY ty.args.length cY] 24)) := HBZ.out.trans (hb2.mono HBZ.out.size)
        have HWE := Lib.hid hwe
        clear hyt hyo hb1 hb2 hwe p0 p1 p2 p3
        go_wp2_with fail
        obtain ⟨q0, q1, q2, q3, f0, f1, f2, f3⟩ := BR8.out
        refine bodyPost_ret (v := .agg #[.int .i64 ty.kind, .string ty.name, .int .i64 ty.n, .slice aY ty.args.length cY]) (by simp [results, Try.results17, go_sem, q0, q1, q2, q3]) rfl ?_
        exact ⟨⟨ty, aY, cY⟩, rfl, HYT.out.trans HE1.out.symm, fresh_old HYO.out, below_sets HWE.out (by omega) _ _ _ _⟩
      | none =>
        have HEE := Lib.hid (show appT bs t = .mk t.kind t.name t.n (t.args.map (appT bs)) from HE1.out)
        obtain ⟨p0, p1, p2, p3, _, _, _, _⟩ := HBX.out _ hb2
        clear hyt hyo hb1 hb2
        replace HBL := HBL2
        go_wp2_with fail
        go_loopw [7, 24] (fun o k wr => ∃ (q : Nat) (vs : List Tv), q ≤ t.args.length ∧ k = .int .i64 q ∧ Hid (vs.map Tv.t = (t.args.take q).map (appT bs)) ∧ vs.length = q ∧ Hid (∀ z ∈ vs, Beside w0 wz wr o z) ∧ Hid (wr.ownsRow wz.heap.size 24 4 o q (rowTv vs)) ∧ Hid (Below wz.heap.size wz wr)) (fun _ k _ => t.args.length - (intOf k).toNat)
        case atStart => exact ⟨0, [], Nat.zero_le _, rfl, Lib.hid (by simp), rfl, Lib.hid (fun _ h => nomatch h), Lib.hid (World.ownsRow_nil _ _ _ _), HBL⟩
        case round =>
          obtain ⟨q, vs, hq, rfl, HVT, hvl, HVB, HOWN, HBW⟩ := hrel
          have hbs := HBW.out.size
          have hB0w := HB0.out.trans (reads_below (HBZ.out.trans (HBW.out.mono HBZ.out.size)))
          by_cases hql : q < t.args.length
          · obtain ⟨b', o', rfl, hlt', hrow⟩ := HX.out.2.2.resolve_left (by intro h; simp only at h; rw [h] at hql; simp at hql)
            obtain ⟨y, hyt, hyo, hy⟩ := tmAt_tv (rowAt_get hrow hql)
            obtain ⟨m0, m1, m2, m3⟩ : TvAt wr b' (o' + q * 4) y := ⟨hB0w.cell _ _ hy.c0, hB0w.cell _ _ hy.c1, hB0w.cell _ _ hy.c2, hB0w.cell _ _ hy.c3⟩
            obtain ⟨zt, za, zc⟩ := y
            simp only at hyt hyo m0 m1 m2 m3
            have C := IH.out ⟨zt, za, zc⟩ wr (by simp only; rw [hyt]; exact HPL.out q hql) (by omega) hyo (HBV.out.trans ((HBZ.out.trans (HBW.out.mono HBZ.out.size)).mono HBV.out.size))
            have HC := Lib.hid C
            have HTS := Lib.hid (show (t.args.take (q + 1)).map (appT bs) = (t.args.take q).map (appT bs) ++ [appT bs zt] by rw [map_take_succ bs hql, hyt])
            obtain ⟨p0, p1, p2, p3, _, _, _, _⟩ := HBX.out wr HBW.out
            have hq0 : (0 : Int) ≤ (q : Int) := by omega
            have hq1 : (q : Int) < (t.args.length : Int) := by omega
            have hq5 : (q : Int) ≤ 2300000000000 := by omega
            have hmm : q + 1 ≤ maxLen := by unfold maxLen; omega
            have hmb : (q + 1) * 56 ≤ 140737488355328 := by omega
            have hol : ∀ g, u7.ownBlock = some g → g < wr.heap.size := fun g e => (HOWN.out.lt g e).2
            have HOL := Lib.hid hol
            clear hyt hyo hy hrow C hol
            go_wp2_with fail
            refine HC.out.mono ?_; rintro e w4 ⟨⟨ty, aY, cY⟩, rfl, hzt, hzf, hb4⟩
            have hbA := hb4.alloc hb4.size (.cells #[.int .i64 ty.kind, .string ty.name, .int .i64 ty.n, .slice aY ty.args.length cY] 24)
            have hownA := own_below HOWN.out hbA
            have hbB := beside_fresh (w := wz) hzf hbs HOL.out
            have HBB := Lib.hid hbB
            have HAA := Lib.hid hbA
            have HVT2 := Lib.hid (show (vs ++ [(⟨ty, aY, cY⟩ : Tv)]).map Tv.t = (t.args.take (q + 1)).map (appT bs) by rw [List.map_append, HVT.out, HTS.out]; exact congrArg (fun x => _ ++ [x]) hzt)
            have HN1 := Lib.hid (World.news_of_block (heap_alloc_new w4 (.cells #[.int .i64 ty.kind, .string ty.name, .int .i64 ty.n, .slice aY ty.args.length cY] 24)))
            have HO1 := Lib.hid (fun (x : Value) (hx : x ∈ [Value.int .i64 ty.kind, .string ty.name, .int .i64 ty.n, .slice aY ty.args.length cY]) => (show x.oneCell' = true from rowTv_one' [⟨ty, aY, cY⟩] x (by rw [rowTv_one]; exact hx)))
            have hsz : wz.heap.size ≤ (w4.alloc (.cells #[.int .i64 ty.kind, .string ty.name, .int .i64 ty.n, .slice aY ty.args.length cY] 24)).heap.size := by have h2 := hbA.size; omega
            clear hzt hzf hb4 hbA hbB m0 m1 m2 m3
            simp only [Tv.val]
            go_wp2_with (at_builtin; refine wpList_append_own_at _ rfl _ _ 22 rfl wz.heap.size 24 i0 (.agg #[.int .i64 0, .string ⟨#[]⟩, .int .i64 0, .slice none 0 0]) 4 56 Try.underlying22 hi0 hiz0 his0 hib0 rfl (by decide) _ q (rowTv vs) rfl hownA ⟨w4.heap.size, 0, none⟩ 1 1 [.int .i64 ty.kind, .string ty.name, .int .i64 ty.n, .slice aY ty.args.length cY] rfl rfl HN1.out HO1.out hmm hmb hsz ?_; intro v5 w5 hown5 hg5 _ hat5)
            go_roundw
            case rel =>
              have hb5 : Below wz.heap.size wz w5 := (HBW.out.trans (HAA.out.mono hbs)).grown hg5 hsz (fun y e => (hownA.lt y e).1)
              have hAB : Below w4.heap.size w4 (w4.alloc (.cells #[.int .i64 ty.kind, .string ty.name, .int .i64 ty.n, .slice aY ty.args.length cY] 24)) := (Below.refl _ _).alloc (Nat.le_refl _) _
              have hall : ∀ x ∈ vs ++ [(⟨ty, aY, cY⟩ : Tv)], Beside w0 wz w5 v5 x := fun x hx => by
                rcases List.mem_append.1 hx with hx | hx
                · exact ((HVB.out x hx).below HAA.out).grown hg5 hat5
                · rw [List.mem_singleton] at hx
                  subst hx
                  exact (HBB.out.below hAB).grown hg5 hat5
              have hrow : w5.ownsRow wz.heap.size 24 4 v5 (q + 1) (rowTv (vs ++ [(⟨ty, aY, cY⟩ : Tv)])) := by rw [rowTv_append, rowTv_one]; exact hown5
              first
                | exact ⟨v5, _, .int .i64 ((q : Int) + 1), ⟨q + 1, by omega, by go_num, vs ++ [(⟨ty, aY, cY⟩ : Tv)], Lib.hid HVT2.out, by rw [List.length_append, hvl]; rfl, Lib.hid hall, Lib.hid hrow, Lib.hid hb5⟩, rfl, rfl, rfl⟩
                | exact ⟨q + 1, vs ++ [(⟨ty, aY, cY⟩ : Tv)], by omega, by go_num, Lib.hid HVT2.out, by rw [List.length_append, hvl]; rfl, Lib.hid hall, Lib.hid hrow, Lib.hid hb5⟩
            case measure => simp [intOf]; omega
          · have hqe : q = t.args.length := by omega
            have hqd : decide ((q : Int) < (t.args.length : Int)) = false := decide_eq_false (by omega)
            have hql1 : t.args.length ≤ q := by omega
            have hvt : vs.map Tv.t = t.args.map (appT bs) := by
              have h := HVT.out
              rw [List.take_of_length_le hql1] at h
              exact h
            have hown := HOWN.out
            rw [hqe] at hown
            have hform : ∃ a7 c7, u7 = .slice a7 t.args.length c7 := by
              rcases hown.2 with ⟨h, h0⟩ | ⟨g', cap', cur, h, _⟩
              · exact ⟨none, 0, by rw [h, h0]⟩
              · exact ⟨_, cap', h⟩
            obtain ⟨a7, c7, rfl⟩ := hform
            have O := Lib.hid (fun W => of_any t.kind t.name t.n a7 t.args.length c7 W)
            have hzw := HZS.out
            have HOWNE := Lib.hid hown
            have HVTE := Lib.hid hvt
            obtain ⟨p0, p1, p2, p3, _, _, _, _⟩ := HBX.out wr HBW.out
            clear hqe hown hvt HVT HOWN
            go_wp2_with fail
            refine (O.out _).mono ?_; rintro e w5 ⟨rfl, hb5⟩
            have hbR := HBR.out w5 (below_next HBW.out hb5)
            have BR8 := Lib.hid (hbR.sets (.int .i64 t.kind) (.string t.name) (.int .i64 t.n) (.slice a7 t.args.length c7))
            obtain ⟨q0, q1, q2, q3, f0, f1, f2, f3⟩ := hbR
            have HB5 := Lib.hid hb5
            clear hb5 p0 p1 p2 p3
            go_wp2_with fail
            obtain ⟨q0, q1, q2, q3, f0, f1, f2, f3⟩ := BR8.out
            refine bodyPost_ret (v := .agg #[.int .i64 t.kind, .string t.name, .int .i64 t.n, .slice a7 t.args.length c7]) (by simp [results, Try.results17, go_sem, q0, q1, q2, q3]) rfl ?_
            have hbe := below_next HBW.out HB5.out
            have hwe : Below w.heap.size w w5 := HBZ.out.trans (hbe.mono HBZ.out.size)
            rw [HEE.out]
            refine ⟨⟨.mk t.kind t.name t.n (t.args.map (appT bs)), a7, c7⟩, by simp [Tv.val, Tm.kind, Tm.name, Tm.n, Tm.args], rfl, ?_, below_sets hwe (by omega) _ _ _ _⟩
            have hz8 : w.heap.size + 1 < wz.heap.size := by omega
            refine fresh_row (vs := vs) (n := t.args.length) ?_ (by rw [List.length_map]) HVTE.out HX.out.1 (by omega) (fun W hWb hWs hWa v hv => ?_)
            · have h5 := own_below HOWNE.out HB5.out
              have h8 := own_setCell (own_setCell (own_setCell (own_setCell h5 (p := ⟨w.heap.size + 1, 0, none⟩) hz8 (.int .i64 t.kind)) (p := ⟨w.heap.size + 1, 1, none⟩) hz8 (.string t.name)) (p := ⟨w.heap.size + 1, 2, none⟩) hz8 (.int .i64 t.n)) (p := ⟨w.heap.size + 1, 3, none⟩) hz8 (.slice a7 t.args.length c7)
              exact own_lower h8 HBZ.out.size
            · have hsz5 := HB5.out.size
              have hkk : ∀ k, k ≠ w.heap.size + 1 → ((((w5.setCell ⟨w.heap.size + 1, 0, none⟩ (.int .i64 t.kind)).setCell ⟨w.heap.size + 1, 1, none⟩ (.string t.name)).setCell ⟨w.heap.size + 1, 2, none⟩ (.int .i64 t.n)).setCell ⟨w.heap.size + 1, 3, none⟩ (.slice a7 t.args.length c7)).heap[k]? = w5.heap[k]? := fun k hkR => by
                rw [Below.heap_setCell _ _ _ _ hkR, Below.heap_setCell _ _ _ _ hkR, Below.heap_setCell _ _ _ _ hkR, Below.heap_setCell _ _ _ _ hkR]
              refine HVB.out v hv W hWb (by simp at hWs; omega) (fun k k1 k2 _ => ?_)
              rw [hWa k (by omega) (by simp; omega), hkk k (by omega)]
              exact HB5.out.block k k2

    · have hkd : (t.kind == 1) = false := by rw [beq_eq_false_iff_ne]; exact hk
      have HEE := Lib.hid (show appT bs t = .mk t.kind t.name t.n (t.args.map (appT bs)) by rw [HE.out, if_neg hk])
      clear hk
      go_enter Try.func17, Try.ntmps17
      go_wp2_with fail
      rw [← hwz]
      clear hwz
      go_loopw [7, 24] (fun o k wr => ∃ (q : Nat) (vs : List Tv), q ≤ t.args.length ∧ k = .int .i64 q ∧ Hid (vs.map Tv.t = (t.args.take q).map (appT bs)) ∧ vs.length = q ∧ Hid (∀ z ∈ vs, Beside w0 wz wr o z) ∧ Hid (wr.ownsRow wz.heap.size 24 4 o q (rowTv vs)) ∧ Hid (Below wz.heap.size wz wr)) (fun _ k _ => t.args.length - (intOf k).toNat)
      case atStart => exact ⟨0, [], Nat.zero_le _, rfl, Lib.hid (by simp), rfl, Lib.hid (fun _ h => nomatch h), Lib.hid (World.ownsRow_nil _ _ _ _), HBL⟩
      case round =>
        obtain ⟨q, vs, hq, rfl, HVT, hvl, HVB, HOWN, HBW⟩ := hrel
        have hbs := HBW.out.size
        have hB0w := HB0.out.trans (reads_below (HBZ.out.trans (HBW.out.mono HBZ.out.size)))
        by_cases hql : q < t.args.length
        · obtain ⟨b', o', rfl, hlt', hrow⟩ := HX.out.2.2.resolve_left (by intro h; simp only at h; rw [h] at hql; simp at hql)
          obtain ⟨y, hyt, hyo, hy⟩ := tmAt_tv (rowAt_get hrow hql)
          obtain ⟨m0, m1, m2, m3⟩ : TvAt wr b' (o' + q * 4) y := ⟨hB0w.cell _ _ hy.c0, hB0w.cell _ _ hy.c1, hB0w.cell _ _ hy.c2, hB0w.cell _ _ hy.c3⟩
          obtain ⟨zt, za, zc⟩ := y
          simp only at hyt hyo m0 m1 m2 m3
          have C := IH.out ⟨zt, za, zc⟩ wr (by simp only; rw [hyt]; exact HPL.out q hql) (by omega) hyo (HBV.out.trans ((HBZ.out.trans (HBW.out.mono HBZ.out.size)).mono HBV.out.size))
          have HC := Lib.hid C
          have HTS := Lib.hid (show (t.args.take (q + 1)).map (appT bs) = (t.args.take q).map (appT bs) ++ [appT bs zt] by rw [map_take_succ bs hql, hyt])
          obtain ⟨p0, p1, p2, p3, _, _, _, _⟩ := HBX.out wr HBW.out
          have hq0 : (0 : Int) ≤ (q : Int) := by omega
          have hq1 : (q : Int) < (t.args.length : Int) := by omega
          have hq5 : (q : Int) ≤ 2300000000000 := by omega
          have hmm : q + 1 ≤ maxLen := by unfold maxLen; omega
          have hmb : (q + 1) * 56 ≤ 140737488355328 := by omega
          have hol : ∀ g, u7.ownBlock = some g → g < wr.heap.size := fun g e => (HOWN.out.lt g e).2
          have HOL := Lib.hid hol
          clear hyt hyo hy hrow C hol
          go_wp2_with fail
          refine HC.out.mono ?_; rintro e w4 ⟨⟨ty, aY, cY⟩, rfl, hzt, hzf, hb4⟩
          have hbA := hb4.alloc hb4.size (.cells #[.int .i64 ty.kind, .string ty.name, .int .i64 ty.n, .slice aY ty.args.length cY] 24)
          have hownA := own_below HOWN.out hbA
          have hbB := beside_fresh (w := wz) hzf hbs HOL.out
          have HBB := Lib.hid hbB
          have HAA := Lib.hid hbA
          have HVT2 := Lib.hid (show (vs ++ [(⟨ty, aY, cY⟩ : Tv)]).map Tv.t = (t.args.take (q + 1)).map (appT bs) by rw [List.map_append, HVT.out, HTS.out]; exact congrArg (fun x => _ ++ [x]) hzt)
          have HN1 := Lib.hid (World.news_of_block (heap_alloc_new w4 (.cells #[.int .i64 ty.kind, .string ty.name, .int .i64 ty.n, .slice aY ty.args.length cY] 24)))
          have HO1 := Lib.hid (fun (x : Value) (hx : x ∈ [Value.int .i64 ty.kind, .string ty.name, .int .i64 ty.n, .slice aY ty.args.length cY]) => (show x.oneCell' = true from rowTv_one' [⟨ty, aY, cY⟩] x (by rw [rowTv_one]; exact hx)))
          have hsz : wz.heap.size ≤ (w4.alloc (.cells #[.int .i64 ty.kind, .string ty.name, .int .i64 ty.n, .slice aY ty.args.length cY] 24)).heap.size := by have h2 := hbA.size; omega
          clear hzt hzf hb4 hbA hbB m0 m1 m2 m3
          simp only [Tv.val]
          go_wp2_with (at_builtin; refine wpList_append_own_at _ rfl _ _ 22 rfl wz.heap.size 24 i0 (.agg #[.int .i64 0, .string ⟨#[]⟩, .int .i64 0, .slice none 0 0]) 4 56 Try.underlying22 hi0 hiz0 his0 hib0 rfl (by decide) _ q (rowTv vs) rfl hownA ⟨w4.heap.size, 0, none⟩ 1 1 [.int .i64 ty.kind, .string ty.name, .int .i64 ty.n, .slice aY ty.args.length cY] rfl rfl HN1.out HO1.out hmm hmb hsz ?_; intro v5 w5 hown5 hg5 _ hat5)
          go_roundw
          case rel =>
            have hb5 : Below wz.heap.size wz w5 := (HBW.out.trans (HAA.out.mono hbs)).grown hg5 hsz (fun y e => (hownA.lt y e).1)
            have hAB : Below w4.heap.size w4 (w4.alloc (.cells #[.int .i64 ty.kind, .string ty.name, .int .i64 ty.n, .slice aY ty.args.length cY] 24)) := (Below.refl _ _).alloc (Nat.le_refl _) _
            have hall : ∀ x ∈ vs ++ [(⟨ty, aY, cY⟩ : Tv)], Beside w0 wz w5 v5 x := fun x hx => by
              rcases List.mem_append.1 hx with hx | hx
              · exact ((HVB.out x hx).below HAA.out).grown hg5 hat5
              · rw [List.mem_singleton] at hx
                subst hx
                exact (HBB.out.below hAB).grown hg5 hat5
            have hrow : w5.ownsRow wz.heap.size 24 4 v5 (q + 1) (rowTv (vs ++ [(⟨ty, aY, cY⟩ : Tv)])) := by rw [rowTv_append, rowTv_one]; exact hown5
            first
              | exact ⟨v5, _, .int .i64 ((q : Int) + 1), ⟨q + 1, by omega, by go_num, vs ++ [(⟨ty, aY, cY⟩ : Tv)], Lib.hid HVT2.out, by rw [List.length_append, hvl]; rfl, Lib.hid hall, Lib.hid hrow, Lib.hid hb5⟩, rfl, rfl, rfl⟩
              | exact ⟨q + 1, vs ++ [(⟨ty, aY, cY⟩ : Tv)], by omega, by go_num, Lib.hid HVT2.out, by rw [List.length_append, hvl]; rfl, Lib.hid hall, Lib.hid hrow, Lib.hid hb5⟩
          case measure => simp [intOf]; omega
        · have hqe : q = t.args.length := by omega
          have hqd : decide ((q : Int) < (t.args.length : Int)) = false := decide_eq_false (by omega)
          have hql1 : t.args.length ≤ q := by omega
          have hvt : vs.map Tv.t = t.args.map (appT bs) := by
            have h := HVT.out
            rw [List.take_of_length_le hql1] at h
            exact h
          have hown := HOWN.out
          rw [hqe] at hown
          have hform : ∃ a7 c7, u7 = .slice a7 t.args.length c7 := by
            rcases hown.2 with ⟨h, h0⟩ | ⟨g', cap', cur, h, _⟩
            · exact ⟨none, 0, by rw [h, h0]⟩
            · exact ⟨_, cap', h⟩
          obtain ⟨a7, c7, rfl⟩ := hform
          have O := Lib.hid (fun W => of_any t.kind t.name t.n a7 t.args.length c7 W)
          have hzw := HZS.out
          have HOWNE := Lib.hid hown
          have HVTE := Lib.hid hvt
          obtain ⟨p0, p1, p2, p3, _, _, _, _⟩ := HBX.out wr HBW.out
          clear hqe hown hvt HVT HOWN
          go_wp2_with fail
          refine (O.out _).mono ?_; rintro e w5 ⟨rfl, hb5⟩
          have hbR := HBR.out w5 (below_next HBW.out hb5)
          have BR8 := Lib.hid (hbR.sets (.int .i64 t.kind) (.string t.name) (.int .i64 t.n) (.slice a7 t.args.length c7))
          obtain ⟨q0, q1, q2, q3, f0, f1, f2, f3⟩ := hbR
          have HB5 := Lib.hid hb5
          clear hb5 p0 p1 p2 p3
          go_wp2_with fail
          obtain ⟨q0, q1, q2, q3, f0, f1, f2, f3⟩ := BR8.out
          refine bodyPost_ret (v := .agg #[.int .i64 t.kind, .string t.name, .int .i64 t.n, .slice a7 t.args.length c7]) (by simp [results, Try.results17, go_sem, q0, q1, q2, q3]) rfl ?_
          have hbe := below_next HBW.out HB5.out
          have hwe : Below w.heap.size w w5 := HBZ.out.trans (hbe.mono HBZ.out.size)
          rw [HEE.out]
          refine ⟨⟨.mk t.kind t.name t.n (t.args.map (appT bs)), a7, c7⟩, by simp [Tv.val, Tm.kind, Tm.name, Tm.n, Tm.args], rfl, ?_, below_sets hwe (by omega) _ _ _ _⟩
          have hz8 : w.heap.size + 1 < wz.heap.size := by omega
          refine fresh_row (vs := vs) (n := t.args.length) ?_ (by rw [List.length_map]) HVTE.out HX.out.1 (by omega) (fun W hWb hWs hWa v hv => ?_)
          · have h5 := own_below HOWNE.out HB5.out
            have h8 := own_setCell (own_setCell (own_setCell (own_setCell h5 (p := ⟨w.heap.size + 1, 0, none⟩) hz8 (.int .i64 t.kind)) (p := ⟨w.heap.size + 1, 1, none⟩) hz8 (.string t.name)) (p := ⟨w.heap.size + 1, 2, none⟩) hz8 (.int .i64 t.n)) (p := ⟨w.heap.size + 1, 3, none⟩) hz8 (.slice a7 t.args.length c7)
            exact own_lower h8 HBZ.out.size
          · have hsz5 := HB5.out.size
            have hkk : ∀ k, k ≠ w.heap.size + 1 → ((((w5.setCell ⟨w.heap.size + 1, 0, none⟩ (.int .i64 t.kind)).setCell ⟨w.heap.size + 1, 1, none⟩ (.string t.name)).setCell ⟨w.heap.size + 1, 2, none⟩ (.int .i64 t.n)).setCell ⟨w.heap.size + 1, 3, none⟩ (.slice a7 t.args.length c7)).heap[k]? = w5.heap[k]? := fun k hkR => by
              rw [Below.heap_setCell _ _ _ _ hkR, Below.heap_setCell _ _ _ _ hkR, Below.heap_setCell _ _ _ _ hkR, Below.heap_setCell _ _ _ _ hkR]
            refine HVB.out v hv W hWb (by simp at hWs; omega) (fun k k1 k2 _ => ?_)
            rw [hWa k (by omega) (by simp; omega), hkk k (by omega)]
            exact HB5.out.block k k2
theorem rapply_tm (bs : List Bn) (v : Value) (w0 : World) (hv : Bds w0 v bs) (m : Nat) : ∀ (x : Tv) (w : World), x.t.parts ≤ m → m ≤ 2300000000000 → x.ok w0 → Below w0.heap.size w0 w →
    Calls Try.prog 17 #[v, x.val] w (ApPost (appT bs x.t) w0 w) := rapply_ok bs v w0 w0 hv.toOk (Reads.refl _) m
end Go.Proofs.Ytedljdcliilggaa

namespace Go.Proofs.Ytedljdcliilggaa
open Go.RowKit

def cmpI (a b : Int) : Int := if a < b then -1 else if b < a then 1 else 0
def cmpS (s t : ByteArray) : Int := if Op.bytesLess s.toList t.toList = true then -1 else if (s.toList == t.toList) = true then 0 else 1
mutual
/-- Which of two terms is first: by kind, number, name, how many arguments, then these from the left. -/
def cmpT : Tm → Tm → Int
  | .mk k s n xs, .mk k' s' n' ys => if cmpI k k' ≠ 0 then cmpI k k' else if cmpI n n' ≠ 0 then cmpI n n' else if cmpS s s' ≠ 0 then cmpS s s' else if cmpI xs.length ys.length ≠ 0 then cmpI xs.length ys.length else cmpL xs ys
def cmpL : List Tm → List Tm → Int
  | [], _ => 0
  | _ :: _, [] => 0
  | x :: r, y :: q => if cmpT x y ≠ 0 then cmpT x y else cmpL r q
end
theorem cmpI_zero {a b : Int} : cmpI a b = 0 ↔ a = b := by unfold cmpI; split; omega; split <;> omega
theorem cmpI_bd (a b : Int) : -1 ≤ cmpI a b ∧ cmpI a b ≤ 1 := by unfold cmpI; split; omega; split <;> omega
theorem cmpS_bd (s t : ByteArray) : -1 ≤ cmpS s t ∧ cmpS s t ≤ 1 := by unfold cmpS; split; omega; split <;> omega
mutual
theorem cmpT_bd : ∀ t u : Tm, -1 ≤ cmpT t u ∧ cmpT t u ≤ 1
  | .mk k s n xs, .mk k' s' n' ys => by
    rw [cmpT]
    have h1 := cmpI_bd k k'
    have h2 := cmpI_bd n n'
    have h3 := cmpS_bd s s'
    have h4 := cmpI_bd xs.length ys.length
    have h5 := cmpL_bd xs ys
    repeat' split
    all_goals assumption
theorem cmpL_bd : ∀ xs ys : List Tm, -1 ≤ cmpL xs ys ∧ cmpL xs ys ≤ 1
  | [], _ => by rw [cmpL]; omega
  | _ :: _, [] => by rw [cmpL]; omega
  | x :: r, y :: q => by
    rw [cmpL]
    have h1 := cmpT_bd x y
    have h2 := cmpL_bd r q
    split <;> assumption
end
theorem cmpL_same : ∀ {xs ys : List Tm}, (∀ j (h1 : j < xs.length) (h2 : j < ys.length), cmpT xs[j] ys[j] = 0) → cmpL xs ys = 0
  | [], _, _ => by rw [cmpL]
  | _ :: _, [], _ => by rw [cmpL]
  | x :: r, y :: q, h => by
    have h0 := h 0 (by simp) (by simp)
    simp only [List.getElem_cons_zero] at h0
    rw [cmpL, if_neg (by rw [h0]; simp)]
    exact cmpL_same fun j h1 h2 => by
      have := h (j + 1) (by simpa using h1) (by simpa using h2)
      simpa using this
theorem cmpL_at : ∀ {xs ys : List Tm} {k : Nat} (h1 : k < xs.length) (h2 : k < ys.length), (∀ j (a : j < xs.length) (b : j < ys.length), j < k → cmpT xs[j] ys[j] = 0) → cmpT xs[k] ys[k] ≠ 0 → cmpL xs ys = cmpT xs[k] ys[k]
  | [], _, _, h1, _, _, _ => by simp at h1
  | _ :: _, [], _, _, h2, _, _ => by simp at h2
  | x :: r, y :: q, 0, _, _, _, hn => by
    simp only [List.getElem_cons_zero] at hn ⊢
    rw [cmpL, if_pos hn]
  | x :: r, y :: q, k + 1, h1, h2, h, hn => by
    have h0 := h 0 (by simp) (by simp) (by omega)
    simp only [List.getElem_cons_zero] at h0
    rw [cmpL, if_neg (by rw [h0]; simp)]
    simp only [List.getElem_cons_succ] at hn ⊢
    exact cmpL_at (by simpa using h1) (by simpa using h2) (fun j a b hj => by
      have := h (j + 1) (by simpa using a) (by simpa using b) (by omega)
      simpa using this) hn
/-- Up to k no pair parts. -/
def CmpTo (xs ys : List Tm) (k : Nat) : Prop := ∀ j (h1 : j < xs.length) (h2 : j < ys.length), j < k → cmpT xs[j] ys[j] = 0
theorem CmpTo.succ {xs ys : List Tm} {k : Nat} (h : CmpTo xs ys k) (h1 : k < xs.length) (h2 : k < ys.length) (hk : cmpT xs[k] ys[k] = 0) : CmpTo xs ys (k + 1) := by
  intro j a b hj
  by_cases e : j = k
  · subst e; exact hk
  · exact h j a b (by omega)

theorem texts_ways (s t : ByteArray) : (Op.bytesLess s.toList t.toList = true ∧ cmpS s t = -1) ∨ (Op.bytesLess s.toList t.toList = false ∧ (s.toList == t.toList) = true ∧ cmpS s t = 0) ∨ (Op.bytesLess s.toList t.toList = false ∧ (s.toList == t.toList) = false ∧ cmpS s t = 1) := by
  unfold cmpS
  cases h1 : Op.bytesLess s.toList t.toList with
  | true => left; exact ⟨rfl, by simp⟩
  | false =>
    right
    cases h2 : (s.toList == t.toList) with
    | true => left; exact ⟨rfl, rfl, by simp⟩
    | false => right; exact ⟨rfl, rfl, by simp⟩
end Go.Proofs.Ytedljdcliilggaa

namespace Go.Proofs.Ytedljdcliilggaa
open Go.RowKit

theorem bl_irr : ∀ x : List UInt8, Op.bytesLess x x = false
  | [] => rfl
  | a :: x => by simp [Op.bytesLess, bl_irr x]
theorem bl_tot : ∀ {x y : List UInt8}, Op.bytesLess x y = false → x ≠ y → Op.bytesLess y x = true
  | [], [], _, h => absurd rfl h
  | [], _ :: _, h, _ => by simp [Op.bytesLess] at h
  | _ :: _, [], _, _ => rfl
  | a :: x, b :: y, h, hn => by
    simp only [Op.bytesLess, Bool.or_eq_false_iff, decide_eq_false_iff_not, Bool.and_eq_false_iff, beq_eq_false_iff_ne] at h
    simp only [Op.bytesLess, Bool.or_eq_true, decide_eq_true_eq, Bool.and_eq_true, beq_iff_eq]
    obtain ⟨h1, h2⟩ := h
    by_cases e : a = b
    · subst e
      right
      refine ⟨rfl, bl_tot ?_ fun h => hn (by rw [h])⟩
      rcases h2 with h2 | h2
      · exact absurd rfl h2
      · exact h2
    · left
      rcases UInt8.lt_or_lt_of_ne e with h | h
      · exact absurd h h1
      · exact h
theorem bl_trans : ∀ {x y z : List UInt8}, Op.bytesLess x y = true → Op.bytesLess y z = true → Op.bytesLess x z = true
  | _, [], _, h, _ => by simp [Op.bytesLess] at h
  | _, _ :: _, [], _, h => by simp [Op.bytesLess] at h
  | [], _ :: _, _ :: _, _, _ => rfl
  | a :: x, b :: y, c :: z, h1, h2 => by
    simp only [Op.bytesLess, Bool.or_eq_true, decide_eq_true_eq, Bool.and_eq_true, beq_iff_eq] at h1 h2 ⊢
    rcases h1 with h1 | ⟨rfl, h1⟩
    · rcases h2 with h2 | ⟨rfl, _⟩
      · exact .inl (UInt8.lt_trans h1 h2)
      · exact .inl h1
    · rcases h2 with h2 | ⟨rfl, h2⟩
      · exact .inl h2
      · exact .inr ⟨rfl, bl_trans h1 h2⟩
theorem cmpS_zero {s t : ByteArray} : cmpS s t = 0 ↔ s.toList = t.toList := by
  unfold cmpS
  constructor
  · intro h
    split at h
    · cases h
    · split at h
      · next h1 => exact beq_iff_eq.1 h1
      · cases h
  · intro h
    rw [if_neg (by rw [h, bl_irr]; simp), if_pos (by rw [h]; simp)]
theorem cmpS_neg (s t : ByteArray) : cmpS t s = - cmpS s t := by
  by_cases e : s.toList = t.toList
  · rw [cmpS_zero.2 e, cmpS_zero.2 e.symm]; rfl
  · unfold cmpS
    rw [if_neg (c := (s.toList == t.toList) = true) (by simpa using e), if_neg (c := (t.toList == s.toList) = true) (by simpa using fun h => e h.symm)]
    cases h1 : Op.bytesLess s.toList t.toList with
    | true =>
      cases h2 : Op.bytesLess t.toList s.toList with
      | true => have := bl_trans h1 h2; rw [bl_irr] at this; cases this
      | false => rfl
    | false => rw [bl_tot h1 e]; rfl

/-- How three comparisons go together: of the first with the second, the second with the third, the first with the third. -/
def Tri (i j k : Int) : Prop := (i ≤ 0 → j ≤ 0 → k ≤ 0) ∧ (i < 0 → j ≤ 0 → k < 0) ∧ (i ≤ 0 → j < 0 → k < 0) ∧ (i = 0 → j = 0 → k = 0)
def lexI (i j : Int) : Int := if i ≠ 0 then i else j
theorem lexI_tri {i1 i2 i3 r1 r2 r3 : Int} (h : Tri i1 i2 i3) (hr : i1 = 0 → i2 = 0 → Tri r1 r2 r3) : Tri (lexI i1 r1) (lexI i2 r2) (lexI i3 r3) := by
  unfold Tri lexI at *
  obtain ⟨a1, a2, a3, a4⟩ := h
  by_cases e1 : i1 = 0
  · by_cases e2 : i2 = 0
    · have e3 := a4 e1 e2
      rw [e1, e2, e3]
      simpa using hr e1 e2
    · rw [if_neg (by simpa using e1), if_pos e2]
      refine ⟨fun b c => ?_, fun b c => ?_, fun b c => ?_, fun b c => absurd c e2⟩ <;> (have := a3 (by omega) (by omega); rw [if_pos (by omega)]; omega)
  · rw [if_pos e1]
    by_cases e2 : i2 = 0
    · rw [if_neg (by simpa using e2)]
      refine ⟨fun b c => ?_, fun b c => ?_, fun b c => ?_, fun b c => absurd b e1⟩ <;> (have := a2 (by omega) (by omega); rw [if_pos (by omega)]; omega)
    · rw [if_pos e2]
      refine ⟨fun b c => ?_, fun b c => ?_, fun b c => ?_, fun b c => absurd b e1⟩ <;> (have := a2 (by omega) (by omega); rw [if_pos (by omega)]; omega)
theorem cmpI_tri (a b c : Int) : Tri (cmpI a b) (cmpI b c) (cmpI a c) := by
  unfold Tri cmpI
  repeat' split
  all_goals omega
theorem cmpI_neg (a b : Int) : cmpI b a = - cmpI a b := by unfold cmpI; repeat' split
                                                           all_goals omega
theorem cmpS_tri (s t u : ByteArray) : Tri (cmpS s t) (cmpS t u) (cmpS s u) := by
  have key : ∀ s t : ByteArray, (cmpS s t < 0 ↔ Op.bytesLess s.toList t.toList = true) := by
    intro s t
    unfold cmpS
    constructor
    · intro h
      split at h
      · assumption
      · split at h <;> omega
    · intro h; rw [if_pos h]; decide
  have lt : ∀ {s t : ByteArray}, cmpS s t ≤ 0 → cmpS s t < 0 ∨ s.toList = t.toList := by
    intro s t h
    by_cases e : cmpS s t = 0
    · exact .inr (cmpS_zero.1 e)
    · exact .inl (by omega)
  have cr : ∀ {s t u : ByteArray}, s.toList = t.toList → cmpS s u = cmpS t u := fun h => by unfold cmpS; rw [h]
  have cl : ∀ {s t u : ByteArray}, t.toList = u.toList → cmpS s t = cmpS s u := fun h => by unfold cmpS; rw [h]
  have tr : cmpS s t < 0 → cmpS t u < 0 → cmpS s u < 0 := fun a b => (key _ _).2 (bl_trans ((key _ _).1 a) ((key _ _).1 b))
  refine ⟨fun a b => ?_, fun a b => ?_, fun a b => ?_, fun a b => ?_⟩
  · rcases lt a with a | a
    · rcases lt b with b | b
      · have := tr a b; omega
      · rw [← cl b]; omega
    · rw [cr a]; exact b
  · rcases lt b with b | b
    · exact tr a b
    · rw [← cl b]; exact a
  · rcases lt a with a | a
    · exact tr a b
    · rw [cr a]; exact b
  · rw [cr (cmpS_zero.1 a)]; exact b
theorem cmpT_lex (k k' : Int) (s s' : ByteArray) (n n' : Int) (xs ys : List Tm) :
    cmpT (.mk k s n xs) (.mk k' s' n' ys) = lexI (cmpI k k') (lexI (cmpI n n') (lexI (cmpS s s') (lexI (cmpI xs.length ys.length) (cmpL xs ys)))) := by
  rw [cmpT]; unfold lexI; rfl
theorem cmpL_lex (x y : Tm) (r q : List Tm) : cmpL (x :: r) (y :: q) = lexI (cmpT x y) (cmpL r q) := by rw [cmpL]; unfold lexI; rfl
mutual
theorem cmpT_tri : ∀ a b c : Tm, Tri (cmpT a b) (cmpT b c) (cmpT a c)
  | .mk k s n xs, .mk k' s' n' ys, .mk k'' s'' n'' zs => by
    rw [cmpT_lex, cmpT_lex, cmpT_lex]
    refine lexI_tri (cmpI_tri _ _ _) fun _ _ => lexI_tri (cmpI_tri _ _ _) fun _ _ => lexI_tri (cmpS_tri _ _ _) fun _ _ => lexI_tri (cmpI_tri _ _ _) fun h1 h2 => ?_
    exact cmpL_tri xs ys zs (by have := cmpI_zero.1 h1; omega) (by have := cmpI_zero.1 h2; omega)
theorem cmpL_tri : ∀ xs ys zs : List Tm, xs.length = ys.length → ys.length = zs.length → Tri (cmpL xs ys) (cmpL ys zs) (cmpL xs zs)
  | [], [], [], _, _ => by rw [cmpL]; exact ⟨fun _ _ => by omega, fun _ _ => by omega, fun _ _ => by omega, fun _ _ => rfl⟩
  | [], _ :: _, _, h, _ => by simp at h
  | _ :: _, [], _, h, _ => by simp at h
  | _, _ :: _, [], _, h => by simp at h
  | _, [], _ :: _, _, h => by simp at h
  | x :: r, y :: q, z :: p, h1, h2 => by
    rw [cmpL_lex, cmpL_lex, cmpL_lex]
    exact lexI_tri (cmpT_tri x y z) fun _ _ => cmpL_tri r q p (by simpa using h1) (by simpa using h2)
end
theorem lexI_neg {i j i' j' : Int} (h : i' = -i) (hr : i = 0 → j' = -j) : lexI i' j' = - lexI i j := by
  unfold lexI
  by_cases e : i = 0
  · rw [if_neg (by omega), if_neg (by simpa using e), hr e]
  · rw [if_pos (by omega), if_pos e, h]
mutual
theorem cmpT_neg : ∀ a b : Tm, cmpT b a = - cmpT a b
  | .mk k s n xs, .mk k' s' n' ys => by
    rw [cmpT_lex, cmpT_lex]
    refine lexI_neg (cmpI_neg _ _) fun _ => lexI_neg (cmpI_neg _ _) fun _ => lexI_neg (cmpS_neg _ _) fun _ => lexI_neg (cmpI_neg _ _) fun h => ?_
    exact cmpL_neg xs ys (by have := cmpI_zero.1 h; omega)
theorem cmpL_neg : ∀ xs ys : List Tm, xs.length = ys.length → cmpL ys xs = - cmpL xs ys
  | [], [], _ => by rw [cmpL]; rfl
  | [], _ :: _, h => by simp at h
  | _ :: _, [], h => by simp at h
  | x :: r, y :: q, h => by
    rw [cmpL_lex, cmpL_lex]
    exact lexI_neg (cmpT_neg x y) fun _ => cmpL_neg r q (by simpa using h)
end
theorem lexI_zero {i j : Int} : lexI i j = 0 ↔ i = 0 ∧ j = 0 := by
  unfold lexI
  by_cases e : i = 0
  · rw [if_neg (by simpa using e)]; exact ⟨fun h => ⟨e, h⟩, fun h => h.2⟩
  · rw [if_pos e]; exact ⟨fun h => absurd h e, fun h => h.1⟩
mutual
theorem cmpT_zero : ∀ a b : Tm, cmpT a b = 0 → a = b
  | .mk k s n xs, .mk k' s' n' ys => fun h => by
    rw [cmpT_lex, lexI_zero, lexI_zero, lexI_zero, lexI_zero] at h
    obtain ⟨h1, h2, h3, h4, h5⟩ := h
    have e1 := cmpI_zero.1 h1
    have e2 := cmpI_zero.1 h2
    have e3 : s = s' := by
      exact (Lib.bytes_beq_iff _ _).1 (beq_iff_eq.2 (cmpS_zero.1 h3))
    have e5 := cmpL_zero xs ys (by have := cmpI_zero.1 h4; omega) h5
    rw [e1, e2, e3, e5]
theorem cmpL_zero : ∀ xs ys : List Tm, xs.length = ys.length → cmpL xs ys = 0 → xs = ys
  | [], [], _, _ => rfl
  | [], _ :: _, h, _ => by simp at h
  | _ :: _, [], h, _ => by simp at h
  | x :: r, y :: q, h, h0 => by
    rw [cmpL_lex, lexI_zero] at h0
    rw [cmpT_zero x y h0.1, cmpL_zero r q (by simpa using h) h0.2]
end
theorem cmpT_self (a : Tm) : cmpT a a = 0 := by have := cmpT_neg a a; omega
theorem cmpT_iff {a b : Tm} : cmpT a b = 0 ↔ a = b := ⟨cmpT_zero a b, fun h => by rw [h]; exact cmpT_self b⟩
theorem cmpT_le {a b c : Tm} (h1 : cmpT a b ≤ 0) (h2 : cmpT b c ≤ 0) : cmpT a c ≤ 0 := (cmpT_tri a b c).1 h1 h2
end Go.Proofs.Ytedljdcliilggaa

namespace Go.Proofs.Ytedljdcliilggaa
open Go.RowKit

/-- A slice value that reads as a list of texts. -/
def Strs (w : World) (v : Value) (zs : List ByteArray) : Prop :=
  ∃ a c, v = .slice a zs.length c ∧ zs.length ≤ 9223372036854775806 ∧ (zs = [] ∨ ∃ b off, a = some ⟨b, off, none⟩ ∧ b < w.heap.size ∧ ∀ j, j < zs.length → w.cell? ⟨b, off + j, none⟩ = some (.string (zs.getD j ByteArray.empty)))

theorem Strs.below {w w' : World} {v : Value} {zs : List ByteArray} (h : Strs w v zs) (hb : Below w.heap.size w w') : Strs w' v zs := by
  obtain ⟨a, c, hv, hl, h⟩ := h
  refine ⟨a, c, hv, hl, ?_⟩
  rcases h with h | ⟨b, off, ha, hlt, hc⟩
  · exact .inl h
  · exact .inr ⟨b, off, ha, Nat.lt_of_lt_of_le hlt hb.size, fun j hj => by rw [hb.cell (p := ⟨b, off + j, none⟩) hlt]; exact hc j hj⟩

theorem strs_alloc (w : World) (zs : List ByteArray) (t : TypeId) (hn : zs.length ≤ 9223372036854775806) :
    Strs (w.alloc (.cells (zs.map Value.string).toArray t)) (.slice (some ⟨w.heap.size, 0, none⟩) zs.length zs.length) zs := by
  refine ⟨_, _, rfl, hn, .inr ⟨w.heap.size, 0, rfl, by simp, fun j hj => ?_⟩⟩
  have e := World.cell?_alloc_mark w (zs.map Value.string).toArray t (0, 0) (0 + j)
  rw [e]
  simp [hj]

/-- x isn't among the first k. -/
def NotYet (zs : List ByteArray) (x : ByteArray) (k : Nat) : Prop := ∀ j, j < k → zs.getD j ByteArray.empty ≠ x
theorem NotYet.succ {zs : List ByteArray} {x : ByteArray} {k : Nat} (h : NotYet zs x k) (hk : zs.getD k ByteArray.empty ≠ x) : NotYet zs x (k + 1) := by
  intro j hj
  by_cases e : j = k
  · rw [e]; exact hk
  · exact h j (by omega)
theorem NotYet.all {zs : List ByteArray} {x : ByteArray} (h : NotYet zs x zs.length) : Lib.containsS zs x = false := by
  rw [← Bool.not_eq_true, Lib.containsS_iff]
  intro hm
  obtain ⟨j, hj, e⟩ := List.getElem_of_mem hm
  exact h j hj (by simpa [List.getD, hj] using e)
theorem contains_here {zs : List ByteArray} {x : ByteArray} {k : Nat} (hk : k < zs.length) (h : zs[k] = x) : Lib.containsS zs x = true := by
  rw [Lib.containsS_iff, ← h]; exact List.getElem_mem _
theorem strInfo : (Try.prog.info? 9).map (fun i => (i.zero, i.size, i.bytes)) = some (some (.string ⟨#[]⟩), 1, 16) := by kernel_rfl
theorem own_cells {w : World} {base : Nat} {e : TypeId} {v : Value} {n : Nat} {xs : List ByteArray} (h : w.ownsRow base e 1 v n (xs.map Value.string)) : (v = .slice none 0 0 ∧ xs = []) ∨
    ∃ g cap, v = .slice (some ⟨g, 0, none⟩) xs.length cap ∧ g < w.heap.size ∧ xs.length ≤ cap ∧ ∀ (j : Nat) x, xs[j]? = some x → w.cell? ⟨g, 0 + j, none⟩ = some (.string x) := by
  obtain ⟨hn, h⟩ := h
  have hxn : xs.length = n := by simpa using hn
  subst hxn
  rcases h with ⟨rfl, h0⟩ | ⟨g, cap, cur, rfl, hb, hg, hcap, hmax, hsz, htake⟩
  · exact .inl ⟨rfl, List.eq_nil_of_length_eq_zero h0⟩
  · refine .inr ⟨g, cap, rfl, ?_, hcap, fun j x hj => ?_⟩
    · rcases Nat.lt_or_ge g w.heap.size with hlt | hge
      · exact hlt
      · rw [Array.getElem?_eq_none hge] at hg; cases hg
    · have hjl : j < xs.length := (List.getElem?_eq_some_iff.1 hj).1
      rw [cell_of_row w g (0 + j) cur e (0, 0) hg]
      have : (xs.map Value.string)[j]? = some (.string x) := by rw [List.getElem?_map, hj]; rfl
      rw [← htake, List.getElem?_take, if_pos (by omega)] at this
      rw [Nat.zero_add]
      simpa using this
/-- A row of texts that the call itself has made reads as a list of texts. -/
theorem strs_of_own {w : World} {base : Nat} {e : TypeId} {v : Value} {n : Nat} {zs : List ByteArray} (h : w.ownsRow base e 1 v n (zs.map Value.string)) (hl : zs.length ≤ 9223372036854775806) : Strs w v zs := by
  rcases own_cells h with ⟨rfl, rfl⟩ | ⟨g, cap, rfl, hg, _, hc⟩
  · exact ⟨none, 0, rfl, by simp, .inl rfl⟩
  · refine ⟨_, cap, rfl, hl, .inr ⟨g, 0, rfl, hg, fun j hj => ?_⟩⟩
    have := hc j zs[j] (by rw [List.getElem?_eq_getElem hj])
    rw [this]; simp [List.getD, hj]
end Go.Proofs.Ytedljdcliilggaa
