/-
  Whether a handle that is to be replaced isn't there, by the reference of layer 5: lacks.
  A term with a list's terms in the places of its handles, by the reference of layer 5: handed, missing, Hands.
  A list's terms in the places of a term's handles, by the reference of layer 5: Hands.
-/
import Derived.Test.YtcoaneipajadiaaPHands
import Derived.Test.YtcoaneipajadiaaAllTm
import Derived.Test.YtcoaneipajadiaaApBd
import Derived.Test.YtcoaneipajadiaaSmallTm
namespace Go.Proofs.Ytcoaneipajadiaa
open Go.RowKit

theorem okL_list (o : Tm → Bool) (f : Tm → Option Tm) : ∀ ts : List Tm, okL o f ts = ts.all (okT o f)
  | [] => by rw [okL]; rfl
  | t :: r => by rw [okL, okL_list o f r]; rfl
theorem inH_get {l : List Tm} {t : Tm} (h : inH l t = true) : ∃ u, l[(t.n - 1).toNat]? = some u ∧ fH l t = some u := by
  have h0 := h
  unfold inH at h
  simp only [Bool.and_eq_true, decide_eq_true_eq] at h
  refine ⟨l[(t.n - 1).toNat]'(by omega), List.getElem?_eq_getElem _, ?_⟩
  unfold fH; rw [if_pos h0, List.getElem?_eq_getElem]
theorem okH_hand {l : List Tm} {t : Tm} (h : t.kind = 3) : okH l t = (decide (1 ≤ t.n) && decide (t.n ≤ l.length)) := by
  have hi : inH l t = (decide (1 ≤ t.n) && decide (t.n ≤ l.length)) := by unfold inH; rw [h]; rfl
  have ho : oH l t = (decide (1 ≤ t.n) && decide (t.n ≤ l.length)) := by unfold oH; rw [h]; simp
  cases hb : (decide (1 ≤ t.n) && decide (t.n ≤ l.length)) with
  | false =>
    rw [hb] at ho
    cases t; unfold okH; rw [okT, ho]; rfl
  | true =>
    rw [hb] at ho hi
    obtain ⟨u, _, hu⟩ := inH_get hi
    cases t; unfold okH; rw [okT, ho, hu]; rfl
theorem okH_else {l : List Tm} {t : Tm} (h : t.kind ≠ 3) : okH l t = t.args.all (okH l) := by
  have hd : decide (t.kind = 3) = false := decide_eq_false h
  have hi : inH l t = false := by unfold inH; rw [hd]; rfl
  have ho : oH l t = true := by unfold oH; rw [hd]; rfl
  have hf : fH l t = none := by unfold fH; rw [if_neg (by rw [hi]; simp)]
  cases t; unfold okH; rw [okT, ho, hf, okL_list]; rfl
theorem all_takeL {p : Tm → Bool} {l : List Tm} {k : Nat} (h : k < l.length) : (l.take (k + 1)).all p = ((l.take k).all p && p l[k]) := by
  rw [List.take_succ_eq_append_getElem h, List.all_append]; simp

set_option maxRecDepth 100000 in
set_option maxHeartbeats 4000000 in
theorem lacks_tm (l : List Tm) (v : Value) (w0 : World) (hv : Tms w0 v l) (m : Nat) : ∀ (x : Tv) (w : World), x.t.parts ≤ m → x.ok w0 → Below w0.heap.size w0 w →
    Calls Try.prog 65 #[v, x.val] w fun e w' => e = .returned (.bool (!okH l x.t)) ∧ Below w.heap.size w w' := by
  induction m with
  | zero => intro x w h; have := parts_pos x.t; omega
  | succ m ih =>
    intro x w hm hx hb0
    obtain ⟨t, ax, cx⟩ := x
    have hpl : ∀ j (h : j < t.args.length), t.args[j].parts ≤ m := fun j h => by have := parts_arg t h; simp only at hm; omega
    have hbx := box_new w (.int .i64 t.kind) (.string t.name) (.int .i64 t.n) (.slice ax t.args.length cx) 25
    have hw : Below w.heap.size w (w.alloc (.cells #[.int .i64 t.kind, .string t.name, .int .i64 t.n, .slice ax t.args.length cx] 25)) := (Below.refl _ _).alloc (Nat.le_refl _) _
    have HX := Lib.hid hx
    have HB0 := Lib.hid hb0
    have IH := Lib.hid ih
    have HPL := Lib.hid hpl
    obtain ⟨av, cv, rfl, hlv, _⟩ := hv
    clear hx hb0 ih hpl hm
    simp only [Tv.val]
    cases hk : (t.kind == 3) with
    | true =>
      have hk3 : t.kind = 3 := by simpa using hk
      have HE := Lib.hid (okH_hand (l := l) hk3)
      have HW := Lib.hid hw
      clear hw hk3 hbx
      cases h1 : decide (t.n < 1) with
      | true =>
        have HF := Lib.hid (show okH l t = false by have := of_decide_eq_true h1; rw [HE.out, decide_eq_false (by omega)]; rfl)
        go_enter Try.func65, Try.ntmps65
        go_wp2_with fail
        go_ret
        exact ⟨by rw [HF.out]; rfl, HW.out⟩
      | false =>
        have hn1 : 1 ≤ t.n := by have := of_decide_eq_false h1; omega
        cases h2 : decide ((l.length : Int) < t.n) with
        | true =>
          have HF := Lib.hid (show okH l t = false by have := of_decide_eq_true h2; rw [HE.out, decide_eq_false (p := t.n ≤ l.length) (by omega)]; simp)
          clear hn1
          go_enter Try.func65, Try.ntmps65
          go_wp2_with fail
          go_ret
          exact ⟨by rw [HF.out]; rfl, HW.out⟩
        | false =>
          have HF := Lib.hid (show okH l t = true by have := of_decide_eq_false h2; rw [HE.out, decide_eq_true (p := t.n ≤ l.length) (by omega), decide_eq_true hn1]; rfl)
          clear hn1
          go_enter Try.func65, Try.ntmps65
          go_wp2_with fail
          go_ret
          exact ⟨by rw [HF.out]; rfl, HW.out⟩
    | false =>
      have HE := Lib.hid (okH_else (l := l) (t := t) (by intro h; rw [h] at hk; simp at hk))
      have HW := Lib.hid hw
      clear hw
      go_enter Try.func65, Try.ntmps65
      go_wp2_with fail
      go_loopw [23] (fun i wr => ∃ q : Nat, q ≤ t.args.length ∧ i = .int .i64 q ∧ Hid ((t.args.take q).all (okH l) = true) ∧ Below w.heap.size w wr) (fun i _ => t.args.length - (intOf i).toNat)
      case atStart => exact ⟨0, Nat.zero_le _, rfl, Lib.hid rfl, HW.out⟩
      case round =>
        obtain ⟨q, hq, rfl, HA, hb⟩ := hrel
        have hbs := hb.size
        have hal : t.args.length ≤ 9223372036854775807 := HX.out.2.1
        have hB0w := HB0.out.trans (hb.mono HB0.out.size)
        by_cases hql : q < t.args.length
        · obtain ⟨b', o', rfl, hlt', hrow⟩ := HX.out.2.2.resolve_left (by intro h; simp only at h; rw [h] at hql; simp at hql)
          obtain ⟨y, hyt, hyo, hy⟩ := tmAt_tv (rowAt_get hrow hql)
          obtain ⟨m0, m1, m2, m3⟩ : TvAt wr b' (o' + q * 4) y := ⟨(hB0w.cell (p := ⟨b', o' + q * 4, none⟩) hlt').trans hy.c0, (hB0w.cell (p := ⟨b', o' + q * 4 + 1, none⟩) hlt').trans hy.c1, (hB0w.cell (p := ⟨b', o' + q * 4 + 2, none⟩) hlt').trans hy.c2, (hB0w.cell (p := ⟨b', o' + q * 4 + 3, none⟩) hlt').trans hy.c3⟩
          obtain ⟨zt, za, zc⟩ := y
          simp only at hyt hyo m0 m1 m2 m3
          have hbz := hb.alloc hbs (.cells #[.int .i64 zt.kind, .string zt.name, .int .i64 zt.n, .slice za zt.args.length zc] 25)
          have C := Lib.hid (IH.out ⟨zt, za, zc⟩ _ (by simp only; rw [hyt]; exact HPL.out q hql) hyo (HB0.out.trans (hbz.mono HB0.out.size)))
          have HTS := Lib.hid (show (t.args.take (q + 1)).all (okH l) = okH l zt by rw [all_takeL hql, HA.out, hyt]; rfl)
          have HANY := Lib.hid (show okH l zt = false → okH l t = false from fun h => by
            rw [HE.out, ← List.take_append_drop (q + 1) t.args, List.all_append, HTS.out, h]; rfl)
          have hq0 : (0 : Int) ≤ (q : Int) := by omega
          have hq1 : (q : Int) < (t.args.length : Int) := by omega
          have hqd : decide ((q : Int) < (t.args.length : Int)) = true := decide_eq_true hq1
          have HBZ := Lib.hid hbz
          simp only [Tv.val] at C
          clear hyt hyo hy hrow hbz
          obtain ⟨r, hr⟩ : ∃ r, okH l zt = r := ⟨_, rfl⟩
          rw [hr] at C HTS HANY
          clear hr
          cases r with
          | true =>
            go_wp2_with fail
            refine C.out.mono ?_; rintro e w4 ⟨rfl, hb4⟩
            have HB4 := Lib.hid (below_next HBZ.out hb4)
            clear hb4
            go_wp2_with fail
            go_roundw
            case rel => exact ⟨q + 1, by omega, by go_num, HTS, HB4.out⟩
            case measure => simp [intOf]; omega
          | false =>
            go_wp2_with fail
            refine C.out.mono ?_; rintro e w4 ⟨rfl, hb4⟩
            have HB4 := Lib.hid (below_next HBZ.out hb4)
            clear hb4
            go_wp2_with fail
            go_ret
            exact ⟨by rw [HANY.out (by first | rfl | trivial)]; rfl, HB4.out⟩
        · have hqe : q = t.args.length := by omega
          have hqd : decide ((q : Int) < (t.args.length : Int)) = false := decide_eq_false (by omega)
          have HF := Lib.hid (show okH l t = true by rw [HE.out]; have h := HA.out; rw [hqe, List.take_length] at h; exact h)
          have HBE := Lib.hid hb
          clear hqe hb
          go_wp2_with fail
          go_ret
          exact ⟨by rw [HF.out]; rfl, HBE.out⟩
end Go.Proofs.Ytcoaneipajadiaa

namespace Go.Proofs.Ytcoaneipajadiaa
open Go.RowKit

theorem repH_else {l : List Tm} {t : Tm} (h : t.kind ≠ 3) : repT (fH l) t = .mk t.kind t.name t.n (t.args.map (repT (fH l))) := by
  have hi : inH l t = false := by unfold inH; rw [decide_eq_false h]; rfl
  have hf : fH l t = none := by unfold fH; rw [if_neg (by rw [hi]; simp)]
  cases t; rw [repT, hf, repL_map]; rfl
theorem repH_hand {l : List Tm} {t : Tm} (h : t.kind = 3) (hk : okH l t = true) : 1 ≤ t.n ∧ t.n ≤ l.length ∧ ∀ u, l[(t.n - 1).toNat]? = some u → repT (fH l) t = u := by
  have h1 := okH_hand (l := l) h
  rw [hk] at h1
  have h2 : 1 ≤ t.n ∧ t.n ≤ l.length := by simpa using h1.symm
  refine ⟨h2.1, h2.2, fun u hu => ?_⟩
  have hi : inH l t = true := by unfold inH; rw [decide_eq_true h, decide_eq_true h2.1, decide_eq_true h2.2]; rfl
  have hf : fH l t = some u := by unfold fH; rw [if_pos hi, hu]
  cases t; rw [repT, hf]
theorem okH_args {l : List Tm} {t : Tm} (h : okH l t = true) (hk : t.kind ≠ 3) : ∀ u ∈ t.args, okH l u = true := by
  rw [okH_else hk, List.all_eq_true] at h; exact h
theorem map_takeH (l : List Tm) {ts : List Tm} {k : Nat} (h : k < ts.length) : (ts.take (k + 1)).map (repT (fH l)) = (ts.take k).map (repT (fH l)) ++ [repT (fH l) ts[k]] := by
  rw [List.take_succ_eq_append_getElem h, List.map_append]; rfl

set_option maxRecDepth 100000 in
set_option maxHeartbeats 4000000 in
theorem handed_tm (l : List Tm) (v : Value) (w0 : World) (hv : Tms w0 v l) (m : Nat) : ∀ (x : Tv) (w : World), x.t.parts ≤ m → m ≤ 100000 → x.ok w0 → Below w0.heap.size w0 w → okH l x.t = true →
    Calls Try.prog 52 #[v, x.val] w (ApPost (repT (fH l) x.t) w0 w) := by
  induction m with
  | zero => intro x w h; have := parts_pos x.t; omega
  | succ m ih =>
    intro x w hm hm1 hx hb0 hok
    obtain ⟨t, ax, cx⟩ := x
    have hz1 : (w.alloc (.cells #[.int .i64 t.kind, .string t.name, .int .i64 t.n, .slice ax t.args.length cx] 25)).heap.size = w.heap.size + 1 := by simp
    have hB2 : Below w.heap.size w ((w.alloc (.cells #[.int .i64 t.kind, .string t.name, .int .i64 t.n, .slice ax t.args.length cx] 25)).alloc (.cells #[.int .i64 0, .string ⟨#[]⟩, .int .i64 0, .slice none 0 0] 25)) := ((Below.refl _ _).alloc (Nat.le_refl _) _).alloc (by rw [hz1]; omega) _
    obtain ⟨wz, hwz⟩ : ∃ wz, wz = ((w.alloc (.cells #[.int .i64 t.kind, .string t.name, .int .i64 t.n, .slice ax t.args.length cx] 25)).alloc (.cells #[.int .i64 0, .string ⟨#[]⟩, .int .i64 0, .slice none 0 0] 25)) := ⟨_, rfl⟩
    have hzs : wz.heap.size = w.heap.size + 2 := by rw [hwz]; simp
    have bX := (box_new w (.int .i64 t.kind) (.string t.name) (.int .i64 t.n) (.slice ax t.args.length cx) 25).below ((Below.refl _ _).alloc (Nat.le_refl _) (.cells #[.int .i64 0, .string ⟨#[]⟩, .int .i64 0, .slice none 0 0] 25)) (by rw [hz1]; omega)
    have bR := box_new (w.alloc (.cells #[.int .i64 t.kind, .string t.name, .int .i64 t.n, .slice ax t.args.length cx] 25)) (.int .i64 0) (.string ⟨#[]⟩) (.int .i64 0) (.slice none 0 0) 25
    rw [hz1] at bR
    rw [← hwz] at bX bR hB2
    have hargs : t.args.length ≤ 100000 := by have := partsL_length t.args; have := parts_eq t; simp only at hm; omega
    have hpl : ∀ j (h : j < t.args.length), t.args[j].parts ≤ m := fun j h => by have := parts_arg t h; simp only at hm; omega
    obtain ⟨i0, hi0, hiz0, his0, hib0⟩ := info_parts termInfo
    have HX := Lib.hid hx
    have HB0 := Lib.hid hb0
    have HBX := Lib.hid (fun (V : World) (h : Below wz.heap.size wz V) => bX.below h (by omega))
    have HBR := Lib.hid (fun (V : World) (h : Below wz.heap.size wz V) => bR.below h (by omega))
    have HBZ := Lib.hid hB2
    have HZS := Lib.hid hzs
    have HWZ := Lib.hid hwz
    have HOK := Lib.hid hok
    have IH := Lib.hid ih
    have HPL := Lib.hid hpl
    obtain ⟨av, cv, rfl, hlv, hrv⟩ := hv
    have HRV := Lib.hid hrv
    have E0 := Lib.hid (Below.refl wz.heap.size wz)
    obtain ⟨p0, p1, p2, p3, _, _, _, _⟩ := HBX.out wz E0.out
    clear bX bR hB2 hzs hx hb0 hz1 hok ih hpl hrv
    simp only [Tv.val] at *
    have HBL : Hid (Below wz.heap.size wz wz) := E0
    by_cases hk : t.kind = 3
    · have hkd : (t.kind == 3) = true := by rw [hk]; rfl
      obtain ⟨n1, n2, hrep⟩ := repH_hand hk HOK.out
      obtain ⟨q, hq⟩ : ∃ q : Nat, t.n = q + 1 := ⟨(t.n - 1).toNat, by omega⟩
      have hql : q < l.length := by omega
      have n3 : t.n - 1 = (q : Int) := by omega
      have hB0w := HB0.out.trans (HBZ.out.mono HB0.out.size)
      obtain ⟨b', o', rfl, hlt', hrow⟩ := HRV.out.resolve_left (by intro h; rw [h] at hql; simp at hql)
      obtain ⟨y, hyt, hyo, hy⟩ := tmAt_tv (rowAt_get hrow hql)
      obtain ⟨m0, m1, m2, m3⟩ : TvAt wz b' (o' + q * 4) y := ⟨(hB0w.cell (p := ⟨b', o' + q * 4, none⟩) hlt').trans hy.c0, (hB0w.cell (p := ⟨b', o' + q * 4 + 1, none⟩) hlt').trans hy.c1, (hB0w.cell (p := ⟨b', o' + q * 4 + 2, none⟩) hlt').trans hy.c2, (hB0w.cell (p := ⟨b', o' + q * 4 + 3, none⟩) hlt').trans hy.c3⟩
      obtain ⟨zt, za, zc⟩ := y
      simp only at hyt hyo m0 m1 m2 m3
      have HREP := Lib.hid (hrep zt (by rw [show (t.n - 1).toNat = q by omega, List.getElem?_eq_getElem hql, hyt]))
      have HYO := Lib.hid hyo
      have hq0 : (0 : Int) ≤ (q : Int) := by omega
      have hq1 : (q : Int) < (l.length : Int) := by omega
      rw [hwz] at m0 m1 m2 m3 p0 p1 p2 p3
      clear hk hq hrow hy hyt hyo hrep n1 n2 hwz
      go_enter Try.func52, Try.ntmps52
      go_wp2_with fail
      obtain ⟨q0, q1, q2, q3, _, _, _, _⟩ := alloc_two w (.cells #[.int .i64 t.kind, .string t.name, .int .i64 t.n, .slice ax t.args.length cx] 25) (.int .i64 zt.kind) (.string zt.name) (.int .i64 zt.n) (.slice za zt.args.length zc) 25
      refine bodyPost_ret (v := .agg #[.int .i64 zt.kind, .string zt.name, .int .i64 zt.n, .slice za zt.args.length zc]) (by simp [results, Try.results52, go_sem, q0, q1, q2, q3]) rfl ?_
      exact ⟨⟨zt, za, zc⟩, rfl, HREP.out.symm, fresh_old HYO.out, below_two w _ _⟩
    · have hkd : (t.kind == 3) = false := by rw [beq_eq_false_iff_ne]; exact hk
      have HEE := Lib.hid (repH_else (l := l) hk)
      have HOKA := Lib.hid (okH_args HOK.out hk)
      clear hk
      go_enter Try.func52, Try.ntmps52
      go_wp2_with fail
      rw [← hwz]
      clear hwz
      go_loopw [5, 20] (fun o k wr => ∃ (q : Nat) (vs : List Tv), q ≤ t.args.length ∧ k = .int .i64 q ∧ Hid (vs.map Tv.t = (t.args.take q).map (repT (fH l))) ∧ vs.length = q ∧ Hid (∀ z ∈ vs, Beside w0 wz wr o z) ∧ Hid (wr.ownsRow wz.heap.size 25 4 o q (rowTv vs)) ∧ Hid (Below wz.heap.size wz wr)) (fun _ k _ => t.args.length - (intOf k).toNat)
      case atStart => exact ⟨0, [], Nat.zero_le _, rfl, Lib.hid (by simp), rfl, Lib.hid (fun _ h => nomatch h), Lib.hid (World.ownsRow_nil _ _ _ _), HBL⟩
      case round =>
        obtain ⟨q, vs, hq, rfl, HVT, hvl, HVB, HOWN, HBW⟩ := hrel
        have hbs := HBW.out.size
        have hB0w := HB0.out.trans ((HBZ.out.trans (HBW.out.mono HBZ.out.size)).mono HB0.out.size)
        by_cases hql : q < t.args.length
        · obtain ⟨b', o', rfl, hlt', hrow⟩ := HX.out.2.2.resolve_left (by intro h; simp only at h; rw [h] at hql; simp at hql)
          obtain ⟨y, hyt, hyo, hy⟩ := tmAt_tv (rowAt_get hrow hql)
          obtain ⟨m0, m1, m2, m3⟩ : TvAt wr b' (o' + q * 4) y := ⟨(hB0w.cell (p := ⟨b', o' + q * 4, none⟩) hlt').trans hy.c0, (hB0w.cell (p := ⟨b', o' + q * 4 + 1, none⟩) hlt').trans hy.c1, (hB0w.cell (p := ⟨b', o' + q * 4 + 2, none⟩) hlt').trans hy.c2, (hB0w.cell (p := ⟨b', o' + q * 4 + 3, none⟩) hlt').trans hy.c3⟩
          obtain ⟨zt, za, zc⟩ := y
          simp only at hyt hyo m0 m1 m2 m3
          have hbzB := hB0w.alloc hB0w.size (.cells #[.int .i64 zt.kind, .string zt.name, .int .i64 zt.n, .slice za zt.args.length zc] 25)
          have C := IH.out ⟨zt, za, zc⟩ (wr.alloc (.cells #[.int .i64 zt.kind, .string zt.name, .int .i64 zt.n, .slice za zt.args.length zc] 25)) (by simp only; rw [hyt]; exact HPL.out q hql) (by omega) hyo hbzB (by simp only; rw [hyt]; exact HOKA.out _ (List.getElem_mem hql))
          have HC := Lib.hid C
          have HTS := Lib.hid (show (t.args.take (q + 1)).map (repT (fH l)) = (t.args.take q).map (repT (fH l)) ++ [repT (fH l) zt] by rw [map_takeH l hql, hyt])
          obtain ⟨p0, p1, p2, p3, _, _, _, _⟩ := HBX.out wr HBW.out
          have hq0 : (0 : Int) ≤ (q : Int) := by omega
          have hq1 : (q : Int) < (t.args.length : Int) := by omega
          have hq5 : (q : Int) ≤ 100000 := by omega
          have hmm : q + 1 ≤ maxLen := by unfold maxLen; omega
          have hmb : (q + 1) * 56 ≤ 140737488355328 := by omega
          have hol : ∀ g, u5.ownBlock = some g → g < (wr.alloc (.cells #[.int .i64 zt.kind, .string zt.name, .int .i64 zt.n, .slice za zt.args.length zc] 25)).heap.size := fun g e => by have := (HOWN.out.lt g e).2; simp; omega
          have HOL := Lib.hid hol
          have HSB := Lib.hid (show wz.heap.size ≤ (wr.alloc (.cells #[.int .i64 zt.kind, .string zt.name, .int .i64 zt.n, .slice za zt.args.length zc] 25)).heap.size by simp; omega)
          clear hyt hyo hy hrow C hol hbzB
          go_wp2_with fail
          refine HC.out.mono ?_; rintro e w4 ⟨⟨ty, aY, cY⟩, rfl, hzt, hzf, hb4⟩
          replace hb4 := below_box hb4
          have hbA := hb4.alloc hb4.size (.cells #[.int .i64 ty.kind, .string ty.name, .int .i64 ty.n, .slice aY ty.args.length cY] 25)
          have hownA := own_below HOWN.out hbA
          have hbB := beside_fresh (w := wz) hzf HSB.out HOL.out
          have HBB := Lib.hid hbB
          have HAA := Lib.hid hbA
          have HVT2 := Lib.hid (show (vs ++ [(⟨ty, aY, cY⟩ : Tv)]).map Tv.t = (t.args.take (q + 1)).map (repT (fH l)) by rw [List.map_append, HVT.out, HTS.out]; exact congrArg (fun x => _ ++ [x]) hzt)
          have HN1 := Lib.hid (World.news_of_block (heap_alloc_new w4 (.cells #[.int .i64 ty.kind, .string ty.name, .int .i64 ty.n, .slice aY ty.args.length cY] 25)))
          have HO1 := Lib.hid (fun (x : Value) (hx : x ∈ [Value.int .i64 ty.kind, .string ty.name, .int .i64 ty.n, .slice aY ty.args.length cY]) => (show x.oneCell' = true from rowTv_one' [⟨ty, aY, cY⟩] x (by rw [rowTv_one]; exact hx)))
          have hsz : wz.heap.size ≤ (w4.alloc (.cells #[.int .i64 ty.kind, .string ty.name, .int .i64 ty.n, .slice aY ty.args.length cY] 25)).heap.size := by have h2 := hbA.size; omega
          clear hzt hzf hb4 hbA hbB m0 m1 m2 m3
          simp only [Tv.val]
          go_wp2_with (at_builtin; refine wpList_append_own_at _ rfl _ _ 23 rfl wz.heap.size 25 i0 (.agg #[.int .i64 0, .string ⟨#[]⟩, .int .i64 0, .slice none 0 0]) 4 56 Try.underlying23 hi0 hiz0 his0 hib0 rfl (by decide) _ q (rowTv vs) rfl hownA ⟨w4.heap.size, 0, none⟩ 1 1 [.int .i64 ty.kind, .string ty.name, .int .i64 ty.n, .slice aY ty.args.length cY] rfl rfl HN1.out HO1.out hmm hmb hsz ?_; intro v5 w5 hown5 hg5 _ hat5)
          go_roundw
          case rel =>
            have hb5 : Below wz.heap.size wz w5 := (HBW.out.trans (HAA.out.mono hbs)).grown hg5 hsz (fun y e => (hownA.lt y e).1)
            have hAB : Below w4.heap.size w4 (w4.alloc (.cells #[.int .i64 ty.kind, .string ty.name, .int .i64 ty.n, .slice aY ty.args.length cY] 25)) := (Below.refl _ _).alloc (Nat.le_refl _) _
            have hall : ∀ x ∈ vs ++ [(⟨ty, aY, cY⟩ : Tv)], Beside w0 wz w5 v5 x := fun x hx => by
              rcases List.mem_append.1 hx with hx | hx
              · exact ((HVB.out x hx).below HAA.out).grown hg5 hat5
              · rw [List.mem_singleton] at hx
                subst hx
                exact (HBB.out.below hAB).grown hg5 hat5
            have hrow : w5.ownsRow wz.heap.size 25 4 v5 (q + 1) (rowTv (vs ++ [(⟨ty, aY, cY⟩ : Tv)])) := by rw [rowTv_append, rowTv_one]; exact hown5
            first
              | exact ⟨v5, _, .int .i64 ((q : Int) + 1), ⟨q + 1, by omega, by go_num, vs ++ [(⟨ty, aY, cY⟩ : Tv)], Lib.hid HVT2.out, by rw [List.length_append, hvl]; rfl, Lib.hid hall, Lib.hid hrow, Lib.hid hb5⟩, rfl, rfl, rfl⟩
              | exact ⟨q + 1, vs ++ [(⟨ty, aY, cY⟩ : Tv)], by omega, by go_num, Lib.hid HVT2.out, by rw [List.length_append, hvl]; rfl, Lib.hid hall, Lib.hid hrow, Lib.hid hb5⟩
          case measure => simp [intOf]; omega
        · have hqe : q = t.args.length := by omega
          have hqd : decide ((q : Int) < (t.args.length : Int)) = false := decide_eq_false (by omega)
          have hql1 : t.args.length ≤ q := by omega
          have hvt : vs.map Tv.t = t.args.map (repT (fH l)) := by
            have h := HVT.out
            rw [List.take_of_length_le hql1] at h
            exact h
          have hown := HOWN.out
          rw [hqe] at hown
          have hform : ∃ a7 c7, u5 = .slice a7 t.args.length c7 := by
            rcases hown.2 with ⟨h, h0⟩ | ⟨g', cap', cur, h, _⟩
            · exact ⟨none, 0, by rw [h, h0]⟩
            · exact ⟨_, cap', h⟩
          obtain ⟨a7, c7, rfl⟩ := hform
          have O := Lib.hid (fun W => of_any t.kind t.name t.n a7 t.args.length c7 W)
          have hzw := HZS.out
          have HOWNE := Lib.hid hown
          have HVTE := Lib.hid hvt
          obtain ⟨p0, p1, p2, p3, _, _, _, _⟩ := HBX.out wr HBW.out
          clear hqe hown hvt HVT HOWN
          go_wp2_with fail
          refine (O.out _).mono ?_; rintro e w5 ⟨rfl, hb5⟩
          have hbR := HBR.out w5 (below_next HBW.out hb5)
          have BR8 := Lib.hid (hbR.sets (.int .i64 t.kind) (.string t.name) (.int .i64 t.n) (.slice a7 t.args.length c7))
          obtain ⟨q0, q1, q2, q3, f0, f1, f2, f3⟩ := hbR
          have HB5 := Lib.hid hb5
          clear hb5 p0 p1 p2 p3
          go_wp2_with fail
          obtain ⟨q0, q1, q2, q3, f0, f1, f2, f3⟩ := BR8.out
          refine bodyPost_ret (v := .agg #[.int .i64 t.kind, .string t.name, .int .i64 t.n, .slice a7 t.args.length c7]) (by simp [results, Try.results52, go_sem, q0, q1, q2, q3]) rfl ?_
          have hbe := below_next HBW.out HB5.out
          have hwe : Below w.heap.size w w5 := HBZ.out.trans (hbe.mono HBZ.out.size)
          rw [HEE.out]
          refine ⟨⟨.mk t.kind t.name t.n (t.args.map (repT (fH l))), a7, c7⟩, by simp [Tv.val, Tm.kind, Tm.name, Tm.n, Tm.args], rfl, ?_, below_sets hwe (by omega) _ _ _ _⟩
          have hz8 : w.heap.size + 1 < wz.heap.size := by omega
          refine fresh_row (vs := vs) (n := t.args.length) ?_ (by rw [List.length_map]) HVTE.out HX.out.1 (by omega) (fun W hWb hWs hWa v hv => ?_)
          · have h5 := own_below HOWNE.out HB5.out
            have h8 := own_setCell (own_setCell (own_setCell (own_setCell h5 (p := ⟨w.heap.size + 1, 0, none⟩) hz8 (.int .i64 t.kind)) (p := ⟨w.heap.size + 1, 1, none⟩) hz8 (.string t.name)) (p := ⟨w.heap.size + 1, 2, none⟩) hz8 (.int .i64 t.n)) (p := ⟨w.heap.size + 1, 3, none⟩) hz8 (.slice a7 t.args.length c7)
            exact own_lower h8 HBZ.out.size
          · have hsz5 := HB5.out.size
            have hkk : ∀ k, k ≠ w.heap.size + 1 → ((((w5.setCell ⟨w.heap.size + 1, 0, none⟩ (.int .i64 t.kind)).setCell ⟨w.heap.size + 1, 1, none⟩ (.string t.name)).setCell ⟨w.heap.size + 1, 2, none⟩ (.int .i64 t.n)).setCell ⟨w.heap.size + 1, 3, none⟩ (.slice a7 t.args.length c7)).heap[k]? = w5.heap[k]? := fun k hkR => by
              rw [Below.heap_setCell _ _ _ _ hkR, Below.heap_setCell _ _ _ _ hkR, Below.heap_setCell _ _ _ _ hkR, Below.heap_setCell _ _ _ _ hkR]
            refine HVB.out v hv W hWb (by simp at hWs; omega) (fun k k1 k2 _ => ?_)
            rw [hWa k (by omega) (by simp; omega), hkk k (by omega)]
            exact HB5.out.block k k2
theorem hand_sets {w0 w wz w1 w2 : World} {z : Tv} (hz : Below w.heap.size w wz) (hs : wz.heap.size = w.heap.size + 2) (h1 : Below wz.heap.size wz w1) (hf : Fresh w0 w1 w2 z) (h2 : Below w1.heap.size w1 w2) (u0 u1 u2 u3 : Value) :
    Fresh w0 w ((((w2.setCell ⟨w.heap.size + 1, 0, none⟩ u0).setCell ⟨w.heap.size + 1, 1, none⟩ u1).setCell ⟨w.heap.size + 1, 2, none⟩ u2).setCell ⟨w.heap.size + 1, 3, none⟩ u3) z ∧
    Below w.heap.size w ((((w2.setCell ⟨w.heap.size + 1, 0, none⟩ u0).setCell ⟨w.heap.size + 1, 1, none⟩ u1).setCell ⟨w.heap.size + 1, 2, none⟩ u2).setCell ⟨w.heap.size + 1, 3, none⟩ u3) := by
  have hs1 := h1.size
  have hs2 := h2.size
  refine ⟨hf.widen (by omega) (by simp) (fun b k1 _ => ?_), bsets (hz.trans ((below_next h1 h2).mono hz.size)) (by omega) _ _ _ _ _ _ _ _⟩
  have hb : b ≠ w.heap.size + 1 := by omega
  rw [Below.heap_setCell _ _ _ _ hb, Below.heap_setCell _ _ _ _ hb, Below.heap_setCell _ _ _ _ hb, Below.heap_setCell _ _ _ _ hb]

set_option maxRecDepth 100000 in
set_option maxHeartbeats 4000000 in
theorem missing_tm (l : List Tm) (v : Value) (w0 : World) (hv : Tms w0 v l) (x : Tv) (w : World) (hp : x.t.parts ≤ 100000) (hx : x.ok w0) (hb0 : Below w0.heap.size w0 w) :
    Calls Try.prog 51 #[v, x.val] w (HandPost l x.t w0 w) := by
  have LK := Lib.hid (fun (W : World) (h : Below w.heap.size w W) => lacks_tm l v w0 hv x.t.parts x W (Nat.le_refl _) hx (hb0.trans (h.mono hb0.size)))
  have HD := Lib.hid (fun (W : World) (h : Below w.heap.size w W) (hk : okH l x.t = true) => handed_tm l v w0 hv 100000 x W hp (Nat.le_refl _) hx (hb0.trans (h.mono hb0.size)) hk)
  obtain ⟨t, ax, cx⟩ := x
  have hz1 : (w.alloc (.cells #[.int .i64 t.kind, .string t.name, .int .i64 t.n, .slice ax t.args.length cx] 25)).heap.size = w.heap.size + 1 := by simp
  have hB2 : Below w.heap.size w ((w.alloc (.cells #[.int .i64 t.kind, .string t.name, .int .i64 t.n, .slice ax t.args.length cx] 25)).alloc (.cells #[.int .i64 0, .string ⟨#[]⟩, .int .i64 0, .slice none 0 0] 25)) := ((Below.refl _ _).alloc (Nat.le_refl _) _).alloc (by rw [hz1]; omega) _
  obtain ⟨wz, hwz⟩ : ∃ wz, wz = ((w.alloc (.cells #[.int .i64 t.kind, .string t.name, .int .i64 t.n, .slice ax t.args.length cx] 25)).alloc (.cells #[.int .i64 0, .string ⟨#[]⟩, .int .i64 0, .slice none 0 0] 25)) := ⟨_, rfl⟩
  have hzs : wz.heap.size = w.heap.size + 2 := by rw [hwz]; simp
  have bX := (box_new w (.int .i64 t.kind) (.string t.name) (.int .i64 t.n) (.slice ax t.args.length cx) 25).below ((Below.refl _ _).alloc (Nat.le_refl _) (.cells #[.int .i64 0, .string ⟨#[]⟩, .int .i64 0, .slice none 0 0] 25)) (by rw [hz1]; omega)
  have bR := box_new (w.alloc (.cells #[.int .i64 t.kind, .string t.name, .int .i64 t.n, .slice ax t.args.length cx] 25)) (.int .i64 0) (.string ⟨#[]⟩) (.int .i64 0) (.slice none 0 0) 25
  rw [hz1] at bR
  rw [← hwz] at bX bR hB2
  have HBX := Lib.hid (fun (V : World) (h : Below wz.heap.size wz V) => bX.below h (by omega))
  have HBR := Lib.hid (fun (V : World) (h : Below wz.heap.size wz V) => bR.below h (by omega))
  have HBZ := Lib.hid hB2
  have HZS := Lib.hid hzs
  have HWZ := Lib.hid hwz
  obtain ⟨av, cv, rfl, _⟩ := hv
  clear hz1 hB2 hzs hx hb0
  obtain ⟨p0, p1, p2, p3, _, _, _, _⟩ := bX
  rw [hwz] at p0 p1 p2 p3
  clear bR
  obtain ⟨r, hr⟩ : ∃ r, okH l t = r := ⟨_, rfl⟩
  have HO := Lib.hid hr
  simp only [Tv.val] at *
  rw [hr] at LK HD
  clear hr
  cases r with
  | false =>
    go_enter Try.func51, Try.ntmps51
    go_wp2_with fail
    rw [← hwz]
    clear hwz
    refine (LK.out _ HBZ.out).mono ?_; rintro e w1 ⟨he, hb1⟩
    obtain rfl : e = Ending.returned (.bool true) := he
    have hbR := HBR.out w1 hb1
    have BR8 := Lib.hid (hbR.sets (.int .i64 0) (.string ⟨#[]⟩) (.int .i64 0) (.slice none 0 0))
    obtain ⟨q0, q1, q2, q3, f0, f1, f2, f3⟩ := hbR
    have HEND := Lib.hid (hand_sets (z := zeroV) (w0 := w0) HBZ.out HZS.out hb1 (fun W _ _ _ => zeroV_ok W) (Below.refl _ w1) (.int .i64 0) (.string ⟨#[]⟩) (.int .i64 0) (.slice none 0 0))
    clear hb1 p0 p1 p2 p3
    go_wp2_with fail
    obtain ⟨q0, q1, q2, q3, f0, f1, f2, f3⟩ := BR8.out
    refine bodyPost_ret (v := .tuple #[.agg #[.int .i64 0, .string ⟨#[]⟩, .int .i64 0, .slice none 0 0], .bool false]) (by simp [results, Try.results51, go_sem, q0, q1, q2, q3]) rfl ?_
    exact ⟨zeroV, by rw [HO.out]; rfl, by rw [HO.out]; rfl, HEND.out.1, HEND.out.2⟩
  | true =>
    go_enter Try.func51, Try.ntmps51
    go_wp2_with fail
    rw [← hwz]
    clear hwz
    refine (LK.out _ HBZ.out).mono ?_; rintro e w1 ⟨he, hb1⟩
    obtain rfl : e = Ending.returned (.bool false) := he
    have HB1 := Lib.hid hb1
    have HB1W := Lib.hid (HBZ.out.trans (hb1.mono HBZ.out.size))
    clear p0 p1 p2 p3
    obtain ⟨p0, p1, p2, p3, _, _, _, _⟩ := HBX.out w1 hb1
    clear hb1
    go_wp2_with fail
    refine (HD.out _ HB1W.out (by first | rfl | trivial)).mono ?_; rintro e w2 ⟨⟨ty, aY, cY⟩, rfl, hyt, hyf, hb2⟩
    have HYT := Lib.hid hyt
    have hbR := HBR.out w2 (below_next HB1.out hb2)
    have BR8 := Lib.hid (hbR.sets (.int .i64 ty.kind) (.string ty.name) (.int .i64 ty.n) (.slice aY ty.args.length cY))
    obtain ⟨q0, q1, q2, q3, f0, f1, f2, f3⟩ := hbR
    have HEND := Lib.hid (hand_sets HBZ.out HZS.out HB1.out hyf hb2 (.int .i64 ty.kind) (.string ty.name) (.int .i64 ty.n) (.slice aY ty.args.length cY))
    clear hyt hyf hb2 p0 p1 p2 p3
    simp only [Tv.val]
    go_wp2_with fail
    obtain ⟨q0, q1, q2, q3, f0, f1, f2, f3⟩ := BR8.out
    refine bodyPost_ret (v := .tuple #[.agg #[.int .i64 ty.kind, .string ty.name, .int .i64 ty.n, .slice aY ty.args.length cY], .bool true]) (by simp [results, Try.results51, go_sem, q0, q1, q2, q3]) rfl ?_
    exact ⟨⟨ty, aY, cY⟩, by rw [HO.out]; rfl, by rw [HO.out]; exact HYT.out, HEND.out.1, HEND.out.2⟩
end Go.Proofs.Ytcoaneipajadiaa

namespace Go.Proofs.Ytcoaneipajadiaa
open Go.RowKit

mutual
theorem ok_all (l : List Tm) : ∀ t : Tm, (∀ x ∈ t.all, oH l x = true) → okH l t = true
  | .mk k s n xs, h => by
    have h0 : oH l (.mk k s n xs) = true := h _ (by rw [all_eq]; exact List.mem_cons_self)
    have h1 : okL (oH l) (fH l) xs = true := ok_allL l xs (fun x hx => h x (by rw [all_eq]; exact List.mem_cons_of_mem _ hx))
    unfold okH; rw [okT, h0, h1]; simp
theorem ok_allL (l : List Tm) : ∀ ts : List Tm, (∀ x ∈ allL ts, oH l x = true) → okL (oH l) (fH l) ts = true
  | [], _ => by rw [okL]
  | t :: r, h => by
    have h0 : okH l t = true := ok_all l t (fun x hx => h x (by rw [allL]; exact List.mem_append_left _ hx))
    have h1 := ok_allL l r (fun x hx => h x (by rw [allL]; exact List.mem_append_right _ hx))
    unfold okH at h0
    rw [okL, h0, h1]; rfl
end

set_option maxRecDepth 100000 in
set_option maxHeartbeats 8000000 in
theorem rhands_tm (l : List Tm) (v : Value) (w0 : World) (hv : Tms w0 v l) (x : Tv) (w : World) (hp : x.t.parts ≤ 100000) (hx : x.ok w0) (hb0 : Below w0.heap.size w0 w) :
    Calls Try.prog 29 #[v, x.val] w (HandPost l x.t w0 w) := by
  have AL := Lib.hid (fun (W : World) (h : Below w.heap.size w W) => all_tm x.t.parts x w0 W (Nat.le_refl _) (by omega) hx (hb0.trans (h.mono hb0.size)))
  have MS := Lib.hid (fun (W : World) (h : Below w.heap.size w W) => missing_tm l v w0 hv x W hp hx (hb0.trans (h.mono hb0.size)))
  have HD := Lib.hid (fun (W : World) (h : Below w.heap.size w W) (hk : okH l x.t = true) => handed_tm l v w0 hv 100000 x W hp (Nat.le_refl _) hx (hb0.trans (h.mono hb0.size)) hk)
  have HB0 := Lib.hid hb0
  obtain ⟨t, ax, cx⟩ := x
  have hz1 : (w.alloc (.cells #[.int .i64 t.kind, .string t.name, .int .i64 t.n, .slice ax t.args.length cx] 25)).heap.size = w.heap.size + 1 := by simp
  have hB2 : Below w.heap.size w ((w.alloc (.cells #[.int .i64 t.kind, .string t.name, .int .i64 t.n, .slice ax t.args.length cx] 25)).alloc (.cells #[.int .i64 0, .string ⟨#[]⟩, .int .i64 0, .slice none 0 0] 25)) := ((Below.refl _ _).alloc (Nat.le_refl _) _).alloc (by rw [hz1]; omega) _
  obtain ⟨wz, hwz⟩ : ∃ wz, wz = ((w.alloc (.cells #[.int .i64 t.kind, .string t.name, .int .i64 t.n, .slice ax t.args.length cx] 25)).alloc (.cells #[.int .i64 0, .string ⟨#[]⟩, .int .i64 0, .slice none 0 0] 25)) := ⟨_, rfl⟩
  have hzs : wz.heap.size = w.heap.size + 2 := by rw [hwz]; simp
  have bX := (box_new w (.int .i64 t.kind) (.string t.name) (.int .i64 t.n) (.slice ax t.args.length cx) 25).below ((Below.refl _ _).alloc (Nat.le_refl _) (.cells #[.int .i64 0, .string ⟨#[]⟩, .int .i64 0, .slice none 0 0] 25)) (by rw [hz1]; omega)
  have bR := box_new (w.alloc (.cells #[.int .i64 t.kind, .string t.name, .int .i64 t.n, .slice ax t.args.length cx] 25)) (.int .i64 0) (.string ⟨#[]⟩) (.int .i64 0) (.slice none 0 0) 25
  rw [hz1] at bR
  rw [← hwz] at bX bR hB2
  have HBX := Lib.hid (fun (V : World) (h : Below wz.heap.size wz V) => bX.below h (by omega))
  have HBR := Lib.hid (fun (V : World) (h : Below wz.heap.size wz V) => bR.below h (by omega))
  have HBZ := Lib.hid hB2
  have HZS := Lib.hid hzs
  have HAL := Lib.hid (show t.all.length ≤ 100000 by rw [all_length]; exact hp)
  have HNE := Lib.hid (show t.all ≠ [] by rw [all_eq]; simp)
  have HOA := Lib.hid (ok_all l t)
  obtain ⟨av, cv, rfl, hlv, _⟩ := hv
  clear hz1 hB2 hzs hx hb0 hp
  obtain ⟨p0, p1, p2, p3, _, _, _, _⟩ := bX
  rw [hwz] at p0 p1 p2 p3
  clear bR
  simp only [Tv.val] at *
  obtain ⟨ts, hts⟩ : ∃ ts, ts = t.all := ⟨_, rfl⟩
  rw [← hts] at AL HAL HNE HOA
  clear hts
  go_enter Try.func29, Try.ntmps29
  go_wp2_with fail
  rw [← hwz]
  clear hwz
  refine (AL.out _ HBZ.out).mono ?_; rintro e w1 ⟨vr, rfl, hov, _, hb1⟩
  have htm := hov.tms (HB0.out.trans ((HBZ.out.trans (hb1.mono HBZ.out.size)).mono HB0.out.size)) (by have := HAL.out; omega)
  obtain ⟨a', c', rfl, hl', hh⟩ := htm.open_
  rcases hh with hh | ⟨b, o, rfl, hblt, hr⟩
  · exact absurd hh HNE.out
  have HR := Lib.hid hr
  have HB1 := Lib.hid hb1
  clear hov hr htm hb1 p0 p1 p2 p3
  go_wp2_with fail
  go_loopw [11] (fun i wr => ∃ q : Nat, q ≤ ts.length ∧ i = .int .i64 q ∧ Hid (∀ j (h : j < ts.length), j < q → oH l ts[j] = true) ∧ Below w1.heap.size w1 wr) (fun i _ => ts.length - (intOf i).toNat)
  case atStart => exact ⟨0, Nat.zero_le _, rfl, Lib.hid (fun j hj hk => by omega), Below.refl _ _⟩
  case round =>
    obtain ⟨q, hq, rfl, HS, hb⟩ := hrel
    have hbz := below_next HB1.out hb
    by_cases hql : q < ts.length
    · obtain ⟨⟨zt, za, zc⟩, hu, _, hat⟩ := HR.out q hql
      obtain ⟨m0, m1, m2, m3⟩ := hat.below hb
      have hq0 : (0 : Int) ≤ (q : Int) := by omega
      have hq1 : (q : Int) < (ts.length : Int) := by omega
      have hqd : decide ((q : Int) < (ts.length : Int)) = true := decide_eq_true hq1
      have HU := Lib.hid hu
      have HBY := Lib.hid (hb.alloc hb.size (.cells #[.int .i64 zt.kind, .string zt.name, .int .i64 zt.n, .slice za zt.args.length zc] 25))
      have HBYZ := Lib.hid (hbz.alloc hbz.size (.cells #[.int .i64 zt.kind, .string zt.name, .int .i64 zt.n, .slice za zt.args.length zc] 25))
      obtain ⟨p0, p1, p2, p3, _, _, _, _⟩ := HBX.out wr hbz
      have hltw : w.heap.size < wr.heap.size := by have := hbz.size; have := HZS.out; omega
      have HBW := Lib.hid (HBZ.out.trans (HBYZ.out.mono HBZ.out.size))
      have HNX := Lib.hid (fun (h : oH l zt = true) => (show ∀ j (h : j < ts.length), j < q + 1 → oH l ts[j] = true from fun j hj hk => by
        by_cases e : j = q
        · subst e; rw [← HU.out]; exact h
        · exact HS.out j hj (by omega)))
      have MSW := Lib.hid (MS.out _ HBW.out)
      simp only at m0 m1 m2 m3
      clear hu hat hb hbz
      have fin : ∀ (w2 : World) (z : Tv), z.t = (if okH l t = true then repT (fH l) t else zeroT) → Fresh w0 (wr.alloc (.cells #[.int .i64 zt.kind, .string zt.name, .int .i64 zt.n, .slice za zt.args.length zc] 25)) w2 z → Below (wr.alloc (.cells #[.int .i64 zt.kind, .string zt.name, .int .i64 zt.n, .slice za zt.args.length zc] 25)).heap.size (wr.alloc (.cells #[.int .i64 zt.kind, .string zt.name, .int .i64 zt.n, .slice za zt.args.length zc] 25)) w2 → ∀ u0 u1 u2 u3, Fresh w0 w ((((w2.setCell ⟨w.heap.size + 1, 0, none⟩ u0).setCell ⟨w.heap.size + 1, 1, none⟩ u1).setCell ⟨w.heap.size + 1, 2, none⟩ u2).setCell ⟨w.heap.size + 1, 3, none⟩ u3) z ∧
          Below w.heap.size w ((((w2.setCell ⟨w.heap.size + 1, 0, none⟩ u0).setCell ⟨w.heap.size + 1, 1, none⟩ u1).setCell ⟨w.heap.size + 1, 2, none⟩ u2).setCell ⟨w.heap.size + 1, 3, none⟩ u3) :=
        fun w2 z _ hf hb2 u0 u1 u2 u3 => hand_sets HBZ.out HZS.out HBYZ.out hf hb2 u0 u1 u2 u3
      have FIN := Lib.hid fin
      clear fin
      cases hk : (zt.kind == 3) with
      | false =>
        have HOK := Lib.hid (HNX.out (by unfold oH; rw [decide_eq_false (by simpa using hk)]; rfl))
        go_wp2_with fail
        go_roundw
        case rel => exact ⟨q + 1, by omega, by go_num, HOK, HBY.out⟩
        case measure => simp [intOf]; omega
      | true =>
        have hk3 : zt.kind = 3 := by simpa using hk
        cases h1 : decide (zt.n < 1) with
        | true =>
          clear hk3
          go_wp2_with fail
          refine MSW.out.mono ?_; rintro e w2 ⟨⟨ty, aY, cY⟩, rfl, hyt, hyf, hb2⟩
          have HYT := Lib.hid hyt
          have hbR := HBR.out w2 (below_next HBYZ.out hb2)
          have BR8 := Lib.hid (hbR.sets (.int .i64 ty.kind) (.string ty.name) (.int .i64 ty.n) (.slice aY ty.args.length cY))
          obtain ⟨q0, q1, q2, q3, f0, f1, f2, f3⟩ := hbR
          have HEND := Lib.hid (FIN.out w2 ⟨ty, aY, cY⟩ hyt hyf hb2 (.int .i64 ty.kind) (.string ty.name) (.int .i64 ty.n) (.slice aY ty.args.length cY))
          obtain ⟨rb, hrb⟩ : ∃ rb, okH l t = rb := ⟨_, rfl⟩
          have HRB := Lib.hid hrb
          simp only [hrb]
          clear hyt hyf hb2 p0 p1 p2 p3 hrb
          simp only [Tv.val]
          go_wp2_with fail
          obtain ⟨q0, q1, q2, q3, f0, f1, f2, f3⟩ := BR8.out
          (try simp only [Exit.inBlock, Exit.then])
          refine bodyPost_ret (v := .tuple #[.agg #[.int .i64 ty.kind, .string ty.name, .int .i64 ty.n, .slice aY ty.args.length cY], .bool rb]) (by simp [results, Try.results29, go_sem, q0, q1, q2, q3]) rfl ?_
          exact ⟨⟨ty, aY, cY⟩, by rw [HRB.out]; rfl, HYT.out, HEND.out.1, HEND.out.2⟩
        | false =>
          cases h2 : decide ((l.length : Int) < zt.n) with
          | true =>
            clear hk3
            go_wp2_with fail
            refine MSW.out.mono ?_; rintro e w2 ⟨⟨ty, aY, cY⟩, rfl, hyt, hyf, hb2⟩
            have HYT := Lib.hid hyt
            have hbR := HBR.out w2 (below_next HBYZ.out hb2)
            have BR8 := Lib.hid (hbR.sets (.int .i64 ty.kind) (.string ty.name) (.int .i64 ty.n) (.slice aY ty.args.length cY))
            obtain ⟨q0, q1, q2, q3, f0, f1, f2, f3⟩ := hbR
            have HEND := Lib.hid (FIN.out w2 ⟨ty, aY, cY⟩ hyt hyf hb2 (.int .i64 ty.kind) (.string ty.name) (.int .i64 ty.n) (.slice aY ty.args.length cY))
            obtain ⟨rb, hrb⟩ : ∃ rb, okH l t = rb := ⟨_, rfl⟩
            have HRB := Lib.hid hrb
            simp only [hrb]
            clear hyt hyf hb2 p0 p1 p2 p3 hrb
            simp only [Tv.val]
            go_wp2_with fail
            obtain ⟨q0, q1, q2, q3, f0, f1, f2, f3⟩ := BR8.out
            (try simp only [Exit.inBlock, Exit.then])
            refine bodyPost_ret (v := .tuple #[.agg #[.int .i64 ty.kind, .string ty.name, .int .i64 ty.n, .slice aY ty.args.length cY], .bool rb]) (by simp [results, Try.results29, go_sem, q0, q1, q2, q3]) rfl ?_
            exact ⟨⟨ty, aY, cY⟩, by rw [HRB.out]; rfl, HYT.out, HEND.out.1, HEND.out.2⟩
          | false =>
            have HOK := Lib.hid (HNX.out (by
              have a1 := of_decide_eq_false h1
              have a2 := of_decide_eq_false h2
              unfold oH; rw [decide_eq_true (p := 1 ≤ zt.n) (by omega), decide_eq_true (p := zt.n ≤ l.length) (by omega)]; simp))
            clear hk3
            go_wp2_with fail
            go_roundw
            case rel => exact ⟨q + 1, by omega, by go_num, HOK, HBY.out⟩
            case measure => simp [intOf]; omega
    · have hqe : q = ts.length := by omega
      have hqd : decide ((q : Int) < (ts.length : Int)) = false := decide_eq_false (by omega)
      have HO := Lib.hid (HOA.out (fun x hx => by
        obtain ⟨j, hj, rfl⟩ := List.getElem_of_mem hx
        exact HS.out j hj (by omega)))
      have HBW := Lib.hid (HBZ.out.trans (hbz.mono HBZ.out.size))
      have HBZR := Lib.hid hbz
      obtain ⟨p0, p1, p2, p3, _, _, _, _⟩ := HBX.out wr hbz
      clear hqe hb hbz
      go_wp2_with fail
      refine (HD.out _ HBW.out HO.out).mono ?_; rintro e w2 ⟨⟨ty, aY, cY⟩, rfl, hyt, hyf, hb2⟩
      have HYT := Lib.hid hyt
      have hbR := HBR.out w2 (below_next HBZR.out hb2)
      have BR8 := Lib.hid (hbR.sets (.int .i64 ty.kind) (.string ty.name) (.int .i64 ty.n) (.slice aY ty.args.length cY))
      obtain ⟨q0, q1, q2, q3, f0, f1, f2, f3⟩ := hbR
      have HEND := Lib.hid (hand_sets HBZ.out HZS.out HBZR.out hyf hb2 (.int .i64 ty.kind) (.string ty.name) (.int .i64 ty.n) (.slice aY ty.args.length cY))
      clear hyt hyf hb2 p0 p1 p2 p3
      simp only [Tv.val]
      go_wp2_with fail
      obtain ⟨q0, q1, q2, q3, f0, f1, f2, f3⟩ := BR8.out
      refine bodyPost_ret (v := .tuple #[.agg #[.int .i64 ty.kind, .string ty.name, .int .i64 ty.n, .slice aY ty.args.length cY], .bool true]) (by simp [results, Try.results29, go_sem, q0, q1, q2, q3]) rfl ?_
      exact ⟨⟨ty, aY, cY⟩, by rw [HO.out]; rfl, by rw [HO.out]; exact HYT.out, HEND.out.1, HEND.out.2⟩
end Go.Proofs.Ytcoaneipajadiaa
