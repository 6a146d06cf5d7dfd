/-
  The binds by which patterns are terms, by the program: All, More, Match, Instance, Variant.
-/
import Derived.Test.YtcecbdglepneaaaPFit
import Derived.Test.YtcecbdglepneaaaPKnowing
import Derived.Test.YtcecbdglepneaaaRMat
namespace Go.Proofs.Ytcecbdglepneaaa
open Go.RowKit Go.Maps

set_option maxRecDepth 100000 in
set_option maxHeartbeats 4000000 in
theorem pall_any (v va vb : Value) (ps ts : List Tm) (l : List Bn) (w : World) (ha : Tms w va ps) (hb : Tms w vb ts) (hv : Bds w v l) (hl : l.length + 1 + 2 * partsL ps ≤ 1000000) :
    Calls Try.prog 20 #[v, va, vb] w (MorePost (moreL ps ts l) w) := by
  have KN := Lib.hid (knowing_any v l w w hv (Below.refl _ _) (by omega))
  have HOL := Lib.hid (ofB_length l)
  have HML := Lib.hid (moreL_of ps ts l)
  obtain ⟨av, cv, rfl, _, _⟩ := hv
  obtain ⟨aa, ca, rfl, hra⟩ := ha
  obtain ⟨ab, cb, rfl, hrb⟩ := hb
  by_cases hn : ps.length = ts.length
  · have hln : ((ps.length : Int) != (ts.length : Int)) = false := by rw [hn]; simp
    have hle : ((ps.length : Int) == (ts.length : Int)) = true := by rw [hn]; simp
    have FT := Lib.hid (fun (w1 : World) (kb bm : Nat) (h : KnAt w w1 w.heap.size kb bm (ofB l)) (hb : Below w.heap.size w w1) => fit_any w w1 w.heap.size kb bm (ofB l) ⟨aa, ca, ps, ab, cb, ts⟩ h ⟨hn, hra, hrb⟩ hb (Nat.le_refl _) hb.size (by have := HOL.out; simp only; omega))
    simp only at FT
    rw [HML.out] at FT
    obtain ⟨R, hR⟩ : ∃ R, moreL ps ts l = R := ⟨_, rfl⟩
    rw [hR] at FT ⊢
    clear hn hra hrb HML hR hl HOL
    go_enter Try.func20, Try.ntmps20
    go_wp2_with fail
    refine KN.out.mono ?_; rintro e w1 ⟨kb, bm, rfl, hK, hb1⟩
    have F1 := Lib.hid (FT.out w1 kb bm hK hb1)
    have HB1 := Lib.hid hb1
    clear hK hb1 FT KN
    unfold FitPost at F1
    cases R with
    | none =>
      simp only [Option.isSome_none] at F1
      go_wp2_with fail
      refine F1.out.mono ?_; rintro e w2 ⟨rfl, hb2, _⟩
      have HB2 := Lib.hid (HB1.out.trans hb2)
      clear hb2
      go_wp2_with fail
      go_ret2
      exact ⟨_, rfl, Bds.none_ _ _ _, HB2.out⟩
    | some m =>
      simp only [Option.isSome_some] at F1
      go_wp2_with fail
      refine F1.out.mono ?_; rintro e w2 ⟨rfl, hb2, hm⟩
      obtain ⟨l', hK, hl', rfl⟩ := hm m rfl
      have HB2 := Lib.hid (HB1.out.trans hb2)
      obtain ⟨a2, c2, hkb, hrow⟩ := hK.open_
      obtain ⟨p0, p1, _, _⟩ := known_cells hkb
      have O2 := Lib.hid (of_bd (.slice a2 l'.length c2) l' w2 w2 (hrow.bds HB2.out (by omega)) (Below.refl _ _) (by omega))
      have HL := Lib.hid (ofB_length l')
      have HLL := Lib.hid hl'
      clear hb2 hm hK hkb hrow hl'
      go_wp2_with fail
      refine O2.out.mono ?_; rintro e w3 ⟨u3, rfl, hu3, hb3⟩
      have HU := Lib.hid (hu3.bds hb3 (by have := HL.out; have := HLL.out; omega))
      have HB3 := Lib.hid (HB2.out.trans (hb3.mono HB2.out.size))
      obtain ⟨a3, c3, rfl, _, _⟩ := HU.out
      clear hu3 hb3
      go_wp2_with fail
      go_ret2
      exact ⟨_, rfl, HU.out, HB3.out⟩
  · have hln : ((ps.length : Int) != (ts.length : Int)) = true := by simp; omega
    have hle : ((ps.length : Int) == (ts.length : Int)) = false := by simp; omega
    have HF := Lib.hid (moreL_short (l := l) hn)
    clear hn
    go_enter Try.func20, Try.ntmps20
    go_wp2_with fail
    go_ret2
    rw [HF.out]
    exact ⟨_, rfl, Bds.none_ _ _ _, Below.refl _ _⟩
theorem moreL_single (x y : Tm) (l : List Bn) : moreL [x] [y] l = moreT x y l := by
  rw [moreL_cons]
  cases hm : moreT x y l with
  | none => rfl
  | some m => show moreL [] [] m = some m; rw [moreL_nil, moreT_rise hm]
theorem tms_one (w : World) (x : Tv) (hx : x.ok w) (t : TypeId) : Tms (w.alloc (.cells #[.int .i64 x.t.kind, .string x.t.name, .int .i64 x.t.n, .slice x.a x.t.args.length x.c] t)) (.slice (some ⟨w.heap.size, 0, none⟩) 1 1) [x.t] := by
  have hb : Below w.heap.size w (w.alloc (.cells #[.int .i64 x.t.kind, .string x.t.name, .int .i64 x.t.n, .slice x.a x.t.args.length x.c] t)) := (Below.refl _ _).alloc (Nat.le_refl _) _
  refine ⟨_, 1, rfl, by simp, .inr ⟨w.heap.size, 0, rfl, by simp, ?_⟩⟩
  rw [RowAt, RowAt]
  have c := World.cell?_alloc_mark w #[.int .i64 x.t.kind, .string x.t.name, .int .i64 x.t.n, .slice x.a x.t.args.length x.c] t (0, 0)
  exact ⟨tv_tmAt (hx.below hb) ⟨c 0, c 1, c 2, c 3⟩, trivial⟩

set_option maxRecDepth 100000 in
set_option maxHeartbeats 4000000 in
theorem pmore_any (x y : Tv) (v : Value) (l : List Bn) (w : World) (hx : x.ok w) (hy : y.ok w) (hv : Bds w v l) (hl : l.length + 1 + 2 * x.t.parts ≤ 1000000) :
    Calls Try.prog 10 #[v, x.val, y.val] w (MorePost (moreT x.t y.t l) w) := by
  rw [← moreL_single]
  obtain ⟨xt, xa, xc⟩ := x
  obtain ⟨yt, ya, yc⟩ := y
  have AL := Lib.hid (fun (W : World) (va vb : Value) (ha : Tms W va [xt]) (hb : Tms W vb [yt]) (h : Below w.heap.size w W) => pall_any v va vb [xt] [yt] l W ha hb (hv.below h) (by rw [partsL_cons, partsL_nil]; simp only at hl; omega))
  have bX := (box_new w (.int .i64 xt.kind) (.string xt.name) (.int .i64 xt.n) (.slice xa xt.args.length xc) 25).below ((Below.refl _ _).alloc (Nat.le_refl _) (.cells #[.int .i64 yt.kind, .string yt.name, .int .i64 yt.n, .slice ya yt.args.length yc] 25)) (by simp)
  have bY := alloc_two w (.cells #[.int .i64 xt.kind, .string xt.name, .int .i64 xt.n, .slice xa xt.args.length xc] 25) (.int .i64 yt.kind) (.string yt.name) (.int .i64 yt.n) (.slice ya yt.args.length yc) 25
  have hB2 := below_two w (.cells #[.int .i64 xt.kind, .string xt.name, .int .i64 xt.n, .slice xa xt.args.length xc] 25) (.cells #[.int .i64 yt.kind, .string yt.name, .int .i64 yt.n, .slice ya yt.args.length yc] 25)
  obtain ⟨wz, hwz⟩ : ∃ wz, wz = ((w.alloc (.cells #[.int .i64 xt.kind, .string xt.name, .int .i64 xt.n, .slice xa xt.args.length xc] 25)).alloc (.cells #[.int .i64 yt.kind, .string yt.name, .int .i64 yt.n, .slice ya yt.args.length yc] 25)) := ⟨_, rfl⟩
  have hzs : wz.heap.size = w.heap.size + 1 + 1 := by rw [hwz]; simp
  rw [← hwz] at bX bY hB2
  have TX := tms_one wz ⟨xt, xa, xc⟩ (hx.below hB2) 25
  have hB3 : Below wz.heap.size wz (wz.alloc (.cells #[.int .i64 xt.kind, .string xt.name, .int .i64 xt.n, .slice xa xt.args.length xc] 25)) := (Below.refl _ _).alloc (Nat.le_refl _) _
  have TY := tms_one (wz.alloc (.cells #[.int .i64 xt.kind, .string xt.name, .int .i64 xt.n, .slice xa xt.args.length xc] 25)) ⟨yt, ya, yc⟩ (hy.below (below_next hB2 hB3)) 25
  have hB4 : Below wz.heap.size wz ((wz.alloc (.cells #[.int .i64 xt.kind, .string xt.name, .int .i64 xt.n, .slice xa xt.args.length xc] 25)).alloc (.cells #[.int .i64 yt.kind, .string yt.name, .int .i64 yt.n, .slice ya yt.args.length yc] 25)) := hB3.alloc hB3.size _
  have hz1 : (wz.alloc (.cells #[.int .i64 xt.kind, .string xt.name, .int .i64 xt.n, .slice xa xt.args.length xc] 25)).heap.size = wz.heap.size + 1 := by simp
  rw [hz1] at TY
  rw [hzs] at TX TY
  simp only at TX TY
  have CT := Lib.hid (AL.out _ _ _ (TX.below ((Below.refl _ _).alloc (Nat.le_refl _) _)) TY (below_next hB2 hB4))
  have HB4 := Lib.hid (below_next hB2 hB4)
  obtain ⟨p0, p1, p2, p3, _, _, _, _⟩ := bX
  obtain ⟨q0, q1, q2, q3, _, _, _, _⟩ := bY
  have hg1 : w.heap.size < wz.heap.size := by omega
  have hg2 : w.heap.size + 1 < wz.heap.size := by omega
  obtain ⟨av, cv, rfl, _, _⟩ := hv
  obtain ⟨R, hR⟩ : ∃ R, moreL [xt] [yt] l = R := ⟨_, rfl⟩
  simp only at *
  rw [hR] at CT ⊢
  clear hx hy hl hB2 hB3 hB4 hz1 hzs TX TY AL hR
  simp only [Tv.val]
  go_enter Try.func10, Try.ntmps10
  go_wp2_with fail
  rw [← hwz]
  refine CT.out.mono ?_; rintro e w3 ⟨u3, rfl, hu3, hb3⟩
  have HU := Lib.hid hu3
  have HB := Lib.hid (HB4.out.trans (hb3.mono HB4.out.size))
  obtain ⟨a3, c3, rfl, _, _⟩ := hu3
  clear hb3 hwz p0 p1 p2 p3 q0 q1 q2 q3
  go_wp2_with fail
  go_ret2
  exact ⟨_, rfl, HU.out, HB.out⟩

set_option maxRecDepth 100000 in
set_option maxHeartbeats 4000000 in
theorem pmatch_any (x y : Tv) (w : World) (hx : x.ok w) (hy : y.ok w) (hl : 1 + 2 * x.t.parts ≤ 1000000) :
    Calls Try.prog 12 #[x.val, y.val] w (MorePost (moreT x.t y.t []) w) := by
  have MO := Lib.hid (fun (W : World) (h : Below w.heap.size w W) => pmore_any x y (.slice none 0 0) [] W (hx.below h) (hy.below h) (Bds.none_ _ _ _) (by simpa using hl))
  obtain ⟨xt, xa, xc⟩ := x
  obtain ⟨yt, ya, yc⟩ := y
  have bX := (box_new w (.int .i64 xt.kind) (.string xt.name) (.int .i64 xt.n) (.slice xa xt.args.length xc) 25).below ((Below.refl _ _).alloc (Nat.le_refl _) (.cells #[.int .i64 yt.kind, .string yt.name, .int .i64 yt.n, .slice ya yt.args.length yc] 25)) (by simp)
  have bY := alloc_two w (.cells #[.int .i64 xt.kind, .string xt.name, .int .i64 xt.n, .slice xa xt.args.length xc] 25) (.int .i64 yt.kind) (.string yt.name) (.int .i64 yt.n) (.slice ya yt.args.length yc) 25
  have hB2 := below_two w (.cells #[.int .i64 xt.kind, .string xt.name, .int .i64 xt.n, .slice xa xt.args.length xc] 25) (.cells #[.int .i64 yt.kind, .string yt.name, .int .i64 yt.n, .slice ya yt.args.length yc] 25)
  have CT := Lib.hid (MO.out _ hB2)
  have HB2 := Lib.hid hB2
  obtain ⟨p0, p1, p2, p3, _, _, _, _⟩ := bX
  obtain ⟨q0, q1, q2, q3, _, _, _, _⟩ := bY
  obtain ⟨R, hR⟩ : ∃ R, moreT xt yt [] = R := ⟨_, rfl⟩
  simp only at *
  rw [hR] at CT ⊢
  clear hx hy hl hB2 MO hR
  simp only [Tv.val] at CT ⊢
  go_enter Try.func12, Try.ntmps12
  go_wp2_with fail
  refine CT.out.mono ?_; rintro e w3 ⟨u3, rfl, hu3, hb3⟩
  have HU := Lib.hid hu3
  have HB := Lib.hid (HB2.out.trans (hb3.mono HB2.out.size))
  obtain ⟨a3, c3, rfl, _, _⟩ := hu3
  clear hb3 p0 p1 p2 p3 q0 q1 q2 q3
  go_wp2_with fail
  go_ret2
  exact ⟨_, rfl, HU.out, HB.out⟩

set_option maxRecDepth 100000 in
set_option maxHeartbeats 4000000 in
theorem pinstance_any (x y : Tv) (w : World) (hx : x.ok w) (hy : y.ok w) (hl : 1 + 2 * x.t.parts ≤ 1000000) :
    Calls Try.prog 14 #[x.val, y.val] w fun e w' => e = .returned (.bool (moreT x.t y.t []).isSome) ∧ Below w.heap.size w w' := by
  have MO := Lib.hid (fun (W : World) (h : Below w.heap.size w W) => pmatch_any x y W (hx.below h) (hy.below h) hl)
  obtain ⟨xt, xa, xc⟩ := x
  obtain ⟨yt, ya, yc⟩ := y
  have bX := (box_new w (.int .i64 xt.kind) (.string xt.name) (.int .i64 xt.n) (.slice xa xt.args.length xc) 25).below ((Below.refl _ _).alloc (Nat.le_refl _) (.cells #[.int .i64 yt.kind, .string yt.name, .int .i64 yt.n, .slice ya yt.args.length yc] 25)) (by simp)
  have bY := alloc_two w (.cells #[.int .i64 xt.kind, .string xt.name, .int .i64 xt.n, .slice xa xt.args.length xc] 25) (.int .i64 yt.kind) (.string yt.name) (.int .i64 yt.n) (.slice ya yt.args.length yc) 25
  have hB2 := below_two w (.cells #[.int .i64 xt.kind, .string xt.name, .int .i64 xt.n, .slice xa xt.args.length xc] 25) (.cells #[.int .i64 yt.kind, .string yt.name, .int .i64 yt.n, .slice ya yt.args.length yc] 25)
  have CT := Lib.hid (MO.out _ hB2)
  have HB2 := Lib.hid hB2
  obtain ⟨p0, p1, p2, p3, _, _, _, _⟩ := bX
  obtain ⟨q0, q1, q2, q3, _, _, _, _⟩ := bY
  obtain ⟨R, hR⟩ : ∃ R, moreT xt yt [] = R := ⟨_, rfl⟩
  simp only at *
  rw [hR] at CT ⊢
  clear hx hy hl hB2 MO hR
  simp only [Tv.val] at CT ⊢
  go_enter Try.func14, Try.ntmps14
  go_wp2_with fail
  refine CT.out.mono ?_; rintro e w3 ⟨u3, rfl, hu3, hb3⟩
  have HB := Lib.hid (HB2.out.trans (hb3.mono HB2.out.size))
  obtain ⟨a3, c3, rfl, _, _⟩ := hu3
  clear hb3 p0 p1 p2 p3 q0 q1 q2 q3
  go_wp2_with fail
  go_ret
  exact ⟨rfl, HB.out⟩

set_option maxRecDepth 100000 in
set_option maxHeartbeats 4000000 in
theorem pvariant_any (x y : Tv) (w : World) (hx : x.ok w) (hy : y.ok w) (hl : 1 + 2 * x.t.parts ≤ 1000000) (hm : 1 + 2 * y.t.parts ≤ 1000000) :
    Calls Try.prog 23 #[x.val, y.val] w fun e w' => e = .returned (.bool ((moreT x.t y.t []).isSome && (moreT y.t x.t []).isSome)) ∧ Below w.heap.size w w' := by
  have M1 := Lib.hid (fun (W : World) (h : Below w.heap.size w W) => pinstance_any x y W (hx.below h) (hy.below h) hl)
  have M2 := Lib.hid (fun (W : World) (h : Below w.heap.size w W) => pinstance_any y x W (hy.below h) (hx.below h) hm)
  obtain ⟨xt, xa, xc⟩ := x
  obtain ⟨yt, ya, yc⟩ := y
  have bX := (box_new w (.int .i64 xt.kind) (.string xt.name) (.int .i64 xt.n) (.slice xa xt.args.length xc) 25).below ((Below.refl _ _).alloc (Nat.le_refl _) (.cells #[.int .i64 yt.kind, .string yt.name, .int .i64 yt.n, .slice ya yt.args.length yc] 25)) (by simp)
  have bY := alloc_two w (.cells #[.int .i64 xt.kind, .string xt.name, .int .i64 xt.n, .slice xa xt.args.length xc] 25) (.int .i64 yt.kind) (.string yt.name) (.int .i64 yt.n) (.slice ya yt.args.length yc) 25
  have hB2 := below_two w (.cells #[.int .i64 xt.kind, .string xt.name, .int .i64 xt.n, .slice xa xt.args.length xc] 25) (.cells #[.int .i64 yt.kind, .string yt.name, .int .i64 yt.n, .slice ya yt.args.length yc] 25)
  obtain ⟨wz, hwz⟩ : ∃ wz, wz = ((w.alloc (.cells #[.int .i64 xt.kind, .string xt.name, .int .i64 xt.n, .slice xa xt.args.length xc] 25)).alloc (.cells #[.int .i64 yt.kind, .string yt.name, .int .i64 yt.n, .slice ya yt.args.length yc] 25)) := ⟨_, rfl⟩
  rw [← hwz] at bX bY hB2
  have C1 := Lib.hid (M1.out wz hB2)
  have C2 := Lib.hid (fun (W : World) (h : Below wz.heap.size wz W) => M2.out W (below_next hB2 h))
  have HBX := Lib.hid (fun (V : World) (h : Below wz.heap.size wz V) => And.intro (bX.below h (lt_of_cell bX.c0)) (bY.below h (lt_of_cell bY.c0)))
  have HB2 := Lib.hid hB2
  obtain ⟨p0, p1, p2, p3, _, _, _, _⟩ := bX
  obtain ⟨q0, q1, q2, q3, _, _, _, _⟩ := bY
  obtain ⟨b1, hb1⟩ : ∃ b1, (moreT xt yt []).isSome = b1 := ⟨_, rfl⟩
  obtain ⟨b2, hb2⟩ : ∃ b2, (moreT yt xt []).isSome = b2 := ⟨_, rfl⟩
  simp only at *
  rw [hb1] at C1 ⊢
  rw [hb2] at C2 ⊢
  clear hx hy hl hm hB2 M1 M2 hb1 hb2
  simp only [Tv.val] at C1 C2 ⊢
  cases b1 with
  | false =>
    go_enter Try.func23, Try.ntmps23
    go_wp2_with fail
    rw [← hwz]
    refine C1.out.mono ?_; rintro e w3 ⟨rfl, hb3⟩
    have HB := Lib.hid (below_next HB2.out hb3)
    clear hb3 hwz p0 p1 p2 p3 q0 q1 q2 q3
    go_wp2_with fail
    go_ret
    exact ⟨rfl, HB.out⟩
  | true =>
    go_enter Try.func23, Try.ntmps23
    go_wp2_with fail
    rw [← hwz]
    refine C1.out.mono ?_; rintro e w3 ⟨rfl, hb3⟩
    have C := Lib.hid (C2.out w3 hb3)
    have HB := Lib.hid (below_next HB2.out hb3)
    clear hwz p0 p1 p2 p3 q0 q1 q2 q3
    obtain ⟨⟨p0, p1, p2, p3, _, _, _, _⟩, ⟨q0, q1, q2, q3, _, _, _, _⟩⟩ := HBX.out w3 hb3
    clear hb3
    go_wp2_with fail
    refine C.out.mono ?_; rintro e w4 ⟨rfl, hb4⟩
    have HB4 := Lib.hid (below_next HB.out hb4)
    clear hb4 p0 p1 p2 p3 q0 q1 q2 q3
    go_wp2_with fail
    go_ret
    exact ⟨rfl, HB4.out⟩
end Go.Proofs.Ytcecbdglepneaaa
