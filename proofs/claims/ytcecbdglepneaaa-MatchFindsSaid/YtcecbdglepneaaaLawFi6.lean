/-
  The binds by which any pattern is any term: the law answers true, from what the program's More, Match and Instance answer.
-/
import Derived.Test.YtcecbdglepneaaaAwakeMt
import Derived.Test.YtcecbdglepneaaaRInst
import Derived.Test.YtcecbdglepneaaaFewBd
import Derived.Test.YtcecbdglepneaaaREqual
namespace Go.Proofs.Ytcecbdglepneaaa
open Go.RowKit

set_option maxRecDepth 100000 in
set_option maxHeartbeats 4000000 in
theorem lawFinds_of6 (PO : ∀ (x y : Tv) (v : Value) (l : List Bn) (w : World), x.ok w → y.ok w → Bds w v l → l.length ≤ 40 → x.t.parts ≤ 300 → y.t.parts ≤ 300 → Calls Try.prog 10 #[v, x.val, y.val] w (MorePost (moreT x.t y.t l) w))
    (PM : ∀ (x y : Tv) (w : World), x.ok w → y.ok w → x.t.parts ≤ 6000 → y.t.parts ≤ 6000 → Calls Try.prog 12 #[x.val, y.val] w (MorePost (moreT x.t y.t []) w))
    (PI : ∀ (x y : Tv) (w : World), x.ok w → y.ok w → x.t.parts ≤ 300 → y.t.parts ≤ 300 → Calls Try.prog 14 #[x.val, y.val] w fun e w' => e = .returned (.bool (moreT x.t y.t []).isSome) ∧ Below w.heap.size w w')
    (v : Value) (bs : List Bn) (x y : Tv) (w : World) (hv : Bds w v bs) (hx : x.ok w) (hy : y.ok w) :
    Calls Try.prog 3 #[v, x.val, y.val] w fun e w' => e = .returned (.bool true) ∧ Below w.heap.size w w' := by
  have AW := Lib.hid (fun W => awake_of6 PM W)
  have FW := Lib.hid (fun (W : World) (h : Below w.heap.size w W) => few_any v bs W (hv.below h))
  have SX := Lib.hid (fun (W : World) (h : Below w.heap.size w W) => small_tm x W (hx.below h))
  have SY := Lib.hid (fun (W : World) (h : Below w.heap.size w W) => small_tm y W (hy.below h))
  have MO := Lib.hid (fun (hl : bs.length ≤ 40) (h1 : x.t.parts ≤ 300) (h2 : y.t.parts ≤ 300) (W : World) (h : Below w.heap.size w W) => PO x y v bs W (hx.below h) (hy.below h) (hv.below h) hl h1 h2)
  have RM := Lib.hid (fun (hl : bs.length ≤ 40) (h1 : x.t.parts ≤ 300) (W : World) (h : Below w.heap.size w W) => rmore_tm 300 x y v bs W h1 (hx.below h) (hy.below h) (hv.below h) (by omega))
  have MA := Lib.hid (fun (h1 : x.t.parts ≤ 300) (h2 : y.t.parts ≤ 300) (W : World) (h : Below w.heap.size w W) => PM x y W (hx.below h) (hy.below h) (by omega) (by omega))
  have RN := Lib.hid (fun (h1 : x.t.parts ≤ 300) (W : World) (h : Below w.heap.size w W) => rmore_tm 300 x y (.slice none 0 0) [] W h1 (hx.below h) (hy.below h) (Bds.none_ _ _ _) (by simp; omega))
  have IN := Lib.hid (fun (h1 : x.t.parts ≤ 300) (h2 : y.t.parts ≤ 300) (W : World) (h : Below w.heap.size w W) => PI x y W (hx.below h) (hy.below h) h1 h2)
  have EQ := Lib.hid (fun (u v : Value) (cs : List Bn) (W : World) (h1 : Bds W u cs) (h2 : Bds W v cs) => (show Calls Try.prog 13 #[u, v] W (fun e w' => e = Ending.returned (.bool true) ∧ Below W.heap.size W w') from by have := requal_any u v cs cs W h1 h2; rwa [eqB_self] at this))
  clear hx hy PO PM PI
  obtain ⟨a, c, rfl, _, _⟩ := hv
  obtain ⟨o1, ho1⟩ : ∃ o1, moreT x.t y.t bs = o1 := ⟨_, rfl⟩
  obtain ⟨o2, ho2⟩ : ∃ o2, moreT x.t y.t [] = o2 := ⟨_, rfl⟩
  rw [ho1] at MO RM
  rw [ho2] at MA RN IN
  clear ho1 ho2
  obtain ⟨b1, hb1⟩ : ∃ b1, o1.isSome = b1 := ⟨_, rfl⟩
  obtain ⟨b2, hb2⟩ : ∃ b2, o2.isSome = b2 := ⟨_, rfl⟩
  unfold MorePost at MO RM MA RN
  rw [hb1] at MO RM
  rw [hb2] at MA RN IN
  have e1 : (b1 == b1) = true := by cases b1 <;> rfl
  have e2 : (b2 == b2) = true := by cases b2 <;> rfl
  clear hb1 hb2
  obtain ⟨xt, xa, xc⟩ := x
  obtain ⟨yt, ya, yc⟩ := y
  have bX := (box_new w (.int .i64 xt.kind) (.string xt.name) (.int .i64 xt.n) (.slice xa xt.args.length xc) 25).below ((Below.refl _ _).alloc (Nat.le_refl _) (.cells #[.int .i64 yt.kind, .string yt.name, .int .i64 yt.n, .slice ya yt.args.length yc] 25)) (by simp)
  have bY := alloc_two w (.cells #[.int .i64 xt.kind, .string xt.name, .int .i64 xt.n, .slice xa xt.args.length xc] 25) (.int .i64 yt.kind) (.string yt.name) (.int .i64 yt.n) (.slice ya yt.args.length yc) 25
  have hB2 := below_two w (.cells #[.int .i64 xt.kind, .string xt.name, .int .i64 xt.n, .slice xa xt.args.length xc] 25) (.cells #[.int .i64 yt.kind, .string yt.name, .int .i64 yt.n, .slice ya yt.args.length yc] 25)
  obtain ⟨wz, hwz⟩ : ∃ wz, wz = ((w.alloc (.cells #[.int .i64 xt.kind, .string xt.name, .int .i64 xt.n, .slice xa xt.args.length xc] 25)).alloc (.cells #[.int .i64 yt.kind, .string yt.name, .int .i64 yt.n, .slice ya yt.args.length yc] 25)) := ⟨_, rfl⟩
  have hzs : wz.heap.size = w.heap.size + 2 := by rw [hwz]; simp
  rw [← hwz] at bX bY hB2
  have HBX := Lib.hid (fun (V : World) (h : Below wz.heap.size wz V) => bX.below h (by omega))
  have HBY := Lib.hid (fun (V : World) (h : Below wz.heap.size wz V) => bY.below h (by omega))
  have HW := Lib.hid (fun (V : World) (h : Below wz.heap.size wz V) => below_next hB2 h)
  clear bX bY hB2 hzs
  simp only [Tv.val] at *
  go_enter Try.func3, Try.ntmps3
  go_wp2_with fail
  rw [← hwz]
  clear hwz
  refine (AW.out _).mono ?_; rintro e w1 ⟨rfl, hb1⟩
  go_wp2_with fail
  refine (FW.out _ (HW.out _ hb1)).mono ?_; rintro e w2 ⟨rfl, hb2⟩
  have H2 := Lib.hid (below_next hb1 hb2)
  clear hb1 hb2
  cases hf : fewB bs with
  | false =>
    go_wp2_with fail
    go_ret
    exact ⟨rfl, HW.out _ H2.out⟩
  | true =>
  obtain ⟨p0, p1, p2, p3, _, _, _, _⟩ := HBX.out w2 H2.out
  go_wp2_with fail
  refine (SX.out _ (HW.out _ H2.out)).mono ?_; rintro e w3 ⟨rfl, hb3⟩
  have H3 := Lib.hid (below_next H2.out hb3)
  clear hb3 p0 p1 p2 p3
  cases hs : smallB xt with
  | false =>
    go_wp2_with fail
    go_ret
    exact ⟨rfl, HW.out _ H3.out⟩
  | true =>
  obtain ⟨q0, q1, q2, q3, _, _, _, _⟩ := HBY.out w3 H3.out
  go_wp2_with fail
  refine (SY.out _ (HW.out _ H3.out)).mono ?_; rintro e w4 ⟨rfl, hb4⟩
  have H4 := Lib.hid (below_next H3.out hb4)
  clear hb4 q0 q1 q2 q3
  cases ht : smallB yt with
  | false =>
    go_wp2_with fail
    go_ret
    exact ⟨rfl, HW.out _ H4.out⟩
  | true =>
  have M1 := Lib.hid (MO.out (few_of hf).1 (small_parts hs) (small_parts ht))
  have R1 := Lib.hid (RM.out (few_of hf).1 (small_parts hs))
  have M2 := Lib.hid (MA.out (small_parts hs) (small_parts ht))
  have R2 := Lib.hid (RN.out (small_parts hs))
  have I1 := Lib.hid (IN.out (small_parts hs) (small_parts ht))
  clear MO RM MA RN IN hf hs ht H2 H3 AW FW SX SY
  obtain ⟨p0, p1, p2, p3, _, _, _, _⟩ := HBX.out w4 H4.out
  obtain ⟨q0, q1, q2, q3, _, _, _, _⟩ := HBY.out w4 H4.out
  go_wp2_with fail
  refine (M1.out _ (HW.out _ H4.out)).mono ?_; rintro e w5 ⟨u5, rfl, hu5, hb5⟩
  have H5 := Lib.hid (below_next H4.out hb5)
  have U5 := Lib.hid hu5
  obtain ⟨a5, c5, rfl, _, _⟩ := hu5
  clear hb5 p0 p1 p2 p3 q0 q1 q2 q3
  obtain ⟨p0, p1, p2, p3, _, _, _, _⟩ := HBX.out w5 H5.out
  obtain ⟨q0, q1, q2, q3, _, _, _, _⟩ := HBY.out w5 H5.out
  go_wp2_with fail
  refine (R1.out _ (HW.out _ H5.out)).mono ?_; rintro e w6 ⟨u6, rfl, hu6, hb6⟩
  have H6 := Lib.hid (below_next H5.out hb6)
  have U6 := Lib.hid hu6
  have V6 := Lib.hid (U5.out.below hb6)
  obtain ⟨a6, c6, rfl, _, _⟩ := hu6
  clear hb6 p0 p1 p2 p3 q0 q1 q2 q3 U5
  obtain ⟨p0, p1, p2, p3, _, _, _, _⟩ := HBX.out w6 H6.out
  obtain ⟨q0, q1, q2, q3, _, _, _, _⟩ := HBY.out w6 H6.out
  go_wp2_with fail
  refine (M2.out _ (HW.out _ H6.out)).mono ?_; rintro e w7 ⟨u7, rfl, hu7, hb7⟩
  have H7 := Lib.hid (below_next H6.out hb7)
  have U7 := Lib.hid hu7
  have V7 := Lib.hid (And.intro (U6.out.below hb7) (V6.out.below hb7))
  obtain ⟨a7, c7, rfl, _, _⟩ := hu7
  clear hb7 p0 p1 p2 p3 q0 q1 q2 q3 U6 V6
  obtain ⟨p0, p1, p2, p3, _, _, _, _⟩ := HBX.out w7 H7.out
  obtain ⟨q0, q1, q2, q3, _, _, _, _⟩ := HBY.out w7 H7.out
  go_wp2_with fail
  refine (R2.out _ (HW.out _ H7.out)).mono ?_; rintro e w8 ⟨u8, rfl, hu8, hb8⟩
  have H8 := Lib.hid (below_next H7.out hb8)
  have U8 := Lib.hid (And.intro hu8 (U7.out.below hb8))
  have E8 := Lib.hid (EQ.out _ _ _ w8 (V7.out.2.below hb8) (V7.out.1.below hb8))
  obtain ⟨a8, c8, rfl, _, _⟩ := hu8
  clear hb8 p0 p1 p2 p3 q0 q1 q2 q3 U7 V7
  go_wp2_with fail
  refine E8.out.mono ?_; rintro e w9 ⟨rfl, hb9⟩
  have H9 := Lib.hid (below_next H8.out hb9)
  have E9 := Lib.hid (EQ.out _ _ _ w9 (U8.out.2.below hb9) (U8.out.1.below hb9))
  clear hb9 E8 U8
  go_wp2_with fail
  refine E9.out.mono ?_; rintro e w10 ⟨rfl, hb10⟩
  have H10 := Lib.hid (below_next H9.out hb10)
  clear hb10 E9
  obtain ⟨p0, p1, p2, p3, _, _, _, _⟩ := HBX.out w10 H10.out
  obtain ⟨q0, q1, q2, q3, _, _, _, _⟩ := HBY.out w10 H10.out
  go_wp2_with fail
  refine (I1.out _ (HW.out _ H10.out)).mono ?_; rintro e w11 ⟨rfl, hb11⟩
  have H11 := Lib.hid (below_next H10.out hb11)
  clear hb11 p0 p1 p2 p3 q0 q1 q2 q3
  go_wp2_with fail
  go_ret
  exact ⟨rfl, HW.out _ H11.out⟩
end Go.Proofs.Ytcecbdglepneaaa
