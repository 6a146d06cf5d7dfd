/-
  Whether two rows of binds are alike, by the program: alike, the library's EqualFunc, Same.
-/
import Derived.Test.YtcoaneipajadiaaPWith
import Derived.Test.YtcoaneipajadiaaREqual
namespace Go.Proofs.Ytcoaneipajadiaa
open Go.RowKit Go.Shelf Go.Lib Go.Sort

/-- Two new boxes of binds. -/
theorem two_boxes (w : World) (x y : Bv) :
    BvAt ((w.alloc (.cells #[.string x.s, .int .i64 x.v.t.kind, .string x.v.t.name, .int .i64 x.v.t.n, .slice x.v.a x.v.t.args.length x.v.c] 50)).alloc (.cells #[.string y.s, .int .i64 y.v.t.kind, .string y.v.t.name, .int .i64 y.v.t.n, .slice y.v.a y.v.t.args.length y.v.c] 50)) w.heap.size 0 x ∧
    BvAt ((w.alloc (.cells #[.string x.s, .int .i64 x.v.t.kind, .string x.v.t.name, .int .i64 x.v.t.n, .slice x.v.a x.v.t.args.length x.v.c] 50)).alloc (.cells #[.string y.s, .int .i64 y.v.t.kind, .string y.v.t.name, .int .i64 y.v.t.n, .slice y.v.a y.v.t.args.length y.v.c] 50)) (w.heap.size + 1) 0 y := by
  have one : ∀ (w : World) (x : Bv), BvAt (w.alloc (.cells #[.string x.s, .int .i64 x.v.t.kind, .string x.v.t.name, .int .i64 x.v.t.n, .slice x.v.a x.v.t.args.length x.v.c] 50)) w.heap.size 0 x := fun w x =>
    have e := fun i => World.cell?_alloc_mark w #[.string x.s, .int .i64 x.v.t.kind, .string x.v.t.name, .int .i64 x.v.t.n, .slice x.v.a x.v.t.args.length x.v.c] 50 (0, 0) i
    ⟨e 0, e (0 + 1), e (0 + 2), e (0 + 3), e (0 + 4)⟩
  refine ⟨(one w x).below ((Below.refl _ _).alloc (Nat.le_refl _) _), ?_⟩
  have h := one (w.alloc (.cells #[.string x.s, .int .i64 x.v.t.kind, .string x.v.t.name, .int .i64 x.v.t.n, .slice x.v.a x.v.t.args.length x.v.c] 50)) y
  have e : (w.alloc (.cells #[.string x.s, .int .i64 x.v.t.kind, .string x.v.t.name, .int .i64 x.v.t.n, .slice x.v.a x.v.t.args.length x.v.c] 50)).heap.size = w.heap.size + 1 := by simp
  rw [e] at h
  exact h
theorem below_two' (w : World) (o1 o2 : Obj) : Below w.heap.size w ((w.alloc o1).alloc o2) := ((Below.refl _ _).alloc (Nat.le_refl _) _).alloc (by simp) _

set_option maxRecDepth 100000 in
set_option maxHeartbeats 2000000 in
theorem alike_any (x y : Bv) (w : World) (hx : x.v.ok w) (hy : y.v.ok w) : Calls Try.prog 44 #[.agg x.cells.toArray, .agg y.cells.toArray] w fun e w' => e = .returned (.bool (sameN x y && eqT x.v.t y.v.t)) ∧ Below w.heap.size w w' := by
  have hB := two_boxes w x y
  have hb2 := below_two' w (.cells #[.string x.s, .int .i64 x.v.t.kind, .string x.v.t.name, .int .i64 x.v.t.n, .slice x.v.a x.v.t.args.length x.v.c] 50) (.cells #[.string y.s, .int .i64 y.v.t.kind, .string y.v.t.name, .int .i64 y.v.t.n, .slice y.v.a y.v.t.args.length y.v.c] 50)
  obtain ⟨W2, hW2⟩ : ∃ W2, W2 = ((w.alloc (.cells #[.string x.s, .int .i64 x.v.t.kind, .string x.v.t.name, .int .i64 x.v.t.n, .slice x.v.a x.v.t.args.length x.v.c] 50)).alloc (.cells #[.string y.s, .int .i64 y.v.t.kind, .string y.v.t.name, .int .i64 y.v.t.n, .slice y.v.a y.v.t.args.length y.v.c] 50)) := ⟨_, rfl⟩
  rw [← hW2] at hB hb2
  have NS := Lib.hid (namesake_any x y W2)
  have SM := Lib.hid (fun (V : World) (h : Below W2.heap.size W2 V) => psame_tm x.v y.v V (hx.below (below_next hb2 h)) (hy.below (below_next hb2 h)))
  have HBX := Lib.hid (fun (V : World) (h : Below W2.heap.size W2 V) => And.intro (hB.1.below h) (hB.2.below h))
  have HB2 := Lib.hid hb2
  clear hx hy hb2
  obtain ⟨⟨p0, p1, p2, p3, p4⟩, ⟨q0, q1, q2, q3, q4⟩⟩ := hB
  obtain ⟨bb, hbb⟩ : ∃ bb, eqT x.v.t y.v.t = bb := ⟨_, rfl⟩
  obtain ⟨bs, hbs⟩ : ∃ bs, sameN x y = bs := ⟨_, rfl⟩
  rw [hbb] at SM
  rw [hbs] at NS
  rw [hbb, hbs]
  clear hbb hbs
  obtain ⟨xs, ⟨xt, xa, xc⟩⟩ := x
  obtain ⟨ys, ⟨yt, ya, yc⟩⟩ := y
  simp only [Bv.cells, Nat.zero_add, Tv.val] at *
  rw [hW2] at p0 p1 p2 p3 p4 q0 q1 q2 q3 q4
  cases bs with
  | false =>
    go_enter Try.func44, Try.ntmps44
    go_wp2_with fail
    rw [← hW2]
    clear hW2 p0 p1 p2 p3 p4 q0 q1 q2 q3 q4
    refine NS.out.mono ?_; rintro e w1 ⟨rfl, hO1⟩
    have H1 := Lib.hid (below_next HB2.out hO1.below)
    clear hO1
    go_wp2_with fail
    go_ret
    exact ⟨rfl, H1.out⟩
  | true =>
    go_enter Try.func44, Try.ntmps44
    go_wp2_with fail
    rw [← hW2]
    clear hW2 p0 p1 p2 p3 p4 q0 q1 q2 q3 q4
    refine NS.out.mono ?_; rintro e w1 ⟨rfl, hO1⟩
    have H1 := Lib.hid hO1.below
    obtain ⟨⟨p0, p1, p2, p3, p4⟩, ⟨q0, q1, q2, q3, q4⟩⟩ := HBX.out w1 H1.out
    simp only [Nat.zero_add] at p0 p1 p2 p3 p4 q0 q1 q2 q3 q4
    clear hO1
    go_wp2_with fail
    refine (SM.out _ H1.out).mono ?_; rintro e w2 ⟨rfl, hO2⟩
    have H2 := Lib.hid (below_next HB2.out (below_next H1.out hO2.below))
    clear hO2 p0 p1 p2 p3 p4 q0 q1 q2 q3 q4
    go_wp2_with fail
    go_ret
    exact ⟨rfl, H2.out⟩

set_option maxRecDepth 100000 in
set_option maxHeartbeats 4000000 in
theorem eqf_any (va vb : Value) (cs bs : List Bn) (w0 w : World) (ha : Bds w0 va cs) (hb : Bds w0 vb bs) (hb0 : Below w0.heap.size w0 w) :
    Calls Try.prog 43 #[va, vb, .func (.func 44) #[] #[]] w fun e w' => e = .returned (.bool (eqB cs bs)) ∧ Below w.heap.size w w' := by
  have eg : ∀ args w, (callFunc 44 args).run Try.prog w = .ok (.enter 44 args) w := enters_of Try.func44 (by kernel_rfl) rfl
  obtain ⟨aa, ca, rfl, hla, hra⟩ := ha
  obtain ⟨ab, cb, rfl, hlb, hrb⟩ := hb
  have HA := Lib.hid hra
  have HB := Lib.hid hrb
  have HB0 := Lib.hid hb0
  have AL := Lib.hid (fun (x y : Bv) (W : World) (h1 : x.v.ok W) (h2 : y.v.ok W) => alike_any x y W h1 h2)
  clear hra hrb hb0
  by_cases hl : cs.length = bs.length
  · have hln : ((cs.length : Int) != (bs.length : Int)) = false := by rw [hl]; simp
    have hle : ((cs.length : Int) == (bs.length : Int)) = true := by rw [hl]; simp
    have HL := Lib.hid hl
    clear hl
    go_enter Try.func43, Try.ntmps43
    go_wp2_with fail
    go_loopw [17] (fun i wr => ∃ q : Nat, q ≤ cs.length ∧ i = .int .i64 q ∧ Hid (cs.take q = bs.take q) ∧ Below w.heap.size w wr) (fun i _ => cs.length - (intOf i).toNat)
    case atStart => exact ⟨0, Nat.zero_le _, rfl, Lib.hid rfl, Below.refl _ _⟩
    case round =>
      obtain ⟨q, hq, rfl, HT, hb⟩ := hrel
      by_cases hql : q < cs.length
      · have hqb : q < bs.length := by have := HL.out; omega
        obtain ⟨b1, o1, rfl, hlt1, hat1⟩ := HA.out.resolve_left (by intro h; rw [h] at hql; simp at hql)
        obtain ⟨b2, o2, rfl, hlt2, hat2⟩ := HB.out.resolve_left (by intro h; rw [h] at hqb; simp at hqb)
        obtain ⟨x, hx⟩ : ∃ x, cs[q]? = some x := ⟨_, List.getElem?_eq_getElem hql⟩
        obtain ⟨y, hy⟩ : ∃ y, bs[q]? = some y := ⟨_, List.getElem?_eq_getElem hqb⟩
        obtain ⟨⟨xs, xt, xa, xc⟩, hxe, hxo, hxv⟩ := bdAt_bv (hat1 q x hx)
        obtain ⟨⟨ys, yt, ya, yc⟩, hye, hyo, hyv⟩ := bdAt_bv (hat2 q y hy)
        have hb0r := HB0.out.trans (hb.mono HB0.out.size)
        have hbr1 : b1 < wr.heap.size := Nat.lt_of_lt_of_le hlt1 hb0r.size
        have hbr2 : b2 < wr.heap.size := Nat.lt_of_lt_of_le hlt2 hb0r.size
        have hbr3 : b2 < wr.heap.size + 1 := by omega
        obtain ⟨m0, m1, m2, m3, m4⟩ := hxv.below hb0r
        obtain ⟨n0, n1, n2, n3, n4⟩ := hyv.below hb0r
        have HXY := Lib.hid (show x = y ↔ (xs = ys ∧ xt = yt) by rw [← hxe, ← hye]; unfold Bv.bn; simp [Prod.ext_iff])
        have HNX := Lib.hid (fun (e : x = y) => take_eq_succ HT.out hx hy e)
        have HNE := Lib.hid (fun (e : x ≠ y) => ne_at hx hy e)
        have hk0 : (0 : Int) ≤ (q : Int) := by omega
        have hk1 : (q : Int) < (cs.length : Int) := by omega
        have hk2 : (q : Int) < (bs.length : Int) := by omega
        have hkd : decide ((q : Int) < (cs.length : Int)) = true := decide_eq_true hk1
        have hB := two_boxes wr ⟨xs, xt, xa, xc⟩ ⟨ys, yt, ya, yc⟩
        have hb2 := below_two' wr (.cells #[.string xs, .int .i64 xt.kind, .string xt.name, .int .i64 xt.n, .slice xa xt.args.length xc] 50) (.cells #[.string ys, .int .i64 yt.kind, .string yt.name, .int .i64 yt.n, .slice ya yt.args.length yc] 50)
        simp only at hB
        obtain ⟨W2, hW2⟩ : ∃ W2, W2 = ((wr.alloc (.cells #[.string xs, .int .i64 xt.kind, .string xt.name, .int .i64 xt.n, .slice xa xt.args.length xc] 50)).alloc (.cells #[.string ys, .int .i64 yt.kind, .string yt.name, .int .i64 yt.n, .slice ya yt.args.length yc] 50)) := ⟨_, rfl⟩
        have hb2' := hb2
        rw [← hW2] at hb2'
        have C := Lib.hid (AL.out ⟨xs, xt, xa, xc⟩ ⟨ys, yt, ya, yc⟩ W2 (hxo.below (hb0r.trans (hb2'.mono hb0r.size))) (hyo.below (hb0r.trans (hb2'.mono hb0r.size))))
        have HBW := Lib.hid (below_next hb hb2')
        obtain ⟨⟨p0, p1, p2, p3, p4⟩, ⟨q0, q1, q2, q3, q4⟩⟩ := hB
        simp only [Nat.zero_add] at p0 p1 p2 p3 p4 q0 q1 q2 q3 q4
        simp only at m0 m1 m2 m3 m4 n0 n1 n2 n3 n4 C
        obtain ⟨bb, hbb⟩ : ∃ bb, (sameN ⟨xs, xt, xa, xc⟩ ⟨ys, yt, ya, yc⟩ && eqT xt yt) = bb := ⟨_, rfl⟩
        rw [hbb] at C
        have HBB := Lib.hid (show bb = true ↔ x = y by
          rw [HXY.out, ← hbb, Bool.and_eq_true, eqT_iff]
          exact and_congr_left fun _ => beq_name)
        clear hat1 hat2 hx hy hxe hye hxo hyo hxv hyv hb hb0r hb2 hb2' hlt1 hlt2 hbb
        cases bb with
        | false =>
          have HF := Lib.hid (HNE.out (fun e => by have := HBB.out.2 e; cases this))
          go_wp2_with fail
          rw [← hW2]
          clear hW2 p0 p1 p2 p3 p4 q0 q1 q2 q3 q4 m0 m1 m2 m3 m4 n0 n1 n2 n3 n4
          refine C.out.mono ?_; rintro e w3 ⟨rfl, h3⟩
          have H3 := Lib.hid (below_next HBW.out h3)
          clear h3
          go_wp2_with fail
          go_ret
          exact ⟨ret_bool (eqB_no HF.out), H3.out⟩
        | true =>
          have HOK := Lib.hid (HNX.out (HBB.out.1 rfl))
          go_wp2_with fail
          rw [← hW2]
          clear hW2 p0 p1 p2 p3 p4 q0 q1 q2 q3 q4 m0 m1 m2 m3 m4 n0 n1 n2 n3 n4
          refine C.out.mono ?_; rintro e w3 ⟨rfl, h3⟩
          have H3 := Lib.hid (below_next HBW.out h3)
          clear h3
          go_wp2_with fail
          go_roundw
          case rel => exact ⟨q + 1, by omega, by go_num, HOK, H3.out⟩
          case measure => simp [intOf]; omega
      · have hqe : q = cs.length := by omega
        have hkd : decide ((q : Int) < (cs.length : Int)) = false := decide_eq_false (by omega)
        have hkn : ¬ (q : Int) < (cs.length : Int) := by omega
        have HEQ := Lib.hid (show cs = bs by have h := HT.out; rw [hqe, List.take_length, HL.out, List.take_length] at h; exact h)
        have HBE := Lib.hid hb
        clear hqe hb
        go_wp2_with fail
        go_ret
        exact ⟨ret_bool (eqB_yes HEQ.out), HBE.out⟩
  · have hln : ((cs.length : Int) != (bs.length : Int)) = true := by simp; omega
    have hle : ((cs.length : Int) == (bs.length : Int)) = false := by simp; omega
    have HL := Lib.hid hl
    clear hl
    go_enter Try.func43, Try.ntmps43
    go_wp2_with fail
    go_ret
    exact ⟨ret_bool (eqB_no (fun h => HL.out (by rw [h]))), Below.refl _ _⟩

set_option maxRecDepth 100000 in
set_option maxHeartbeats 2000000 in
theorem same_bd (va vb : Value) (cs bs : List Bn) (w : World) (ha : Bds w va cs) (hb : Bds w vb bs) (hl1 : cs.length ≤ 1000000) (hl2 : bs.length ≤ 1000000) :
    Calls Try.prog 21 #[va, vb] w fun e w' => e = .returned (.bool (eqB (ofB cs) (ofB bs))) ∧ Below w.heap.size w w' := by
  have O1 := Lib.hid (of_bd va cs w w ha (Below.refl _ _) hl1)
  have O2 := Lib.hid (fun (W : World) (h : Below w.heap.size w W) => of_bd vb bs w W hb h hl2)
  have L1 := Lib.hid (show (ofB cs).length ≤ 9223372036854775807 by have := ofB_length cs; omega)
  have L2 := Lib.hid (show (ofB bs).length ≤ 9223372036854775807 by have := ofB_length bs; omega)
  obtain ⟨aa, ca, rfl, _, _⟩ := ha
  obtain ⟨ab, cb, rfl, _, _⟩ := hb
  go_enter Try.func21, Try.ntmps21
  go_wp2_with fail
  refine O1.out.mono ?_; rintro e w1 ⟨u1, rfl, hu1, hb1⟩
  have H1 := Lib.hid hb1
  have U1 := Lib.hid (hu1.bds hb1 L1.out)
  clear hu1 hb1
  go_wp2_with fail
  refine (O2.out _ H1.out).mono ?_; rintro e w2 ⟨u2, rfl, hu2, hb2⟩
  have H2 := Lib.hid (below_next H1.out hb2)
  have E := Lib.hid (eqf_any u1 u2 (ofB cs) (ofB bs) w2 w2 (U1.out.below hb2) (hu2.bds H2.out L2.out) (Below.refl _ _))
  clear hu2 hb2
  go_wp2_with fail
  refine E.out.mono ?_; rintro e w3 ⟨rfl, hb3⟩
  have H3 := Lib.hid (below_next H2.out hb3)
  clear hb3
  go_wp2_with fail
  go_ret
  exact ⟨rfl, H3.out⟩
end Go.Proofs.Ytcoaneipajadiaa
