/-
  Lists that are made alike, by the reference of layer 7: a variable is bound.
-/
import Derived.Test.YtedljdcliilggaaU10
namespace Go.Proofs.Ytedljdcliilggaa
open Go.RowKit

set_option maxRecDepth 100000 in
set_option maxHeartbeats 4000000 in
theorem rrow_bind1 (x y : Tm) (us bs : List Tm) (va vb : Value) (w : World) (ha : Tms w va (x :: us)) (hb : Tms w vb (y :: bs)) (hfine : Fine (x :: us) (y :: bs)) (hlen : us.length = bs.length) (hn : x ≠ y) (hk : x.kind = 1) (ho : ¬ HasV x.name y) (o : Option (List Bn)) (IH : RowAsk (appL [(x.name, y)] us) (appL [(x.name, y)] bs)) (hr : RowU (appL [(x.name, y)] us) (appL [(x.name, y)] bs) o) (hol : ∀ l, o = some l → l.length ≤ 999) :
    Calls Try.prog 9 #[va, vb] w (RowPost (o.map fun l => (x.name, y) :: l) w) := by
  obtain ⟨a1, c1, rfl, hA1⟩ := ha
  obtain ⟨a2, c2, rfl, hA2⟩ := hb
  obtain ⟨b1, o1, rfl, hlt1, hat1⟩ := hA1.2.resolve_left (by simp)
  obtain ⟨b2, o2, rfl, hlt2, hat2⟩ := hA2.2.resolve_left (by simp)
  rw [RowAt] at hat1 hat2
  obtain ⟨⟨xt, xa, xc⟩, hxt, hxo, hxv⟩ := tmAt_tv hat1.1
  obtain ⟨⟨yt, ya, yc⟩, hyt, hyo, hyv⟩ := tmAt_tv hat2.1
  obtain rfl : xt = x := hxt
  obtain rfl : yt = y := hyt
  obtain ⟨A1, hQ1⟩ : ∃ A1, (if c1 = 1 then some (⟨b1, o1, none⟩ : Addr) else some ⟨b1, o1 + 4, none⟩) = A1 := ⟨_, rfl⟩
  obtain ⟨A2, hQ2⟩ : ∃ A2, (if c2 = 1 then some (⟨b2, o2, none⟩ : Addr) else some ⟨b2, o2 + 4, none⟩) = A2 := ⟨_, rfl⟩
  have HT1 := Lib.hid (show Args w A1 (c1 - 1) us from hQ1 ▸ args_tail7 hA1)
  have HT2 := Lib.hid (show Args w A2 (c2 - 1) bs from hQ2 ▸ args_tail7 hA2)
  obtain ⟨m0, m1, m2, m3⟩ := hxv
  obtain ⟨k0, k1, k2, k3⟩ := hyv
  simp only at m0 m1 m2 m3 k0 k1 k2 k3
  have bX := (box_new w (.int .i64 xt.kind) (.string xt.name) (.int .i64 xt.n) (.slice xa xt.args.length xc) 24).below ((Below.refl _ _).alloc (Nat.le_refl _) (.cells #[.int .i64 yt.kind, .string yt.name, .int .i64 yt.n, .slice ya yt.args.length yc] 24)) (by simp)
  have bY := alloc_two w (.cells #[.int .i64 xt.kind, .string xt.name, .int .i64 xt.n, .slice xa xt.args.length xc] 24) (.int .i64 yt.kind) (.string yt.name) (.int .i64 yt.n) (.slice ya yt.args.length yc) 24
  have hB2 := below_two w (.cells #[.int .i64 xt.kind, .string xt.name, .int .i64 xt.n, .slice xa xt.args.length xc] 24) (.cells #[.int .i64 yt.kind, .string yt.name, .int .i64 yt.n, .slice ya yt.args.length yc] 24)
  obtain ⟨wz, hwz⟩ : ∃ wz, wz = ((w.alloc (.cells #[.int .i64 xt.kind, .string xt.name, .int .i64 xt.n, .slice xa xt.args.length xc] 24)).alloc (.cells #[.int .i64 yt.kind, .string yt.name, .int .i64 yt.n, .slice ya yt.args.length yc] 24)) := ⟨_, rfl⟩
  have hzs : wz.heap.size = w.heap.size + 2 := by rw [hwz]; simp
  rw [← hwz] at bX bY hB2
  have HBX := Lib.hid (fun (V : World) (h : Below wz.heap.size wz V) => bX.below h (by omega))
  have HBY := Lib.hid (fun (V : World) (h : Below wz.heap.size wz V) => bY.below h (by omega))
  have HB2 := Lib.hid hB2
  have HX := Lib.hid hxo
  have HY := Lib.hid hyo
  have HF := Lib.hid hfine
  have HLEN := Lib.hid hlen
  have HZS := Lib.hid hzs
  have n1 : (1 : Int) ≤ ((us.length : Nat) : Int) + 1 := by omega
  have n2 : (1 : Int) ≤ ((bs.length : Nat) : Int) + 1 := by omega
  have e1 : (((us.length : Nat) : Int) + 1 == 0) = false := by rw [beq_eq_false_iff_ne]; omega
  have hb1 : b1 < wz.heap.size := by omega
  have hb2 : b2 < wz.heap.size := by omega
  have SM := Lib.hid (same_tm xt.parts ⟨xt, xa, xc⟩ ⟨yt, ya, yc⟩ wz (Nat.le_refl _) (hxo.below hB2) (hyo.below hB2))
  obtain ⟨p0, p1, p2, p3, _, _, _, _⟩ := bX
  obtain ⟨q0, q1, q2, q3, _, _, _, _⟩ := bY
  simp only [List.length_cons]
  simp only [Tv.val] at SM
  rw [eqT_false (show (⟨xt, xa, xc⟩ : Tv).t ≠ (⟨yt, ya, yc⟩ : Tv).t from hn)] at SM
  have HK := Lib.hid hk
  have hkv : (xt.kind == 1) = true := by rw [hk]; rfl
  have hkn : (xt.kind != 1) = false := by rw [hk]; rfl
  have HO := Lib.hid (show Lib.containsS yt.vars xt.name = false from has_not ho)
  have HRO := Lib.hid (And.intro hr hol)
  have HOV := Lib.hid ho
  have HIH := Lib.hid IH
  clear IH hr hol
  clear hn hk ho
  clear hA1 hA2 hat1 hat2 hxo hyo hfine hlen hB2 hzs
  go_enter Try.func9, Try.ntmps9
  go_wp2_with fail
  rw [← hwz]
  refine SM.out.mono ?_; rintro e w1 ⟨rfl, hs1⟩
  have H1 := Lib.hid hs1
  clear hs1 hwz SM m0 m1 m2 m3 k0 k1 k2 k3 p0 p1 p2 p3 q0 q1 q2 q3
  obtain ⟨p0, p1, p2, p3, f0, f1, f2, f3⟩ := HBX.out w1 H1.out
  obtain ⟨q0, q1, q2, q3, g0, g1, g2, g3⟩ := HBY.out w1 H1.out
  have HWV := Lib.hid (below_next HB2.out H1.out)
  have KX := Lib.hid (fun (W : World) (h : Below w1.heap.size w1 W) => HBX.out W (below_next H1.out h))
  have KY := Lib.hid (fun (W : World) (h : Below w1.heap.size w1 W) => HBY.out W (below_next H1.out h))
  have HT := Lib.hid (show yt.parts ≤ 2300000000000 by have := HF.out.one yt (.inr List.mem_cons_self); unfold mostT at this; omega)
  have VT := Lib.hid (fun (W : World) (h : Below w1.heap.size w1 W) => (vars_tm ⟨yt, ya, yc⟩ W (HY.out.below (below_next HWV.out h)) HT.out).mono (fun e w' ⟨v, h1, h2, _, h3⟩ => (show ∃ a c, e = Ending.returned (.slice a yt.vars.length c) ∧ Strs w' (.slice a yt.vars.length c) yt.vars ∧ Below w1.heap.size w1 w' from by
    obtain ⟨a, c, rfl, _⟩ := id h2
    exact ⟨a, c, h1, h2, below_next h h3⟩)))
  have IN := Lib.hid (fun (W : World) (v : Value) (h : Strs W v yt.vars) => rin_any v yt.vars xt.name W h)
  rw [HO.out] at IN
  have KEEP := Lib.hid (fun (W : World) (h : Below w1.heap.size w1 W) => (show W.cell? ⟨w.heap.size, 1, none⟩ = some (.string xt.name) ∧ (W.cell? ⟨w.heap.size + 1, 0, none⟩ = some (.int .i64 yt.kind) ∧ W.cell? ⟨w.heap.size + 1, 1, none⟩ = some (.string yt.name) ∧ W.cell? ⟨w.heap.size + 1, 2, none⟩ = some (.int .i64 yt.n) ∧ W.cell? ⟨w.heap.size + 1, 3, none⟩ = some (.slice ya yt.args.length yc)) from by
    have b1 := KX.out W h
    have b2 := KY.out W h
    exact ⟨b1.c1, b2.c0, b2.c1, b2.c2, b2.c3⟩))
  have A0 := Lib.hid (show Below w1.heap.size w1 w1.drew from (Below.refl _ _).drew)
  simp only [Tv.val] at VT
  go_wp2_with fail
  clear p0 p1 p2 p3 f0 f1 f2 f3 q0 q1 q2 q3 g0 g1 g2 g3
  go_region_held3 (fun W => W.cell? ⟨w.heap.size, 1, none⟩ = some (.string xt.name) ∧ (W.cell? ⟨w.heap.size + 1, 0, none⟩ = some (.int .i64 yt.kind) ∧ W.cell? ⟨w.heap.size + 1, 1, none⟩ = some (.string yt.name) ∧ W.cell? ⟨w.heap.size + 1, 2, none⟩ = some (.int .i64 yt.n) ∧ W.cell? ⟨w.heap.size + 1, 3, none⟩ = some (.slice ya yt.args.length yc))) (first | exact KEEP.out _ A0.out | exact KEEP.out _ (by with_reducible assumption))
    ((first
      | (go_at_call 26; refine (VT.out _ A0.out).mono ?_; rintro e w2 ⟨av, cv, rfl, hv, hb2'⟩)
      | (go_at_call 25; refine (IN.out _ _ hv).mono ?_; rintro e w3 ⟨rfl, rfl⟩)))
  obtain ⟨s1, s2, s3, s4, s5⟩ := KEEP.out w2 hb2'
  have hw2 := below_next HWV.out hb2'
  have hBz : Below w2.heap.size w2 (w2.alloc (.cells #[.string xt.name, .int .i64 yt.kind, .string yt.name, .int .i64 yt.n, .slice ya yt.args.length yc] 41)) := (Below.refl _ _).alloc (Nat.le_refl _) _
  have hzB : (w2.alloc (.cells #[.string xt.name, .int .i64 yt.kind, .string yt.name, .int .i64 yt.n, .slice ya yt.args.length yc] 41)).heap.size = w2.heap.size + 1 := by simp
  have bT := fun i => World.cell?_alloc_mark w2 #[.string xt.name, .int .i64 yt.kind, .string yt.name, .int .i64 yt.n, .slice ya yt.args.length yc] 41 (0, 0) i
  obtain ⟨w3, hw3⟩ : ∃ w3, w3 = w2.alloc (.cells #[.string xt.name, .int .i64 yt.kind, .string yt.name, .int .i64 yt.n, .slice ya yt.args.length yc] 41) := ⟨_, rfl⟩
  rw [← hw3] at hBz hzB bT
  have hBW : Below w.heap.size w w3 := below_next hw2 hBz
  have KB := Lib.hid (fun (W : World) (h : Below w3.heap.size w3 W) => (show W.cell? ⟨w2.heap.size, 0, none⟩ = some (.string xt.name) ∧ W.cell? ⟨w2.heap.size, 1, none⟩ = some (.int .i64 yt.kind) ∧ W.cell? ⟨w2.heap.size, 2, none⟩ = some (.string yt.name) ∧ W.cell? ⟨w2.heap.size, 3, none⟩ = some (.int .i64 yt.n) ∧ W.cell? ⟨w2.heap.size, 4, none⟩ = some (.slice ya yt.args.length yc) from
    ⟨(h.cell (p := ⟨w2.heap.size, 0, none⟩) (by show w2.heap.size < _; omega)).trans (bT 0), (h.cell (p := ⟨w2.heap.size, 1, none⟩) (by show w2.heap.size < _; omega)).trans (bT 1), (h.cell (p := ⟨w2.heap.size, 2, none⟩) (by show w2.heap.size < _; omega)).trans (bT 2), (h.cell (p := ⟨w2.heap.size, 3, none⟩) (by show w2.heap.size < _; omega)).trans (bT 3), (h.cell (p := ⟨w2.heap.size, 4, none⟩) (by show w2.heap.size < _; omega)).trans (bT 4)⟩))
  have HPU := Lib.hid (HF.out.put (s := xt.name) (t := yt) (.inr rfl) HOV.out)
  have HB3 := Lib.hid hBW
  have ON1 := Lib.hid (fun (W : World) (h0 : Below w3.heap.size w3 W) => have h := below_next HB3.out h0; (one_any ⟨xt.name, ⟨yt, ya, yc⟩⟩ (.slice A1 us.length (c1 - 1)) us w W HY.out HX.out.1.len ⟨_, _, rfl, HT1.out⟩ h (fun t ht => by have := HF.out.one t (.inl (List.mem_cons_of_mem _ ht)); unfold mostT at this; omega) (by have := HF.out.len; rw [List.length_cons] at this; unfold mostT at this; omega)).mono (fun e w' ⟨u, h1, h2, h3⟩ => (show ∃ a c, e = Ending.returned (.slice a us.length c) ∧ Tms w' (.slice a us.length c) (appL [(xt.name, yt)] us) ∧ Below w3.heap.size w3 w' from by
    obtain ⟨a, c, rfl, _⟩ := id h2
    have h4 : Tms w' (.slice a (appL [(xt.name, yt)] us).length c) (appL [(xt.name, yt)] us) := h2
    rw [appL_len] at h4
    exact ⟨a, c, by rw [h1]; congr 2; exact appL_len _ _, h4, below_next h0 h3⟩)))
  have ON2 := Lib.hid (fun (W : World) (h0 : Below w3.heap.size w3 W) => have h := below_next HB3.out h0; (one_any ⟨xt.name, ⟨yt, ya, yc⟩⟩ (.slice A2 bs.length (c2 - 1)) bs w W HY.out HX.out.1.len ⟨_, _, rfl, HT2.out⟩ h (fun t ht => by have := HF.out.one t (.inr (List.mem_cons_of_mem _ ht)); unfold mostT at this; omega) (by have := HF.out.len; rw [List.length_cons, HLEN.out] at this; unfold mostT at this; omega)).mono (fun e w' ⟨u, h1, h2, h3⟩ => (show ∃ a c, e = Ending.returned (.slice a bs.length c) ∧ Tms w' (.slice a bs.length c) (appL [(xt.name, yt)] bs) ∧ Below W.heap.size W w' from by
    obtain ⟨a, c, rfl, _⟩ := id h2
    have h4 : Tms w' (.slice a (appL [(xt.name, yt)] bs).length c) (appL [(xt.name, yt)] bs) := h2
    rw [appL_len] at h4
    exact ⟨a, c, by rw [h1]; congr 2; exact appL_len _ _, h4, h3⟩)))
  have RC := Lib.hid (fun (W : World) (va vb : Value) (ha : Tms W va (appL [(xt.name, yt)] us)) (hb : Tms W vb (appL [(xt.name, yt)] bs)) => (HIH.out va vb W ha hb HPU.out (by rw [appL_len, appL_len]; exact HLEN.out) o HRO.out.1 (fun l hl => by have := HRO.out.2 l hl; omega)).mono (fun e w' ⟨u, h1, h2, h3⟩ => (show ∃ (a : Option Addr) (c : Nat), e = Ending.returned (.tuple #[.slice a (o.getD []).length c, .bool o.isSome]) ∧ Bds w' (.slice a (o.getD []).length c) (o.getD []) ∧ Below W.heap.size W w' from by
    obtain ⟨a, c, rfl, _⟩ := id h2
    exact ⟨a, c, h1, h2, h3⟩)))
  have HBW := Lib.hid hBW
  have B0 := Lib.hid (show Below w3.heap.size w3 w3.drew from (Below.refl _ _).drew)
  have HW0 := Lib.hid (hBW.drew)
  have HVN := Lib.hid HX.out.1.len
  have HTO := Lib.hid HY.out
  simp only [Bv.val] at ON1 ON2
  simp only at HVN
  clear hw2 hBz hzB bT hBW hb2' hv
  go_wp2_with fail
  rw [← hw3]
  clear hw3 s1 s2 s3 s4 s5
  go_region_held3 (fun W => W.cell? ⟨w2.heap.size, 0, none⟩ = some (.string xt.name) ∧ W.cell? ⟨w2.heap.size, 1, none⟩ = some (.int .i64 yt.kind) ∧ W.cell? ⟨w2.heap.size, 2, none⟩ = some (.string yt.name) ∧ W.cell? ⟨w2.heap.size, 3, none⟩ = some (.int .i64 yt.n) ∧ W.cell? ⟨w2.heap.size, 4, none⟩ = some (.slice ya yt.args.length yc)) (first | exact KB.out _ B0.out | exact KB.out _ (by with_reducible assumption))
    ((first
      | (go_at_call_has 27 (Value.slice A1 us.length (c1 - 1)); refine (ON1.out _ B0.out).mono ?_; rintro e w4 ⟨a4, c4, rfl, ht4, hn4⟩)
      | (go_at_call 27; refine (ON2.out _ hn4).mono ?_; rintro e w5 ⟨a5, c5, rfl, ht5, hb5⟩; have hn5 := below_next hn4 hb5)
      | (go_at_call 9; refine (RC.out _ _ _ (ht4.below hb5) ht5).mono ?_; rintro e w6 ⟨a6, c6, rfl, hu6, hb6⟩; have hn6 := below_next hn5 hb6)))
  have HE6 := Lib.hid (below_next HB3.out hn6)
  have HU6 := Lib.hid hu6
  obtain ⟨t1, t2, t3, t4, t5⟩ := KB.out w6 hn6
  clear hn4 hn5 hn6 hb5 hb6 ht4 ht5 hu6 ON1 ON2 RC KB
  cases o with
  | none =>
    go_wp2_with fail
    go_ret2
    exact ⟨_, rfl, Bds.none_ _ _ _, HE6.out⟩
  | some m =>
    simp only [Option.getD_some, Option.isSome_some] at HU6 ⊢
    have hml : m.length ≤ 999 := HRO.out.2 m rfl
    obtain ⟨aB, cB, vsB, eB, hBt, hBo, hBx, hBc⟩ := bds_open HU6.out (Below.refl _ _)
    cases eB
    have hBl : vsB.length = m.length := by rw [← hBt, List.length_map]
    have HBB := Lib.hid (And.intro hBx (And.intro (show (rowBv vsB).length = m.length * 5 by rw [rowBv_length, hBl]) (And.intro hBc (rowBv_one' vsB))))
    have HBT := Lib.hid (And.intro hBt (And.intro hBo hBl))
    obtain ⟨i0, hi, hz0, hz1, hz2⟩ := info_parts bindInfo
    have HOW := Lib.hid (own_one5 w6 ⟨xt.name, ⟨yt, ya, yc⟩⟩ w6.heap.size (Nat.le_refl _))
    have HA6 := Lib.hid (show Below w6.heap.size w6 (w6.alloc (.cells #[.string xt.name, .int .i64 yt.kind, .string yt.name, .int .i64 yt.n, .slice ya yt.args.length yc] 41)) from (Below.refl _ _).alloc (Nat.le_refl _) _)
    simp only at HOW
    clear hBt hBo hBx hBc hBl
    go_wp2_with (at_builtin; refine wpList_append_opt rfl _ _ 27 rfl w6.heap.size 41 i0 (.agg #[.string ⟨#[]⟩, .int .i64 0, .string ⟨#[]⟩, .int .i64 0, .slice none 0 0]) 5 72 Try.underlying27 hi hz0 hz1 hz2 rfl (by decide) (.slice (some ⟨w6.heap.size, 0, none⟩) 1 1) 1 _ rfl HOW.out a6 m.length c6 (rowBv vsB) rfl HBB.out.1 HBB.out.2.1 (HBB.out.2.2.1 _ HA6.out) HBB.out.2.2.2 ?ap3 ?ap4 ?ap5 ?_)
    case ap3 => unfold maxLen; omega
    case ap4 => omega
    case ap5 => exact HA6.out.size
    intro v7 w7 hown7 hg7 _
    have hb7 : Below w6.heap.size w6 w7 := HA6.out.grown hg7 HA6.out.size (fun k e => by cases e; exact Nat.le_refl _)
    have hbd : Bds w7 v7 ((xt.name, yt) :: m) := by
      rw [← HBT.out.1]
      have h7 : w7.ownsRow w6.heap.size 41 5 v7 (1 + m.length) (rowBv (⟨xt.name, ⟨yt, ya, yc⟩⟩ :: vsB)) := hown7
      refine bds_own (w0 := w7) (vs := ⟨xt.name, ⟨yt, ya, yc⟩⟩ :: vsB) h7 (by rw [List.length_cons, HBT.out.2.2]; omega) (fun x hx => ?_) (Below.refl _ _) (by omega)
      rcases List.mem_cons.1 hx with rfl | hx
      · exact ⟨HTO.out.below (below_next HE6.out hb7), HVN.out⟩
      · exact ⟨(HBT.out.2.1 x hx).1.below hb7, (HBT.out.2.1 x hx).2⟩
    have HBD := Lib.hid hbd
    have HB7 := Lib.hid (below_next HE6.out hb7)
    obtain ⟨a7, c7, rfl, _, _⟩ := hbd
    clear hown7 hg7 hb7 t1 t2 t3 t4 t5
    go_wp2_with fail
    go_ret2
    exact ⟨_, rfl, HBD.out, HB7.out⟩

set_option maxRecDepth 100000 in
set_option maxHeartbeats 4000000 in
theorem rrow_bind2 (x y : Tm) (us bs : List Tm) (va vb : Value) (w : World) (ha : Tms w va (x :: us)) (hb : Tms w vb (y :: bs)) (hfine : Fine (x :: us) (y :: bs)) (hlen : us.length = bs.length) (hn : x ≠ y) (hk0 : x.kind ≠ 1) (hk : y.kind = 1) (ho : ¬ HasV y.name x) (o : Option (List Bn)) (IH : RowAsk (appL [(y.name, x)] us) (appL [(y.name, x)] bs)) (hr : RowU (appL [(y.name, x)] us) (appL [(y.name, x)] bs) o) (hol : ∀ l, o = some l → l.length ≤ 999) :
    Calls Try.prog 9 #[va, vb] w (RowPost (o.map fun l => (y.name, x) :: l) w) := by
  obtain ⟨a1, c1, rfl, hA1⟩ := ha
  obtain ⟨a2, c2, rfl, hA2⟩ := hb
  obtain ⟨b1, o1, rfl, hlt1, hat1⟩ := hA1.2.resolve_left (by simp)
  obtain ⟨b2, o2, rfl, hlt2, hat2⟩ := hA2.2.resolve_left (by simp)
  rw [RowAt] at hat1 hat2
  obtain ⟨⟨xt, xa, xc⟩, hxt, hxo, hxv⟩ := tmAt_tv hat1.1
  obtain ⟨⟨yt, ya, yc⟩, hyt, hyo, hyv⟩ := tmAt_tv hat2.1
  obtain rfl : xt = x := hxt
  obtain rfl : yt = y := hyt
  obtain ⟨A1, hQ1⟩ : ∃ A1, (if c1 = 1 then some (⟨b1, o1, none⟩ : Addr) else some ⟨b1, o1 + 4, none⟩) = A1 := ⟨_, rfl⟩
  obtain ⟨A2, hQ2⟩ : ∃ A2, (if c2 = 1 then some (⟨b2, o2, none⟩ : Addr) else some ⟨b2, o2 + 4, none⟩) = A2 := ⟨_, rfl⟩
  have HT1 := Lib.hid (show Args w A1 (c1 - 1) us from hQ1 ▸ args_tail7 hA1)
  have HT2 := Lib.hid (show Args w A2 (c2 - 1) bs from hQ2 ▸ args_tail7 hA2)
  obtain ⟨m0, m1, m2, m3⟩ := hxv
  obtain ⟨k0, k1, k2, k3⟩ := hyv
  simp only at m0 m1 m2 m3 k0 k1 k2 k3
  have bX := (box_new w (.int .i64 xt.kind) (.string xt.name) (.int .i64 xt.n) (.slice xa xt.args.length xc) 24).below ((Below.refl _ _).alloc (Nat.le_refl _) (.cells #[.int .i64 yt.kind, .string yt.name, .int .i64 yt.n, .slice ya yt.args.length yc] 24)) (by simp)
  have bY := alloc_two w (.cells #[.int .i64 xt.kind, .string xt.name, .int .i64 xt.n, .slice xa xt.args.length xc] 24) (.int .i64 yt.kind) (.string yt.name) (.int .i64 yt.n) (.slice ya yt.args.length yc) 24
  have hB2 := below_two w (.cells #[.int .i64 xt.kind, .string xt.name, .int .i64 xt.n, .slice xa xt.args.length xc] 24) (.cells #[.int .i64 yt.kind, .string yt.name, .int .i64 yt.n, .slice ya yt.args.length yc] 24)
  obtain ⟨wz, hwz⟩ : ∃ wz, wz = ((w.alloc (.cells #[.int .i64 xt.kind, .string xt.name, .int .i64 xt.n, .slice xa xt.args.length xc] 24)).alloc (.cells #[.int .i64 yt.kind, .string yt.name, .int .i64 yt.n, .slice ya yt.args.length yc] 24)) := ⟨_, rfl⟩
  have hzs : wz.heap.size = w.heap.size + 2 := by rw [hwz]; simp
  rw [← hwz] at bX bY hB2
  have HBX := Lib.hid (fun (V : World) (h : Below wz.heap.size wz V) => bX.below h (by omega))
  have HBY := Lib.hid (fun (V : World) (h : Below wz.heap.size wz V) => bY.below h (by omega))
  have HB2 := Lib.hid hB2
  have HX := Lib.hid hxo
  have HY := Lib.hid hyo
  have HF := Lib.hid hfine
  have HLEN := Lib.hid hlen
  have HZS := Lib.hid hzs
  have n1 : (1 : Int) ≤ ((us.length : Nat) : Int) + 1 := by omega
  have n2 : (1 : Int) ≤ ((bs.length : Nat) : Int) + 1 := by omega
  have e1 : (((us.length : Nat) : Int) + 1 == 0) = false := by rw [beq_eq_false_iff_ne]; omega
  have hb1 : b1 < wz.heap.size := by omega
  have hb2 : b2 < wz.heap.size := by omega
  have SM := Lib.hid (same_tm xt.parts ⟨xt, xa, xc⟩ ⟨yt, ya, yc⟩ wz (Nat.le_refl _) (hxo.below hB2) (hyo.below hB2))
  obtain ⟨p0, p1, p2, p3, _, _, _, _⟩ := bX
  obtain ⟨q0, q1, q2, q3, _, _, _, _⟩ := bY
  simp only [List.length_cons]
  simp only [Tv.val] at SM
  rw [eqT_false (show (⟨xt, xa, xc⟩ : Tv).t ≠ (⟨yt, ya, yc⟩ : Tv).t from hn)] at SM
  have HK := Lib.hid hk
  have hk1 : (xt.kind != 1) = true := by rw [bne_iff_ne]; exact hk0
  have hk2 : (xt.kind == 1) = false := by rw [beq_eq_false_iff_ne]; exact hk0
  clear hk0
  have hkv : (yt.kind == 1) = true := by rw [hk]; rfl
  have hkn : (yt.kind != 1) = false := by rw [hk]; rfl
  have HO := Lib.hid (show Lib.containsS xt.vars yt.name = false from has_not ho)
  have HRO := Lib.hid (And.intro hr hol)
  have HOV := Lib.hid ho
  have HIH := Lib.hid IH
  clear IH hr hol
  clear hn hk ho
  clear hA1 hA2 hat1 hat2 hxo hyo hfine hlen hB2 hzs
  go_enter Try.func9, Try.ntmps9
  go_wp2_with fail
  rw [← hwz]
  refine SM.out.mono ?_; rintro e w1 ⟨rfl, hs1⟩
  have H1 := Lib.hid hs1
  clear hs1 hwz SM m0 m1 m2 m3 k0 k1 k2 k3 p0 p1 p2 p3 q0 q1 q2 q3
  obtain ⟨p0, p1, p2, p3, f0, f1, f2, f3⟩ := HBX.out w1 H1.out
  obtain ⟨q0, q1, q2, q3, g0, g1, g2, g3⟩ := HBY.out w1 H1.out
  have BX1 := HBX.out w1 H1.out
  have BY1 := HBY.out w1 H1.out
  have BV := ((((BX1.sets (.int .i64 yt.kind) (.string yt.name) (.int .i64 yt.n) (.slice ya yt.args.length yc)).aside (p := ⟨w.heap.size + 1, 0, none⟩) (by show w.heap.size ≠ w.heap.size + 1; omega) (.int .i64 xt.kind)).aside (p := ⟨w.heap.size + 1, 1, none⟩) (by show w.heap.size ≠ w.heap.size + 1; omega) (.string xt.name)).aside (p := ⟨w.heap.size + 1, 2, none⟩) (by show w.heap.size ≠ w.heap.size + 1; omega) (.int .i64 xt.n)).aside (p := ⟨w.heap.size + 1, 3, none⟩) (by show w.heap.size ≠ w.heap.size + 1; omega) (.slice xa xt.args.length xc)
  have BU := ((((BY1.aside (p := ⟨w.heap.size, 0, none⟩) (by show w.heap.size + 1 ≠ w.heap.size; omega) (.int .i64 yt.kind)).aside (p := ⟨w.heap.size, 1, none⟩) (by show w.heap.size + 1 ≠ w.heap.size; omega) (.string yt.name)).aside (p := ⟨w.heap.size, 2, none⟩) (by show w.heap.size + 1 ≠ w.heap.size; omega) (.int .i64 yt.n)).aside (p := ⟨w.heap.size, 3, none⟩) (by show w.heap.size + 1 ≠ w.heap.size; omega) (.slice ya yt.args.length yc)).sets (.int .i64 xt.kind) (.string xt.name) (.int .i64 xt.n) (.slice xa xt.args.length xc)
  have hW1 := below_next HB2.out H1.out
  have HWU := ((((((((hW1.setCell (p := ⟨w.heap.size, 0, none⟩) (Nat.le_refl _) (.int .i64 yt.kind)).setCell (p := ⟨w.heap.size, 1, none⟩) (Nat.le_refl _) (.string yt.name)).setCell (p := ⟨w.heap.size, 2, none⟩) (Nat.le_refl _) (.int .i64 yt.n)).setCell (p := ⟨w.heap.size, 3, none⟩) (Nat.le_refl _) (.slice ya yt.args.length yc)).setCell (p := ⟨w.heap.size + 1, 0, none⟩) (Nat.le_succ _) (.int .i64 xt.kind)).setCell (p := ⟨w.heap.size + 1, 1, none⟩) (Nat.le_succ _) (.string xt.name)).setCell (p := ⟨w.heap.size + 1, 2, none⟩) (Nat.le_succ _) (.int .i64 xt.n)).setCell (p := ⟨w.heap.size + 1, 3, none⟩) (Nat.le_succ _) (.slice xa xt.args.length xc))
  obtain ⟨wv, hwv⟩ : ∃ wv, wv = ((((((((w1.setCell ⟨w.heap.size, 0, none⟩ (.int .i64 yt.kind)).setCell ⟨w.heap.size, 1, none⟩ (.string yt.name)).setCell ⟨w.heap.size, 2, none⟩ (.int .i64 yt.n)).setCell ⟨w.heap.size, 3, none⟩ (.slice ya yt.args.length yc)).setCell ⟨w.heap.size + 1, 0, none⟩ (.int .i64 xt.kind)).setCell ⟨w.heap.size + 1, 1, none⟩ (.string xt.name)).setCell ⟨w.heap.size + 1, 2, none⟩ (.int .i64 xt.n)).setCell ⟨w.heap.size + 1, 3, none⟩ (.slice xa xt.args.length xc)) := ⟨_, rfl⟩
  rw [← hwv] at BV BU HWU
  have HWV := Lib.hid HWU
  have KX := Lib.hid (fun (W : World) (h : Below wv.heap.size wv W) => BV.below h (lt_of_cell BV.c0))
  have KY := Lib.hid (fun (W : World) (h : Below wv.heap.size wv W) => BU.below h (lt_of_cell BU.c0))
  clear BX1 BY1 BV BU hW1 HWU
  have HT := Lib.hid (show xt.parts ≤ 2300000000000 by have := HF.out.one xt (.inl List.mem_cons_self); unfold mostT at this; omega)
  have VT := Lib.hid (fun (W : World) (h : Below wv.heap.size wv W) => (vars_tm ⟨xt, xa, xc⟩ W (HX.out.below (below_next HWV.out h)) HT.out).mono (fun e w' ⟨v, h1, h2, _, h3⟩ => (show ∃ a c, e = Ending.returned (.slice a xt.vars.length c) ∧ Strs w' (.slice a xt.vars.length c) xt.vars ∧ Below wv.heap.size wv w' from by
    obtain ⟨a, c, rfl, _⟩ := id h2
    exact ⟨a, c, h1, h2, below_next h h3⟩)))
  have IN := Lib.hid (fun (W : World) (v : Value) (h : Strs W v xt.vars) => rin_any v xt.vars yt.name W h)
  rw [HO.out] at IN
  have KEEP := Lib.hid (fun (W : World) (h : Below wv.heap.size wv W) => (show W.cell? ⟨w.heap.size, 1, none⟩ = some (.string yt.name) ∧ (W.cell? ⟨w.heap.size + 1, 0, none⟩ = some (.int .i64 xt.kind) ∧ W.cell? ⟨w.heap.size + 1, 1, none⟩ = some (.string xt.name) ∧ W.cell? ⟨w.heap.size + 1, 2, none⟩ = some (.int .i64 xt.n) ∧ W.cell? ⟨w.heap.size + 1, 3, none⟩ = some (.slice xa xt.args.length xc)) from by
    have b1 := KX.out W h
    have b2 := KY.out W h
    exact ⟨b1.c1, b2.c0, b2.c1, b2.c2, b2.c3⟩))
  have A0 := Lib.hid (show Below wv.heap.size wv wv.drew from (Below.refl _ _).drew)
  simp only [Tv.val] at VT
  go_wp2_with fail
  rw [← hwv]
  clear hwv p0 p1 p2 p3 f0 f1 f2 f3 q0 q1 q2 q3 g0 g1 g2 g3
  go_region_held3 (fun W => W.cell? ⟨w.heap.size, 1, none⟩ = some (.string yt.name) ∧ (W.cell? ⟨w.heap.size + 1, 0, none⟩ = some (.int .i64 xt.kind) ∧ W.cell? ⟨w.heap.size + 1, 1, none⟩ = some (.string xt.name) ∧ W.cell? ⟨w.heap.size + 1, 2, none⟩ = some (.int .i64 xt.n) ∧ W.cell? ⟨w.heap.size + 1, 3, none⟩ = some (.slice xa xt.args.length xc))) (first | exact KEEP.out _ A0.out | exact KEEP.out _ (by with_reducible assumption))
    ((first
      | (go_at_call 26; refine (VT.out _ A0.out).mono ?_; rintro e w2 ⟨av, cv, rfl, hv, hb2'⟩)
      | (go_at_call 25; refine (IN.out _ _ hv).mono ?_; rintro e w3 ⟨rfl, rfl⟩)))
  obtain ⟨s1, s2, s3, s4, s5⟩ := KEEP.out w2 hb2'
  have hw2 := below_next HWV.out hb2'
  have hBz : Below w2.heap.size w2 (w2.alloc (.cells #[.string yt.name, .int .i64 xt.kind, .string xt.name, .int .i64 xt.n, .slice xa xt.args.length xc] 41)) := (Below.refl _ _).alloc (Nat.le_refl _) _
  have hzB : (w2.alloc (.cells #[.string yt.name, .int .i64 xt.kind, .string xt.name, .int .i64 xt.n, .slice xa xt.args.length xc] 41)).heap.size = w2.heap.size + 1 := by simp
  have bT := fun i => World.cell?_alloc_mark w2 #[.string yt.name, .int .i64 xt.kind, .string xt.name, .int .i64 xt.n, .slice xa xt.args.length xc] 41 (0, 0) i
  obtain ⟨w3, hw3⟩ : ∃ w3, w3 = w2.alloc (.cells #[.string yt.name, .int .i64 xt.kind, .string xt.name, .int .i64 xt.n, .slice xa xt.args.length xc] 41) := ⟨_, rfl⟩
  rw [← hw3] at hBz hzB bT
  have hBW : Below w.heap.size w w3 := below_next hw2 hBz
  have KB := Lib.hid (fun (W : World) (h : Below w3.heap.size w3 W) => (show W.cell? ⟨w2.heap.size, 0, none⟩ = some (.string yt.name) ∧ W.cell? ⟨w2.heap.size, 1, none⟩ = some (.int .i64 xt.kind) ∧ W.cell? ⟨w2.heap.size, 2, none⟩ = some (.string xt.name) ∧ W.cell? ⟨w2.heap.size, 3, none⟩ = some (.int .i64 xt.n) ∧ W.cell? ⟨w2.heap.size, 4, none⟩ = some (.slice xa xt.args.length xc) from
    ⟨(h.cell (p := ⟨w2.heap.size, 0, none⟩) (by show w2.heap.size < _; omega)).trans (bT 0), (h.cell (p := ⟨w2.heap.size, 1, none⟩) (by show w2.heap.size < _; omega)).trans (bT 1), (h.cell (p := ⟨w2.heap.size, 2, none⟩) (by show w2.heap.size < _; omega)).trans (bT 2), (h.cell (p := ⟨w2.heap.size, 3, none⟩) (by show w2.heap.size < _; omega)).trans (bT 3), (h.cell (p := ⟨w2.heap.size, 4, none⟩) (by show w2.heap.size < _; omega)).trans (bT 4)⟩))
  have HPU := Lib.hid (HF.out.put (s := yt.name) (t := xt) (.inl rfl) HOV.out)
  have HB3 := Lib.hid hBW
  have ON1 := Lib.hid (fun (W : World) (h0 : Below w3.heap.size w3 W) => have h := below_next HB3.out h0; (one_any ⟨yt.name, ⟨xt, xa, xc⟩⟩ (.slice A1 us.length (c1 - 1)) us w W HX.out HY.out.1.len ⟨_, _, rfl, HT1.out⟩ h (fun t ht => by have := HF.out.one t (.inl (List.mem_cons_of_mem _ ht)); unfold mostT at this; omega) (by have := HF.out.len; rw [List.length_cons] at this; unfold mostT at this; omega)).mono (fun e w' ⟨u, h1, h2, h3⟩ => (show ∃ a c, e = Ending.returned (.slice a us.length c) ∧ Tms w' (.slice a us.length c) (appL [(yt.name, xt)] us) ∧ Below w3.heap.size w3 w' from by
    obtain ⟨a, c, rfl, _⟩ := id h2
    have h4 : Tms w' (.slice a (appL [(yt.name, xt)] us).length c) (appL [(yt.name, xt)] us) := h2
    rw [appL_len] at h4
    exact ⟨a, c, by rw [h1]; congr 2; exact appL_len _ _, h4, below_next h0 h3⟩)))
  have ON2 := Lib.hid (fun (W : World) (h0 : Below w3.heap.size w3 W) => have h := below_next HB3.out h0; (one_any ⟨yt.name, ⟨xt, xa, xc⟩⟩ (.slice A2 bs.length (c2 - 1)) bs w W HX.out HY.out.1.len ⟨_, _, rfl, HT2.out⟩ h (fun t ht => by have := HF.out.one t (.inr (List.mem_cons_of_mem _ ht)); unfold mostT at this; omega) (by have := HF.out.len; rw [List.length_cons, HLEN.out] at this; unfold mostT at this; omega)).mono (fun e w' ⟨u, h1, h2, h3⟩ => (show ∃ a c, e = Ending.returned (.slice a bs.length c) ∧ Tms w' (.slice a bs.length c) (appL [(yt.name, xt)] bs) ∧ Below W.heap.size W w' from by
    obtain ⟨a, c, rfl, _⟩ := id h2
    have h4 : Tms w' (.slice a (appL [(yt.name, xt)] bs).length c) (appL [(yt.name, xt)] bs) := h2
    rw [appL_len] at h4
    exact ⟨a, c, by rw [h1]; congr 2; exact appL_len _ _, h4, h3⟩)))
  have RC := Lib.hid (fun (W : World) (va vb : Value) (ha : Tms W va (appL [(yt.name, xt)] us)) (hb : Tms W vb (appL [(yt.name, xt)] bs)) => (HIH.out va vb W ha hb HPU.out (by rw [appL_len, appL_len]; exact HLEN.out) o HRO.out.1 (fun l hl => by have := HRO.out.2 l hl; omega)).mono (fun e w' ⟨u, h1, h2, h3⟩ => (show ∃ (a : Option Addr) (c : Nat), e = Ending.returned (.tuple #[.slice a (o.getD []).length c, .bool o.isSome]) ∧ Bds w' (.slice a (o.getD []).length c) (o.getD []) ∧ Below W.heap.size W w' from by
    obtain ⟨a, c, rfl, _⟩ := id h2
    exact ⟨a, c, h1, h2, h3⟩)))
  have HBW := Lib.hid hBW
  have B0 := Lib.hid (show Below w3.heap.size w3 w3.drew from (Below.refl _ _).drew)
  have HW0 := Lib.hid (hBW.drew)
  have HVN := Lib.hid HY.out.1.len
  have HTO := Lib.hid HX.out
  simp only [Bv.val] at ON1 ON2
  simp only at HVN
  clear hw2 hBz hzB bT hBW hb2' hv
  go_wp2_with fail
  rw [← hw3]
  clear hw3 s1 s2 s3 s4 s5
  go_region_held3 (fun W => W.cell? ⟨w2.heap.size, 0, none⟩ = some (.string yt.name) ∧ W.cell? ⟨w2.heap.size, 1, none⟩ = some (.int .i64 xt.kind) ∧ W.cell? ⟨w2.heap.size, 2, none⟩ = some (.string xt.name) ∧ W.cell? ⟨w2.heap.size, 3, none⟩ = some (.int .i64 xt.n) ∧ W.cell? ⟨w2.heap.size, 4, none⟩ = some (.slice xa xt.args.length xc)) (first | exact KB.out _ B0.out | exact KB.out _ (by with_reducible assumption))
    ((first
      | (go_at_call_has 27 (Value.slice A1 us.length (c1 - 1)); refine (ON1.out _ B0.out).mono ?_; rintro e w4 ⟨a4, c4, rfl, ht4, hn4⟩)
      | (go_at_call 27; refine (ON2.out _ hn4).mono ?_; rintro e w5 ⟨a5, c5, rfl, ht5, hb5⟩; have hn5 := below_next hn4 hb5)
      | (go_at_call 9; refine (RC.out _ _ _ (ht4.below hb5) ht5).mono ?_; rintro e w6 ⟨a6, c6, rfl, hu6, hb6⟩; have hn6 := below_next hn5 hb6)))
  have HE6 := Lib.hid (below_next HB3.out hn6)
  have HU6 := Lib.hid hu6
  obtain ⟨t1, t2, t3, t4, t5⟩ := KB.out w6 hn6
  clear hn4 hn5 hn6 hb5 hb6 ht4 ht5 hu6 ON1 ON2 RC KB
  cases o with
  | none =>
    go_wp2_with fail
    go_ret2
    exact ⟨_, rfl, Bds.none_ _ _ _, HE6.out⟩
  | some m =>
    simp only [Option.getD_some, Option.isSome_some] at HU6 ⊢
    have hml : m.length ≤ 999 := HRO.out.2 m rfl
    obtain ⟨aB, cB, vsB, eB, hBt, hBo, hBx, hBc⟩ := bds_open HU6.out (Below.refl _ _)
    cases eB
    have hBl : vsB.length = m.length := by rw [← hBt, List.length_map]
    have HBB := Lib.hid (And.intro hBx (And.intro (show (rowBv vsB).length = m.length * 5 by rw [rowBv_length, hBl]) (And.intro hBc (rowBv_one' vsB))))
    have HBT := Lib.hid (And.intro hBt (And.intro hBo hBl))
    obtain ⟨i0, hi, hz0, hz1, hz2⟩ := info_parts bindInfo
    have HOW := Lib.hid (own_one5 w6 ⟨yt.name, ⟨xt, xa, xc⟩⟩ w6.heap.size (Nat.le_refl _))
    have HA6 := Lib.hid (show Below w6.heap.size w6 (w6.alloc (.cells #[.string yt.name, .int .i64 xt.kind, .string xt.name, .int .i64 xt.n, .slice xa xt.args.length xc] 41)) from (Below.refl _ _).alloc (Nat.le_refl _) _)
    simp only at HOW
    clear hBt hBo hBx hBc hBl
    go_wp2_with (at_builtin; refine wpList_append_opt rfl _ _ 27 rfl w6.heap.size 41 i0 (.agg #[.string ⟨#[]⟩, .int .i64 0, .string ⟨#[]⟩, .int .i64 0, .slice none 0 0]) 5 72 Try.underlying27 hi hz0 hz1 hz2 rfl (by decide) (.slice (some ⟨w6.heap.size, 0, none⟩) 1 1) 1 _ rfl HOW.out a6 m.length c6 (rowBv vsB) rfl HBB.out.1 HBB.out.2.1 (HBB.out.2.2.1 _ HA6.out) HBB.out.2.2.2 ?ap3 ?ap4 ?ap5 ?_)
    case ap3 => unfold maxLen; omega
    case ap4 => omega
    case ap5 => exact HA6.out.size
    intro v7 w7 hown7 hg7 _
    have hb7 : Below w6.heap.size w6 w7 := HA6.out.grown hg7 HA6.out.size (fun k e => by cases e; exact Nat.le_refl _)
    have hbd : Bds w7 v7 ((yt.name, xt) :: m) := by
      rw [← HBT.out.1]
      have h7 : w7.ownsRow w6.heap.size 41 5 v7 (1 + m.length) (rowBv (⟨yt.name, ⟨xt, xa, xc⟩⟩ :: vsB)) := hown7
      refine bds_own (w0 := w7) (vs := ⟨yt.name, ⟨xt, xa, xc⟩⟩ :: vsB) h7 (by rw [List.length_cons, HBT.out.2.2]; omega) (fun x hx => ?_) (Below.refl _ _) (by omega)
      rcases List.mem_cons.1 hx with rfl | hx
      · exact ⟨HTO.out.below (below_next HE6.out hb7), HVN.out⟩
      · exact ⟨(HBT.out.2.1 x hx).1.below hb7, (HBT.out.2.1 x hx).2⟩
    have HBD := Lib.hid hbd
    have HB7 := Lib.hid (below_next HE6.out hb7)
    obtain ⟨a7, c7, rfl, _, _⟩ := hbd
    clear hown7 hg7 hb7 t1 t2 t3 t4 t5
    go_wp2_with fail
    go_ret2
    exact ⟨_, rfl, HBD.out, HB7.out⟩
end Go.Proofs.Ytedljdcliilggaa
