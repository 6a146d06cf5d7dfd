/-
  Lists that are made alike, by the reference of layer 7: the first two can't be, or their arguments are.
  The binds by which lists are made alike, in the order in which they are found, by the reference of layer 7: Row.
  Whether all variables of a term are plain, by the reference of layer 6: Plain.
  Whether a term is small and its variables plain, by the reference of layer 7: Fits, Binds.
  A drawn region whose operations read and whose callees make new memory alone, walked once in the order of the text: Quiet's theorem at the class of the worlds that lie behind a given one. No function of the program.
-/
import Derived.Test.YtedljdcliilggaaU10
import Derived.Test.YtedljdcliilggaaU11
import Derived.Test.YtedljdcliilggaaU09
import Derived.Test.YtedljdcliilggaaU07
import Derived.Test.YtedljdcliilggaaU03
import Derived.Test.YtedljdcliilggaaU01
import Derived.Deep.QuietTactic
namespace Go.Proofs.Ytedljdcliilggaa
open Go.RowKit

set_option maxRecDepth 100000 in
set_option maxHeartbeats 4000000 in
theorem rrow_clash (x y : Tm) (us bs : List Tm) (va vb : Value) (w : World) (ha : Tms w va (x :: us)) (hb : Tms w vb (y :: bs)) (hfine : Fine (x :: us) (y :: bs)) (hlen : us.length = bs.length) (hk : x.kind ≠ 1) (hl : y.kind ≠ 1) (hh : ¬ (headB x y = true ∧ x.args.length = y.args.length)) :
    Calls Try.prog 9 #[va, vb] w (RowPost none w) := by
  obtain ⟨a1, c1, rfl, hA1⟩ := ha
  obtain ⟨a2, c2, rfl, hA2⟩ := hb
  obtain ⟨b1, o1, rfl, hlt1, hat1⟩ := hA1.2.resolve_left (by simp)
  obtain ⟨b2, o2, rfl, hlt2, hat2⟩ := hA2.2.resolve_left (by simp)
  rw [RowAt] at hat1 hat2
  obtain ⟨⟨xt, xa, xc⟩, hxt, hxo, hxv⟩ := tmAt_tv hat1.1
  obtain ⟨⟨yt, ya, yc⟩, hyt, hyo, hyv⟩ := tmAt_tv hat2.1
  obtain rfl : xt = x := hxt
  obtain rfl : yt = y := hyt
  obtain ⟨A1, hQ1⟩ : ∃ A1, (if c1 = 1 then some (⟨b1, o1, none⟩ : Addr) else some ⟨b1, o1 + 4, none⟩) = A1 := ⟨_, rfl⟩
  obtain ⟨A2, hQ2⟩ : ∃ A2, (if c2 = 1 then some (⟨b2, o2, none⟩ : Addr) else some ⟨b2, o2 + 4, none⟩) = A2 := ⟨_, rfl⟩
  have HT1 := Lib.hid (show Args w A1 (c1 - 1) us from hQ1 ▸ args_tail7 hA1)
  have HT2 := Lib.hid (show Args w A2 (c2 - 1) bs from hQ2 ▸ args_tail7 hA2)
  obtain ⟨m0, m1, m2, m3⟩ := hxv
  obtain ⟨k0, k1, k2, k3⟩ := hyv
  simp only at m0 m1 m2 m3 k0 k1 k2 k3
  have bX := (box_new w (.int .i64 xt.kind) (.string xt.name) (.int .i64 xt.n) (.slice xa xt.args.length xc) 24).below ((Below.refl _ _).alloc (Nat.le_refl _) (.cells #[.int .i64 yt.kind, .string yt.name, .int .i64 yt.n, .slice ya yt.args.length yc] 24)) (by simp)
  have bY := alloc_two w (.cells #[.int .i64 xt.kind, .string xt.name, .int .i64 xt.n, .slice xa xt.args.length xc] 24) (.int .i64 yt.kind) (.string yt.name) (.int .i64 yt.n) (.slice ya yt.args.length yc) 24
  have hB2 := below_two w (.cells #[.int .i64 xt.kind, .string xt.name, .int .i64 xt.n, .slice xa xt.args.length xc] 24) (.cells #[.int .i64 yt.kind, .string yt.name, .int .i64 yt.n, .slice ya yt.args.length yc] 24)
  obtain ⟨wz, hwz⟩ : ∃ wz, wz = ((w.alloc (.cells #[.int .i64 xt.kind, .string xt.name, .int .i64 xt.n, .slice xa xt.args.length xc] 24)).alloc (.cells #[.int .i64 yt.kind, .string yt.name, .int .i64 yt.n, .slice ya yt.args.length yc] 24)) := ⟨_, rfl⟩
  have hzs : wz.heap.size = w.heap.size + 2 := by rw [hwz]; simp
  rw [← hwz] at bX bY hB2
  have HBX := Lib.hid (fun (V : World) (h : Below wz.heap.size wz V) => bX.below h (by omega))
  have HBY := Lib.hid (fun (V : World) (h : Below wz.heap.size wz V) => bY.below h (by omega))
  have HB2 := Lib.hid hB2
  have HX := Lib.hid hxo
  have HY := Lib.hid hyo
  have HF := Lib.hid hfine
  have HLEN := Lib.hid hlen
  have HZS := Lib.hid hzs
  have n1 : (1 : Int) ≤ ((us.length : Nat) : Int) + 1 := by omega
  have n2 : (1 : Int) ≤ ((bs.length : Nat) : Int) + 1 := by omega
  have e1 : (((us.length : Nat) : Int) + 1 == 0) = false := by rw [beq_eq_false_iff_ne]; omega
  have hb1 : b1 < wz.heap.size := by omega
  have hb2 : b2 < wz.heap.size := by omega
  have SM := Lib.hid (same_tm xt.parts ⟨xt, xa, xc⟩ ⟨yt, ya, yc⟩ wz (Nat.le_refl _) (hxo.below hB2) (hyo.below hB2))
  obtain ⟨p0, p1, p2, p3, _, _, _, _⟩ := bX
  obtain ⟨q0, q1, q2, q3, _, _, _, _⟩ := bY
  simp only [List.length_cons]
  simp only [Tv.val] at SM
  rw [eqT_false (show (⟨xt, xa, xc⟩ : Tv).t ≠ (⟨yt, ya, yc⟩ : Tv).t from fun e => by have e : xt = yt := e; rw [e] at hh; exact hh ⟨headB_iff.2 ⟨rfl, rfl, rfl⟩, rfl⟩)] at SM
  have hk1 : (xt.kind != 1) = true := by rw [bne_iff_ne]; exact hk
  have hk2 : (xt.kind == 1) = false := by rw [beq_eq_false_iff_ne]; exact hk
  have hl1 : (yt.kind == 1) = false := by rw [beq_eq_false_iff_ne]; exact hl
  have HH := Lib.hid (show ((xt.kind != yt.kind) || (xt.n != yt.n) || !(xt.name.toList == yt.name.toList) || ((xt.args.length : Int) != (yt.args.length : Int))) = true from by
    rw [Bool.or_eq_true, Bool.or_eq_true, Bool.or_eq_true, bne_iff_ne, bne_iff_ne, bne_iff_ne, Bool.not_eq_true']
    refine Classical.byContradiction fun hc => hh ?_
    rw [not_or, not_or, not_or] at hc
    obtain ⟨⟨⟨c1, c2⟩, c3⟩, c4⟩ := hc
    refine ⟨headB_iff.2 ⟨Classical.byContradiction c1, Classical.byContradiction c2, beq_name.1 (by cases h : (xt.name.toList == yt.name.toList) with | true => rfl | false => exact absurd h c3)⟩, ?_⟩
    have := Classical.byContradiction c4
    omega)
  clear hk hl hh
  clear hA1 hA2 hat1 hat2 hxo hyo hfine hlen hB2 hzs
  go_enter Try.func9, Try.ntmps9
  go_wp2_with fail
  rw [← hwz]
  refine SM.out.mono ?_; rintro e w1 ⟨rfl, hs1⟩
  have H1 := Lib.hid hs1
  clear hs1 hwz SM m0 m1 m2 m3 k0 k1 k2 k3 p0 p1 p2 p3 q0 q1 q2 q3
  obtain ⟨p0, p1, p2, p3, f0, f1, f2, f3⟩ := HBX.out w1 H1.out
  obtain ⟨q0, q1, q2, q3, g0, g1, g2, g3⟩ := HBY.out w1 H1.out
  have HWV := Lib.hid (below_next HB2.out H1.out)
  obtain ⟨k1, hq1⟩ : ∃ k1, (xt.kind != yt.kind) = k1 := ⟨_, rfl⟩
  obtain ⟨k2, hq2⟩ : ∃ k2, (xt.n != yt.n) = k2 := ⟨_, rfl⟩
  obtain ⟨k3, hq3⟩ : ∃ k3, (xt.name.toList == yt.name.toList) = k3 := ⟨_, rfl⟩
  obtain ⟨k4, hq4⟩ : ∃ k4, ((xt.args.length : Int) != (yt.args.length : Int)) = k4 := ⟨_, rfl⟩
  have hq1' : (xt.kind == yt.kind) = !k1 := by rw [← hq1]; simp [bne]
  have hq2' : (xt.n == yt.n) = !k2 := by rw [← hq2]; simp [bne]
  have hq4' : ((xt.args.length : Int) == (yt.args.length : Int)) = !k4 := by rw [← hq4]; simp [bne]
  have HE := HH.out
  rw [hq1, hq2, hq3, hq4] at HE
  have HF2 := Lib.hid HE
  clear HE HH
  cases k1 <;> cases k2 <;> cases k3 <;> cases k4
  all_goals
    first
    | (exfalso; have := HF2.out; simp at this; done)
    | (simp only [Bool.not_true, Bool.not_false] at hq1' hq2' hq4'
       go_wp2_with fail
       go_ret2
       exact ⟨_, rfl, Bds.none_ _ _ _, HWV.out⟩)

set_option maxRecDepth 100000 in
set_option maxHeartbeats 4000000 in
theorem rrow_args (x y : Tm) (us bs : List Tm) (va vb : Value) (w : World) (ha : Tms w va (x :: us)) (hb : Tms w vb (y :: bs)) (hfine : Fine (x :: us) (y :: bs)) (hlen : us.length = bs.length) (o : Option (List Bn)) (hn : x ≠ y) (hk : x.kind ≠ 1) (hl : y.kind ≠ 1) (hh : headB x y = true) (he : x.args.length = y.args.length) (IH : RowAsk (x.args ++ us) (y.args ++ bs)) (hr : RowU (x.args ++ us) (y.args ++ bs) o) (hol : ∀ l, o = some l → l.length ≤ 1000) :
    Calls Try.prog 9 #[va, vb] w (RowPost o w) := by
  obtain ⟨a1, c1, rfl, hA1⟩ := ha
  obtain ⟨a2, c2, rfl, hA2⟩ := hb
  obtain ⟨b1, o1, rfl, hlt1, hat1⟩ := hA1.2.resolve_left (by simp)
  obtain ⟨b2, o2, rfl, hlt2, hat2⟩ := hA2.2.resolve_left (by simp)
  rw [RowAt] at hat1 hat2
  obtain ⟨⟨xt, xa, xc⟩, hxt, hxo, hxv⟩ := tmAt_tv hat1.1
  obtain ⟨⟨yt, ya, yc⟩, hyt, hyo, hyv⟩ := tmAt_tv hat2.1
  obtain rfl : xt = x := hxt
  obtain rfl : yt = y := hyt
  obtain ⟨A1, hQ1⟩ : ∃ A1, (if c1 = 1 then some (⟨b1, o1, none⟩ : Addr) else some ⟨b1, o1 + 4, none⟩) = A1 := ⟨_, rfl⟩
  obtain ⟨A2, hQ2⟩ : ∃ A2, (if c2 = 1 then some (⟨b2, o2, none⟩ : Addr) else some ⟨b2, o2 + 4, none⟩) = A2 := ⟨_, rfl⟩
  have HT1 := Lib.hid (show Args w A1 (c1 - 1) us from hQ1 ▸ args_tail7 hA1)
  have HT2 := Lib.hid (show Args w A2 (c2 - 1) bs from hQ2 ▸ args_tail7 hA2)
  obtain ⟨m0, m1, m2, m3⟩ := hxv
  obtain ⟨k0, k1, k2, k3⟩ := hyv
  simp only at m0 m1 m2 m3 k0 k1 k2 k3
  have bX := (box_new w (.int .i64 xt.kind) (.string xt.name) (.int .i64 xt.n) (.slice xa xt.args.length xc) 24).below ((Below.refl _ _).alloc (Nat.le_refl _) (.cells #[.int .i64 yt.kind, .string yt.name, .int .i64 yt.n, .slice ya yt.args.length yc] 24)) (by simp)
  have bY := alloc_two w (.cells #[.int .i64 xt.kind, .string xt.name, .int .i64 xt.n, .slice xa xt.args.length xc] 24) (.int .i64 yt.kind) (.string yt.name) (.int .i64 yt.n) (.slice ya yt.args.length yc) 24
  have hB2 := below_two w (.cells #[.int .i64 xt.kind, .string xt.name, .int .i64 xt.n, .slice xa xt.args.length xc] 24) (.cells #[.int .i64 yt.kind, .string yt.name, .int .i64 yt.n, .slice ya yt.args.length yc] 24)
  obtain ⟨wz, hwz⟩ : ∃ wz, wz = ((w.alloc (.cells #[.int .i64 xt.kind, .string xt.name, .int .i64 xt.n, .slice xa xt.args.length xc] 24)).alloc (.cells #[.int .i64 yt.kind, .string yt.name, .int .i64 yt.n, .slice ya yt.args.length yc] 24)) := ⟨_, rfl⟩
  have hzs : wz.heap.size = w.heap.size + 2 := by rw [hwz]; simp
  rw [← hwz] at bX bY hB2
  have HBX := Lib.hid (fun (V : World) (h : Below wz.heap.size wz V) => bX.below h (by omega))
  have HBY := Lib.hid (fun (V : World) (h : Below wz.heap.size wz V) => bY.below h (by omega))
  have HB2 := Lib.hid hB2
  have HX := Lib.hid hxo
  have HY := Lib.hid hyo
  have HF := Lib.hid hfine
  have HLEN := Lib.hid hlen
  have HZS := Lib.hid hzs
  have n1 : (1 : Int) ≤ ((us.length : Nat) : Int) + 1 := by omega
  have n2 : (1 : Int) ≤ ((bs.length : Nat) : Int) + 1 := by omega
  have e1 : (((us.length : Nat) : Int) + 1 == 0) = false := by rw [beq_eq_false_iff_ne]; omega
  have hb1 : b1 < wz.heap.size := by omega
  have hb2 : b2 < wz.heap.size := by omega
  have SM := Lib.hid (same_tm xt.parts ⟨xt, xa, xc⟩ ⟨yt, ya, yc⟩ wz (Nat.le_refl _) (hxo.below hB2) (hyo.below hB2))
  obtain ⟨p0, p1, p2, p3, _, _, _, _⟩ := bX
  obtain ⟨q0, q1, q2, q3, _, _, _, _⟩ := bY
  simp only [List.length_cons]
  simp only [Tv.val] at SM
  rw [eqT_false (show (⟨xt, xa, xc⟩ : Tv).t ≠ (⟨yt, ya, yc⟩ : Tv).t from hn)] at SM
  have hk1 : (xt.kind != 1) = true := by rw [bne_iff_ne]; exact hk
  have hk2 : (xt.kind == 1) = false := by rw [beq_eq_false_iff_ne]; exact hk
  have hl1 : (yt.kind == 1) = false := by rw [beq_eq_false_iff_ne]; exact hl
  obtain ⟨hx1, hx2, hx3⟩ := headB_iff.1 hh
  have hq1 : (xt.kind != yt.kind) = false := by rw [hx1]; simp
  have hq1' : (xt.kind == yt.kind) = true := by rw [hx1]; simp
  have hq2 : (xt.n != yt.n) = false := by rw [hx2]; simp
  have hq2' : (xt.n == yt.n) = true := by rw [hx2]; simp
  have hq3 : (xt.name.toList == yt.name.toList) = true := beq_name.2 hx3
  have hq4 : ((xt.args.length : Int) != (yt.args.length : Int)) = false := by rw [he]; simp
  have hq4' : ((xt.args.length : Int) == (yt.args.length : Int)) = true := by rw [he]; simp
  obtain ⟨hxn, hyn⟩ := head_args hn hh he
  obtain ⟨ad1, hD1⟩ : ∃ ad, A1 = some ad := by rw [← hQ1]; split <;> exact ⟨_, rfl⟩
  obtain ⟨ad2, hD2⟩ : ∃ ad, A2 = some ad := by rw [← hQ2]; split <;> exact ⟨_, rfl⟩
  rw [hD1] at HT1 hQ1
  rw [hD2] at HT2 hQ2
  obtain ⟨b3, o3, hx3a, _, _⟩ := hxo.2.2.resolve_left hxn
  obtain ⟨b4, o4, hy3a, _, _⟩ := hyo.2.2.resolve_left hyn
  simp only at hx3a hy3a
  subst hx3a hy3a
  obtain ⟨vA, hA1', hA2', hA3'⟩ := args_vs hxo.2
  obtain ⟨vU, hU1', hU2', hU3'⟩ := args_vs HT1.out
  obtain ⟨vB, hB1', hB2', hB3'⟩ := args_vs hyo.2
  obtain ⟨vS, hS1', hS2', hS3'⟩ := args_vs HT2.out
  simp only at hA1' hB1'
  have lA : (rowTv vA).length = xt.args.length * 4 := by rw [rowTv_length, ← hA1', List.length_map]
  have lU : (rowTv vU).length = us.length * 4 := by rw [rowTv_length, ← hU1', List.length_map]
  have lB : (rowTv vB).length = yt.args.length * 4 := by rw [rowTv_length, ← hB1', List.length_map]
  have lS : (rowTv vS).length = bs.length * 4 := by rw [rowTv_length, ← hS1', List.length_map]
  have HVA := Lib.hid (And.intro hA1' (And.intro hA2' (And.intro hA3' (And.intro lA (rowTv_one' vA)))))
  have HVU := Lib.hid (And.intro hU1' (And.intro hU2' (And.intro hU3' (And.intro lU (rowTv_one' vU)))))
  have HVB := Lib.hid (And.intro hB1' (And.intro hB2' (And.intro hB3' (And.intro lB (rowTv_one' vB)))))
  have HVS := Lib.hid (And.intro hS1' (And.intro hS2' (And.intro hS3' (And.intro lS (rowTv_one' vS)))))
  have hFA := hfine.args hk he
  have hLA := hFA.len
  rw [List.length_append] at hLA
  have HLA := Lib.hid hLA
  have HFA := Lib.hid hFA
  have HEL := Lib.hid he
  have HRO := Lib.hid (And.intro hr hol)
  have HIH := Lib.hid IH
  clear hn hk hl hh he hx1 hx2 hx3 hD1 hD2 hxn hyn hA1' hA2' hA3' hU1' hU2' hU3' hB1' hB2' hB3' hS1' hS2' hS3' lA lU lB lS hFA hLA IH hr hol
  clear hA1 hA2 hat1 hat2 hxo hyo hfine hlen hB2 hzs
  go_enter Try.func9, Try.ntmps9
  go_wp2_with fail
  rw [← hwz]
  refine SM.out.mono ?_; rintro e w1 ⟨rfl, hs1⟩
  have H1 := Lib.hid hs1
  clear hs1 hwz SM m0 m1 m2 m3 k0 k1 k2 k3 p0 p1 p2 p3 q0 q1 q2 q3
  obtain ⟨p0, p1, p2, p3, f0, f1, f2, f3⟩ := HBX.out w1 H1.out
  obtain ⟨q0, q1, q2, q3, g0, g1, g2, g3⟩ := HBY.out w1 H1.out
  have HWV := Lib.hid (below_next HB2.out H1.out)
  obtain ⟨i0, hi, hz0, hz1, hz2⟩ := info_parts termInfo
  have hm1 : 0 + xt.args.length ≤ maxLen := by have := HLA.out; unfold mostT at this; unfold maxLen; omega
  have hm2 : (0 + xt.args.length) * 56 ≤ 140737488355328 := by have := HLA.out; unfold mostT at this; omega
  have hm3 : xt.args.length + us.length ≤ maxLen := by have := HLA.out; unfold mostT at this; unfold maxLen; omega
  have hm4 : (xt.args.length + us.length) * 56 ≤ 140737488355328 := by have := HLA.out; unfold mostT at this; omega
  have hm5 : 0 + yt.args.length ≤ maxLen := by have := HLA.out; have := HEL.out; unfold mostT at this; unfold maxLen; omega
  have hm6 : (0 + yt.args.length) * 56 ≤ 140737488355328 := by have := HLA.out; have := HEL.out; unfold mostT at *; omega
  have hm7 : yt.args.length + bs.length ≤ maxLen := by have := HLA.out; have := HEL.out; have := HLEN.out; unfold mostT at *; unfold maxLen; omega
  have hm8 : (yt.args.length + bs.length) * 56 ≤ 140737488355328 := by have := HLA.out; have := HEL.out; have := HLEN.out; unfold mostT at *; omega
  have BG := Lib.hid (fun (W W' : World) (v : Value) (n : Nat) (xs : List Value) (hW : Below w1.heap.size w1 W) (h : W.ownsRow w1.heap.size 24 4 v n xs) (hg : W.grownBy W' v.ownBlock) => (show Below w1.heap.size w1 W' from hW.grown hg hW.size (own_row_ge h)))
  have BD := Lib.hid (fun (W : World) (hW : Below w1.heap.size w1 W) => (show Below w1.heap.size w1 W.drew from hW.drew))
  have BS := Lib.hid (fun (W : World) (hW : Below w1.heap.size w1 W) => (show w1.heap.size ≤ W.heap.size from hW.size))
  have O0 := Lib.hid (fun (W : World) => World.ownsRow_nil W w1.heap.size 24 4)
  have D1 := Lib.hid (BD.out _ (Below.refl _ _))
  go_wp2_with fail
  go_region_law
    ((first
      | (refine step_append_at rfl _ _ 22 rfl w1.heap.size 24 i0 (.agg #[.int .i64 0, .string ⟨#[]⟩, .int .i64 0, .slice none 0 0]) 4 56 Try.underlying22 hi hz0 hz1 hz2 rfl (by decide) (.slice none 0 0) 0 [] rfl (O0.out _) ⟨b3, o3, none⟩ xt.args.length xc (rowTv vA) rfl HVA.out.2.2.2.1 (HVA.out.2.2.1 _ (below_next HWV.out D1.out)) HVA.out.2.2.2.2 hm1 hm2 (BS.out _ D1.out) _ rfl ?_; intro v2 w2 hown2 hg2 _; have hn2 := BG.out _ _ _ _ _ D1.out (O0.out _) hg2; rw [Nat.zero_add, List.nil_append] at hown2; obtain ⟨a2', c2', rfl⟩ := own_form7 hown2)
      | (refine step_append_at rfl _ _ 22 rfl w1.heap.size 24 i0 (.agg #[.int .i64 0, .string ⟨#[]⟩, .int .i64 0, .slice none 0 0]) 4 56 Try.underlying22 hi hz0 hz1 hz2 rfl (by decide) (.slice a2' xt.args.length c2') xt.args.length (rowTv vA) rfl hown2 ad1 us.length (c1 - 1) (rowTv vU) rfl HVU.out.2.2.2.1 (HVU.out.2.2.1 _ (below_next HWV.out hn2)) HVU.out.2.2.2.2 hm3 hm4 (BS.out _ hn2) _ rfl ?_; intro v3 w3 hown3 hg3 _; have hn3 := BG.out _ _ _ _ _ hn2 hown2 hg3; obtain ⟨a3', c3', rfl⟩ := own_form7 hown3)))
  all_goals
    have HN3 := Lib.hid hn3
    have HO3 := Lib.hid hown3
    clear hown2 hown3 hg2 hg3 hn2 hn3 p0 p1 p2 p3 f0 f1 f2 f3 q0 q1 q2 q3 g0 g1 g2 g3
    obtain ⟨q0, q1, q2, q3, _, _, _, _⟩ := HBY.out w3 (below_next H1.out HN3.out)
    have D3 := Lib.hid (BD.out _ HN3.out)
    go_wp2_with fail
    go_region_law
      ((first
        | (refine step_append_at rfl _ _ 22 rfl w1.heap.size 24 i0 (.agg #[.int .i64 0, .string ⟨#[]⟩, .int .i64 0, .slice none 0 0]) 4 56 Try.underlying22 hi hz0 hz1 hz2 rfl (by decide) (.slice none 0 0) 0 [] rfl (O0.out _) ⟨b4, o4, none⟩ yt.args.length yc (rowTv vB) rfl HVB.out.2.2.2.1 (HVB.out.2.2.1 _ (below_next HWV.out D3.out)) HVB.out.2.2.2.2 hm5 hm6 (BS.out _ D3.out) _ rfl ?_; intro v4 w4 hown4 hg4 hat4; have hn4 := BG.out _ _ _ _ _ D3.out (O0.out _) hg4; rw [Nat.zero_add, List.nil_append] at hown4; obtain ⟨a4', c4', rfl⟩ := own_form7 hown4)
        | (refine step_append_at rfl _ _ 22 rfl w1.heap.size 24 i0 (.agg #[.int .i64 0, .string ⟨#[]⟩, .int .i64 0, .slice none 0 0]) 4 56 Try.underlying22 hi hz0 hz1 hz2 rfl (by decide) (.slice a4' yt.args.length c4') yt.args.length (rowTv vB) rfl hown4 ad2 bs.length (c2 - 1) (rowTv vS) rfl HVS.out.2.2.2.1 (HVS.out.2.2.1 _ (below_next HWV.out hn4)) HVS.out.2.2.2.2 hm7 hm8 (BS.out _ hn4) _ rfl ?_; intro v5 w5 hown5 hg5 _; have hn5 := BG.out _ _ _ _ _ hn4 hown4 hg5; obtain ⟨a5', c5', rfl⟩ := own_form7 hown5)))
    all_goals
      have hlt3 : ∀ g, (Value.slice a3' (xt.args.length + us.length) c3').ownBlock = some g → g < w3.heap.size := fun g e => (HO3.out.lt g e).2
      have ho4 : w4.ownsRow w1.heap.size 24 4 (.slice a3' (xt.args.length + us.length) c3') (xt.args.length + us.length) (rowTv vA ++ rowTv vU) := World.ownsRow.kept (w := w3.drew) HO3.out.drew hg4 (by
        cases h : (Value.slice a3' (xt.args.length + us.length) c3').ownBlock with
        | none => exact .inl rfl
        | some g => exact .inr (fun e => by cases e))
      have ho5 : w5.ownsRow w1.heap.size 24 4 (.slice a3' (xt.args.length + us.length) c3') (xt.args.length + us.length) (rowTv vA ++ rowTv vU) := ho4.kept hg5 (by
        cases h : (Value.slice a3' (xt.args.length + us.length) c3').ownBlock with
        | none => exact .inl rfl
        | some g =>
          refine .inr (fun e => ?_)
          have h1 := hlt3 g h
          rcases hat4 with h2 | h2
          · rw [h2] at e; cases e
          · rw [h2] at e
            have h3 := Option.some.inj e
            have h4 : w3.drew.heap.size = w3.heap.size := rfl
            omega)
      have HW5 := Lib.hid (below_next HWV.out hn5)
      have T1 := Lib.hid (show Tms w5 (.slice a3' (xt.args.length + us.length) c3') (xt.args ++ us) from by
        have hown : OwnTv w w5 w1.heap.size (.slice a3' (xt.args.length + us.length) c3') (xt.args ++ us) := ⟨vA ++ vU, by rw [List.map_append, HVA.out.1, HVU.out.1], fun z hz => by
          rcases List.mem_append.1 hz with hz | hz
          · exact HVA.out.2.1 z hz
          · exact HVU.out.2.1 z hz, by rw [List.length_append, rowTv_append]; exact ho5⟩
        exact hown.tms HW5.out (by rw [List.length_append]; have := HLA.out; unfold mostT at this; omega))
      have T2 := Lib.hid (show Tms w5 (.slice a5' (yt.args.length + bs.length) c5') (yt.args ++ bs) from by
        have hown : OwnTv w w5 w1.heap.size (.slice a5' (yt.args.length + bs.length) c5') (yt.args ++ bs) := ⟨vB ++ vS, by rw [List.map_append, HVB.out.1, HVS.out.1], fun z hz => by
          rcases List.mem_append.1 hz with hz | hz
          · exact HVB.out.2.1 z hz
          · exact HVS.out.2.1 z hz, by rw [List.length_append, rowTv_append]; exact hown5⟩
        exact hown.tms HW5.out (by rw [List.length_append]; have := HLA.out; have := HEL.out; have := HLEN.out; unfold mostT at *; omega))
      have RC := Lib.hid (HIH.out _ _ w5 T1.out T2.out HFA.out (by rw [List.length_append, List.length_append]; have := HEL.out; have := HLEN.out; omega) o HRO.out.1 HRO.out.2)
      clear hlt3 ho4 ho5 hn4 hn5 hg4 hg5 hat4 hown4 hown5 q0 q1 q2 q3
      go_wp2_with fail
      refine RC.out.mono ?_; rintro e w6 ⟨u6, rfl, hu6, hb6⟩
      have HU6 := Lib.hid hu6
      have HE := Lib.hid (below_next HW5.out hb6)
      obtain ⟨a6, c6, rfl, _, _⟩ := hu6
      clear hb6
      go_wp2_with fail
      go_ret2
      exact ⟨_, rfl, HU6.out, HE.out⟩
end Go.Proofs.Ytedljdcliilggaa

namespace Go.Proofs.Ytedljdcliilggaa
open Go.RowKit

/-- WHAT ROW ANSWERS. -/
theorem rrow_any {us bs : List Tm} {o : Option (List Bn)} (h : RowU us bs o) : ∀ (va vb : Value) (w : World), Tms w va us → Tms w vb bs → Fine us bs → us.length = bs.length → (∀ l, o = some l → l.length ≤ 1000) →
    Calls Try.prog 9 #[va, vb] w (RowPost o w) := by
  have ask : ∀ {us bs : List Tm} {o : Option (List Bn)}, RowU us bs o → (∀ (va vb : Value) (w : World), Tms w va us → Tms w vb bs → Fine us bs → us.length = bs.length → (∀ l, o = some l → l.length ≤ 1000) → Calls Try.prog 9 #[va, vb] w (RowPost o w)) → RowAsk us bs :=
    fun h k va vb w ha hb hf hl q hq hol => by
      obtain rfl := row_one h hq
      exact k va vb w ha hb hf hl hol
  induction h with
  | done bs => intro va vb w ha hb _ _ _; exact rrow_nil bs va vb w ha hb
  | @same a us bs o h ih =>
    intro va vb w ha hb hf hl hol
    exact rrow_same a a us bs va vb w ha hb hf (by simpa using hl) o (ask h ih) rfl h hol
  | @occ a b us bs hn hk ho => intro va vb w ha hb hf hl _; exact rrow_occ1 a b us bs va vb w ha hb hf (by simpa using hl) hn hk ho
  | @occ' a b us bs hn hk hl' ho => intro va vb w ha hb hf hl _; exact rrow_occ2 a b us bs va vb w ha hb hf (by simpa using hl) hn hk hl' ho
  | @bind a b us bs o hn hk ho h ih =>
    intro va vb w ha hb hf hl hol
    exact rrow_bind1 a b us bs va vb w ha hb hf (by simpa using hl) hn hk ho o (ask h ih) h (fun m hm => by have := hol ((a.name, b) :: m) (by rw [hm]; rfl); rw [List.length_cons] at this; omega)
  | @bind' a b us bs o hn hk hl' ho h ih =>
    intro va vb w ha hb hf hl hol
    exact rrow_bind2 a b us bs va vb w ha hb hf (by simpa using hl) hn hk hl' ho o (ask h ih) h (fun m hm => by have := hol ((b.name, a) :: m) (by rw [hm]; rfl); rw [List.length_cons] at this; omega)
  | @clash a b us bs hk hl' hh => intro va vb w ha hb hf hl _; exact rrow_clash a b us bs va vb w ha hb hf (by simpa using hl) hk hl' hh
  | @args a b us bs o hn hk hl' hh he h ih =>
    intro va vb w ha hb hf hl hol
    exact rrow_args a b us bs va vb w ha hb hf (by simpa using hl) o hn hk hl' hh he (ask h ih) h hol
end Go.Proofs.Ytedljdcliilggaa

namespace Go.Proofs.Ytedljdcliilggaa
open Go.RowKit

/-- A raw variable. -/
def rawB (x : Tm) : Bool := x.kind == 1 && (!(x.args.length == 0) || !(x.n == 0))
def plainB (t : Tm) : Bool := t.all.all fun x => !rawB x
theorem rawB_no {x : Tm} : rawB x = false ↔ (x.kind = 1 → x.args = [] ∧ x.n = 0) := by
  unfold rawB
  by_cases hk : x.kind = 1
  · rw [hk]
    by_cases ha : x.args = []
    · by_cases hn : x.n = 0
      · simp [ha, hn]
      · simp [ha, hn]
    · simp [ha]
  · have : (x.kind == 1) = false := by rw [beq_eq_false_iff_ne]; exact hk
    rw [this]; simp [hk]
theorem plain_of {t : Tm} (h : plainB t = true) : PlainT t := fun x hx hk => by
  unfold plainB at h
  rw [List.all_eq_true] at h
  have := h x hx
  rw [Bool.not_eq_true'] at this
  exact rawB_no.1 this hk
def PlainTo (ts : List Tm) (k : Nat) : Prop := ∀ (j : Nat) x, j < k → ts[j]? = some x → rawB x = false
theorem PlainTo.succ {ts : List Tm} {k : Nat} {x : Tm} (h : PlainTo ts k) (hx : ts[k]? = some x) (hb : rawB x = false) : PlainTo ts (k + 1) := fun j y hj hy => by
  by_cases e : j = k
  · subst e; rw [hx] at hy; cases hy; exact hb
  · exact h j y (by omega) hy
theorem PlainTo.all {t : Tm} (h : PlainTo t.all t.all.length) : plainB t = true := by
  unfold plainB
  rw [List.all_eq_true]
  intro x hx
  obtain ⟨j, hj, rfl⟩ := List.getElem_of_mem hx
  rw [h j _ hj (List.getElem?_eq_getElem hj)]; rfl
theorem plain_bad {t x : Tm} {k : Nat} (hx : t.all[k]? = some x) (h : rawB x = true) : plainB t = false := by
  unfold plainB
  rw [List.all_eq_false]
  exact ⟨x, List.mem_of_getElem? hx, by rw [h]; simp⟩

set_option maxRecDepth 100000 in
set_option maxHeartbeats 2000000 in
theorem rplain_tm (x : Tv) (w : World) (hx : x.ok w) (hl : x.t.parts ≤ 50000) :
    Calls Try.prog 23 #[x.val] w fun e w' => e = .returned (.bool (plainB x.t)) ∧ Below w.heap.size w w' := by
  obtain ⟨t, a, c⟩ := x
  have hbx := box_new w (.int .i64 t.kind) (.string t.name) (.int .i64 t.n) (.slice a t.args.length c) 24
  have hb1 : Below w.heap.size w (w.alloc (.cells #[.int .i64 t.kind, .string t.name, .int .i64 t.n, .slice a t.args.length c] 24)) := (Below.refl _ _).alloc (Nat.le_refl _) _
  obtain ⟨wz, hwz⟩ : ∃ wz, wz = w.alloc (.cells #[.int .i64 t.kind, .string t.name, .int .i64 t.n, .slice a t.args.length c] 24) := ⟨_, rfl⟩
  rw [← hwz] at hbx hb1
  have A := Lib.hid (all_tm t.parts ⟨t, a, c⟩ wz wz (Nat.le_refl _) (by simp only at hl; omega) (hx.below hb1) (Below.refl _ _))
  have HB1 := Lib.hid hb1
  have HAL := Lib.hid (show t.all.length ≤ 50000 by rw [all_length]; exact hl)
  have HNE := Lib.hid (show t.all ≠ [] by rw [all_eq]; simp)
  have HYES := Lib.hid (fun (h : PlainTo t.all t.all.length) => h.all)
  have HNO := Lib.hid (fun (k : Nat) (x : Tm) (hx : t.all[k]? = some x) (h : rawB x = true) => plain_bad hx h)
  obtain ⟨ts, hts⟩ : ∃ ts, ts = t.all := ⟨_, rfl⟩
  obtain ⟨z, hz⟩ : ∃ z, z = plainB t := ⟨_, rfl⟩
  rw [← hts] at A HAL HNE HYES HNO
  rw [← hz] at HYES HNO ⊢
  obtain ⟨p0, p1, p2, p3, _, _, _, _⟩ := hbx
  rw [hwz] at p0 p1 p2 p3
  clear hx hb1 hts hz hl
  simp only [Tv.val] at *
  go_enter Try.func23, Try.ntmps23
  go_wp2_with fail
  rw [← hwz]
  clear hwz p0 p1 p2 p3
  refine A.out.mono ?_; rintro e w2 ⟨v, rfl, hov, hnn, hb2⟩
  have htm := hov.tms hb2 (by have := HAL.out; omega)
  obtain ⟨a', c', rfl, hl, hh⟩ := htm.open_
  rcases hh with hh | ⟨b, o, rfl, hblt, hr⟩
  · exact absurd hh HNE.out
  have HR := Lib.hid hr
  have HB2 := Lib.hid (below_next HB1.out hb2)
  clear hov hnn hr htm hb2
  go_wp2_with fail
  go_loopw [8] (fun i wr => ∃ k : Nat, k ≤ ts.length ∧ i = .int .i64 k ∧ Hid (PlainTo ts k) ∧ Below w2.heap.size w2 wr) (fun i _ => ts.length - (intOf i).toNat)
  case atStart => exact ⟨0, Nat.zero_le _, rfl, Lib.hid (fun j x hj => by omega), Below.refl _ _⟩
  case round =>
    obtain ⟨k, hk, rfl, HS, hbr⟩ := hrel
    by_cases hkl : k < ts.length
    · have hi : (k : Int) < (ts.length : Int) := by omega
      have hi0 : (0 : Int) ≤ (k : Int) := by omega
      have hid : decide ((k : Int) < (ts.length : Int)) = true := decide_eq_true hi
      obtain ⟨⟨ut, ua, uc⟩, hu, _, hat⟩ := HR.out k hkl
      obtain ⟨d0, d1, d2, d3⟩ := hat.below hbr
      have HU := Lib.hid (show ts[k]? = some ut by rw [List.getElem?_eq_getElem hkl]; exact congrArg some hu.symm)
      have HBR := Lib.hid (fun o => hbr.alloc hbr.size o)
      simp only at d0 d1 d2 d3
      obtain ⟨na, hna⟩ : ∃ na, ut.args.length = na := ⟨_, rfl⟩
      rw [hna] at d3
      have HNA := Lib.hid hna
      clear hna
      clear hu hat hbr
      by_cases hkd : ut.kind = 1
      · have e1 : (ut.kind == 1) = true := by rw [hkd]; rfl
        have HK := Lib.hid hkd
        clear hkd
        by_cases ha : na = 0
        · have HA := Lib.hid (List.eq_nil_of_length_eq_zero (HNA.out.trans ha))
          subst ha
          by_cases hn : ut.n = 0
          · have e3 : (ut.n != 0) = false := by rw [hn]; rfl
            have e4 : (ut.n == 0) = true := by rw [hn]; rfl
            have HN := Lib.hid (show rawB ut = false from rawB_no.2 (fun _ => ⟨HA.out, hn⟩))
            clear hn
            go_wp2_with fail
            go_roundw
            case rel => exact ⟨k + 1, by omega, by go_num, Lib.hid (HS.out.succ HU.out HN.out), HBR.out _⟩
            case measure => simp [intOf]; omega
          · have e3 : (ut.n != 0) = true := by rw [bne_iff_ne]; exact hn
            have e4 : (ut.n == 0) = false := by rw [beq_eq_false_iff_ne]; exact hn
            have HN := Lib.hid (show rawB ut = true by
              cases h : rawB ut with
              | true => rfl
              | false => exact absurd (rawB_no.1 h HK.out).2 hn)
            clear hn
            go_wp2_with fail
            go_ret
            exact ⟨ret_bool (HNO.out k ut HU.out HN.out).symm, below_next HB2.out (HBR.out _)⟩
        · have hg : (0 : Int) < (na : Int) := by omega
          have hg2 : decide ((0 : Int) < (na : Int)) = true := decide_eq_true hg
          have hg3 : 0 < na := by omega
          have HN := Lib.hid (show rawB ut = true by
            cases h : rawB ut with
            | true => rfl
            | false => exact absurd (rawB_no.1 h HK.out).1 (fun e => ha (by rw [← HNA.out, e]; rfl)))
          clear ha
          go_wp2_with fail
          go_ret
          exact ⟨ret_bool (HNO.out k ut HU.out HN.out).symm, below_next HB2.out (HBR.out _)⟩
      · have e1 : (ut.kind == 1) = false := by rw [beq_eq_false_iff_ne]; exact hkd
        have HN := Lib.hid (show rawB ut = false from rawB_no.2 (fun h => absurd h hkd))
        clear hkd
        go_wp2_with fail
        go_roundw
        case rel => exact ⟨k + 1, by omega, by go_num, Lib.hid (HS.out.succ HU.out HN.out), HBR.out _⟩
        case measure => simp [intOf]; omega
    · have hke : k = ts.length := by omega
      have hkn : ¬ (k : Int) < (ts.length : Int) := by omega
      have hkd : decide ((k : Int) < (ts.length : Int)) = false := decide_eq_false hkn
      have HE := Lib.hid (HYES.out (by have := HS.out; rwa [hke] at this))
      have HBE := Lib.hid hbr
      clear hke hbr
      go_wp2_with fail
      go_ret
      exact ⟨ret_bool HE.out.symm, below_next HB2.out HBE.out⟩
end Go.Proofs.Ytedljdcliilggaa

namespace Go.Proofs.Ytedljdcliilggaa
open Go.RowKit

def fitsB (t : Tm) : Bool := withinB t 40 && plainB t
theorem fits_of {t : Tm} (h : fitsB t = true) : t.parts ≤ 40 ∧ PlainT t := by
  unfold fitsB at h
  rw [Bool.and_eq_true] at h
  exact ⟨by have := within_parts h.1; omega, plain_of h.2⟩
theorem fits_names {t : Tm} (h : fitsB t = true) : ∀ x ∈ t.all, x.name.size ≤ 100 := by
  unfold fitsB at h
  rw [Bool.and_eq_true] at h
  exact within_names h.1

set_option maxRecDepth 100000 in
set_option maxHeartbeats 2000000 in
theorem rfits_tm (x : Tv) (w : World) (hx : x.ok w) :
    Calls Try.prog 7 #[x.val] w fun e w' => e = .returned (.bool (fitsB x.t)) ∧ Below w.heap.size w w' := by
  have WT := Lib.hid (fun (W : World) (h : Below w.heap.size w W) => within_tm x 40 (by omega) (by omega) W (hx.below h))
  have PL := Lib.hid (fun (hp : x.t.parts ≤ 50000) (W : World) (h : Below w.heap.size w W) => rplain_tm x W (hx.below h) hp)
  have HS := Lib.hid (fun (h : withinB x.t 40 = true) => (show x.t.parts ≤ 50000 by have := within_parts h; omega))
  have HV := Lib.hid (show fitsB x.t = (withinB x.t 40 && plainB x.t) from rfl)
  clear hx
  obtain ⟨t, a, c⟩ := x
  simp only at HS HV PL
  have hb2 : Below w.heap.size w (w.alloc (.cells #[.int .i64 t.kind, .string t.name, .int .i64 t.n, .slice a t.args.length c] 24)) := (Below.refl _ _).alloc (Nat.le_refl _) _
  have bX := box_new w (.int .i64 t.kind) (.string t.name) (.int .i64 t.n) (.slice a t.args.length c) 24
  obtain ⟨w2, hw2⟩ : ∃ w2, w2 = w.alloc (.cells #[.int .i64 t.kind, .string t.name, .int .i64 t.n, .slice a t.args.length c] 24) := ⟨_, rfl⟩
  rw [← hw2] at hb2 bX
  have W1 := Lib.hid (WT.out w2 hb2)
  have HBX := Lib.hid (fun (V : World) (h : Below w2.heap.size w2 V) => bX.below h (lt_of_cell bX.c0))
  have HB2 := Lib.hid hb2
  obtain ⟨p0, p1, p2, p3, _, _, _, _⟩ := bX
  simp only [Tv.val] at W1 PL ⊢
  obtain ⟨b1, hb1⟩ : ∃ b1, withinB t 40 = b1 := ⟨_, rfl⟩
  rw [hb1] at W1 HS HV
  clear hb2 WT hb1
  cases b1 with
  | false =>
    go_enter Try.func7, Try.ntmps7
    go_wp2_with fail
    rw [← hw2]
    refine W1.out.mono ?_; rintro e w3 ⟨rfl, hb3⟩
    have HB3 := Lib.hid (below_next HB2.out hb3)
    clear hb3 hw2 p0 p1 p2 p3
    go_wp2_with fail
    go_ret
    exact ⟨ret_bool (by rw [HV.out]; rfl), HB3.out⟩
  | true =>
    have P1 := Lib.hid (PL.out (HS.out rfl))
    clear PL HS
    obtain ⟨b2, hb2⟩ : ∃ b2, plainB t = b2 := ⟨_, rfl⟩
    rw [hb2] at P1 HV
    clear hb2
    go_enter Try.func7, Try.ntmps7
    go_wp2_with fail
    rw [← hw2]
    refine W1.out.mono ?_; rintro e w3 ⟨rfl, hb3⟩
    have HB3 := Lib.hid (below_next HB2.out hb3)
    clear hw2 p0 p1 p2 p3
    obtain ⟨p0, p1, p2, p3, _, _, _, _⟩ := HBX.out w3 hb3
    clear hb3
    go_wp2_with fail
    refine (P1.out w3 HB3.out).mono ?_; rintro e w4 ⟨rfl, hb4⟩
    have HB4 := Lib.hid (below_next HB3.out hb4)
    clear hb4 p0 p1 p2 p3
    go_wp2_with fail
    go_ret
    exact ⟨ret_bool (by rw [HV.out]; rfl), HB4.out⟩

def bindFits (x : Bn) : Bool := decide (x.1.size ≤ 100) && fitsB x.2
def bindsB (bs : List Bn) : Bool := bs.all bindFits && decide (bs.length ≤ 6)
theorem binds_of {bs : List Bn} (h : bindsB bs = true) : bs.length ≤ 6 ∧ ∀ x ∈ bs, x.1.size ≤ 100 ∧ x.2.parts ≤ 40 ∧ PlainT x.2 := by
  unfold bindsB at h
  rw [Bool.and_eq_true, List.all_eq_true, decide_eq_true_iff] at h
  refine ⟨h.2, fun x hx => ?_⟩
  have h1 := h.1 x hx
  unfold bindFits at h1
  rw [Bool.and_eq_true, decide_eq_true_iff] at h1
  exact ⟨h1.1, fits_of h1.2⟩
def FitTo (bs : List Bn) (k : Nat) : Prop := ∀ (j : Nat) x, j < k → bs[j]? = some x → bindFits x = true
theorem FitTo.succ {bs : List Bn} {k : Nat} {x : Bn} (h : FitTo bs k) (hx : bs[k]? = some x) (hb : bindFits x = true) : FitTo bs (k + 1) := fun j y hj hy => by
  by_cases e : j = k
  · subst e; rw [hx] at hy; cases hy; exact hb
  · exact h j y (by omega) hy
theorem fit_bad {bs : List Bn} {k : Nat} {x : Bn} (hx : bs[k]? = some x) (h : bindFits x = false) : bindsB bs = false := by
  unfold bindsB
  rw [Bool.and_eq_false_iff]; left
  rw [← Bool.not_eq_true, List.all_eq_true]; intro hall
  rw [hall x (List.mem_of_getElem? hx)] at h; cases h
theorem fit_all {bs : List Bn} (h : FitTo bs bs.length) : bindsB bs = decide (bs.length ≤ 6) := by
  unfold bindsB
  rw [show bs.all bindFits = true from List.all_eq_true.2 fun x hx => by
    obtain ⟨j, hj, rfl⟩ := List.getElem_of_mem hx
    exact h j _ hj (List.getElem?_eq_getElem hj)]
  rfl
set_option maxRecDepth 100000 in
set_option maxHeartbeats 2000000 in
theorem rbinds_any (v : Value) (bs : List Bn) (w : World) (hv : Bds w v bs) :
    Calls Try.prog 16 #[v] w fun e w' => e = .returned (.bool (bindsB bs)) ∧ Below w.heap.size w w' := by
  have WT := Lib.hid (fun (y : Tv) (W : World) (h : y.ok W) => rfits_tm y W h)
  obtain ⟨a, c, rfl, hlm, hrow⟩ := hv
  have HR := Lib.hid hrow
  clear hrow
  go_enter Try.func16, Try.ntmps16
  go_wp2_with fail
  go_loopw [7] (fun i wr => ∃ k : Nat, k ≤ bs.length ∧ i = .int .i64 k ∧ Hid (FitTo bs k) ∧ Below w.heap.size w wr) (fun i _ => bs.length - (intOf i).toNat)
  case atStart => exact ⟨0, Nat.zero_le _, rfl, Lib.hid (fun j x hj => by omega), Below.refl _ _⟩
  case round =>
    obtain ⟨k, hk, rfl, HN, hb⟩ := hrel
    by_cases hkl : k < bs.length
    · obtain ⟨b, o, rfl, hlt, hat⟩ := HR.out.resolve_left (by intro h; rw [h] at hkl; simp at hkl)
      obtain ⟨x, hx⟩ : ∃ x, bs[k]? = some x := ⟨_, List.getElem?_eq_getElem hkl⟩
      obtain ⟨y, hyx, hyo, hy⟩ := bdAt_bv (hat k x hx)
      obtain ⟨m0, m1, m2, m3, m4⟩ := hy.below hb
      have hL : Below wr.heap.size wr (wr.alloc (.cells #[.string y.s, .int .i64 y.v.t.kind, .string y.v.t.name, .int .i64 y.v.t.n, .slice y.v.a y.v.t.args.length y.v.c] 41)) := (Below.refl _ _).alloc (Nat.le_refl _) _
      have hbL := hb.trans (hL.mono hb.size)
      have W1 := Lib.hid (WT.out y.v _ (hyo.below hbL))
      obtain ⟨ys, ⟨yt, ya, yc⟩⟩ := y
      obtain rfl : (ys, yt) = x := hyx
      have HBL := Lib.hid hbL
      have HXX := Lib.hid hx
      have hk0 : (0 : Int) ≤ (k : Int) := by omega
      have hk1 : (k : Int) < (bs.length : Int) := by omega
      have hkd : decide ((k : Int) < (bs.length : Int)) = true := decide_eq_true hk1
      simp only [Tv.val] at m0 m1 m2 m3 m4 W1
      clear hyo hy hat hx hL hbL
      rcases Int.lt_or_le 100 (ys.size : Int) with h1 | h1
      · have hd2 : decide ((100 : Int) < (ys.size : Int)) = true := decide_eq_true h1
        have HF := Lib.hid (fit_bad HXX.out (show bindFits (ys, yt) = false by unfold bindFits; rw [decide_eq_false (by simp only; omega), Bool.false_and]))
        clear h1
        go_wp2_with fail
        go_ret
        exact ⟨ret_bool HF.out.symm, HBL.out⟩
      · have hd2 : decide ((100 : Int) < (ys.size : Int)) = false := decide_eq_false (by omega)
        obtain ⟨bw, hbw⟩ : ∃ bw, fitsB yt = bw := ⟨_, rfl⟩
        rw [hbw] at W1
        have hbb : bindFits (ys, yt) = bw := by unfold bindFits; rw [decide_eq_true (show ys.size ≤ 100 by omega), Bool.true_and]; exact hbw
        have HBB := Lib.hid hbb
        clear h1 hbw hbb
        go_wp2_with fail
        refine W1.out.mono ?_; rintro e w2 ⟨rfl, hb2⟩
        have HB2 := Lib.hid (below_next HBL.out hb2)
        clear hb2
        cases bw with
        | false =>
          have HF := Lib.hid (fit_bad HXX.out HBB.out)
          go_wp2_with fail
          go_ret
          exact ⟨ret_bool HF.out.symm, HB2.out⟩
        | true =>
          have HNN := Lib.hid (HN.out.succ HXX.out HBB.out)
          go_wp2_with fail
          go_roundw
          case rel => exact ⟨k + 1, by omega, by go_num, HNN, HB2.out⟩
          case measure => simp [intOf]; omega
    · have hke : k = bs.length := by omega
      have hkd : decide ((k : Int) < (bs.length : Int)) = false := decide_eq_false (by omega)
      have hkn : ¬ (k : Int) < (bs.length : Int) := by omega
      have HF := Lib.hid (show bindsB bs = decide ((bs.length : Int) ≤ 6) by
        have h := HN.out
        rw [hke] at h
        rw [fit_all h, Bool.eq_iff_iff, decide_eq_true_iff, decide_eq_true_iff]; omega)
      have HBE := Lib.hid hb
      clear hke hb
      go_wp2_with fail
      go_ret
      exact ⟨ret_bool HF.out.symm, HBE.out⟩
end Go.Proofs.Ytedljdcliilggaa

namespace Go.Proofs.Ytedljdcliilggaa
open Go.RowKit

/-- A world that lies behind wb: what wb holds stands in it as it was. -/
structure After (wb : World) where
  w : World
  below : Below wb.heap.size wb w
instance (wb : World) : Inhabited (After wb) := ⟨⟨wb, Below.refl _ _⟩⟩
theorem wp_region_after {P : Program} {id : Nat} {Q : Exit → Act → World → Prop} {a : Act} {wb w : World} {l : List Oper} (hb : Below wb.heap.size wb w) (hm : P.follows .mixedOrders = true) (hB : Region.lexB .any l.toArray = true)
    (h : wpQuiet P l.toArray (fun w' => ∃ p : After wb, w' = p.w) (fun a' => ∀ w', (∃ p : After wb, w' = p.w) → Q .normal a' w') l a) : (Code.region id l.toArray true).wp P Q a w :=
  wp_region_quiet (C := fun w' => ∃ p : After wb, w' = p.w) hm hB ⟨⟨w.drew, hb.drew⟩, rfl⟩ (by simpa using h)
theorem after_call {P : Program} {f : FuncId} {args : Array Value} {wb : World} {p : After wb} {v : Value} (h : Calls P f args p.w fun e w' => e = .returned v ∧ Below p.w.heap.size p.w w') :
    Calls P f args p.w fun e w'' => e = .returned v ∧ ∃ q : After wb, w'' = q.w :=
  h.mono fun _ w' ⟨he, hb⟩ => ⟨he, ⟨⟨w', below_next p.below hb⟩, rfl⟩⟩
end Go.Proofs.Ytedljdcliilggaa
