/-
  Binds behind binds, by the program's Then.
  What layer 7's laws ask of the program's Apply and Then stands.
  Any two terms, once the binds that are found are put in them: the law answers true.
  Rows and terms that the program makes, where it unifies: copied, Var, Fun.
  What is known from binds, by the program: knowing.
  The binds by which patterns are terms, by the program: All.
-/
import Derived.Test.YtedljdcliilggaaU05
import Derived.Test.YtedljdcliilggaaU06
import Derived.Test.YtedljdcliilggaaU09
import Derived.Test.YtedljdcliilggaaU29
import Derived.Deep.RegionHeld3
import Derived.Test.YtedljdcliilggaaU38
import Derived.Test.YtedljdcliilggaaU14
import Derived.Test.YtedljdcliilggaaU02
import Derived.Laws.AppendOwnNone
import Derived.Test.YtedljdcliilggaaU22
import Derived.Test.YtedljdcliilggaaU23
import Derived.Test.YtedljdcliilggaaU07
namespace Go.Proofs.Ytedljdcliilggaa
open Go.RowKit Go.Shelf Go.Lib Go.Sort

theorem own_form1 {w : World} {base : Nat} {e : TypeId} {size n : Nat} {v : Value} {xs : List Value} (h : w.ownsRow base e size v n xs) : ∃ a c, v = .slice a n c := by
  obtain ⟨_, ⟨rfl, rfl⟩ | ⟨g, cap, _, rfl, _⟩⟩ := h
  · exact ⟨none, 0, rfl⟩
  · exact ⟨_, cap, rfl⟩
set_option maxRecDepth 100000 in
set_option maxHeartbeats 8000000 in
theorem then_bd (va vb : Value) (cs bs : List Bn) (w0 w : World) (ha : Bds w0 va cs) (hb : Bds w0 vb bs) (hb0 : Below w0.heap.size w0 w) (hl1 : cs.length ≤ 1000) (hl2 : bs.length ≤ 1000) (hp : ∀ x ∈ cs, x.2.parts ≤ 2300000000000) :
    Calls Try.prog 19 #[va, vb] w fun e w' => ∃ u, e = .returned u ∧ Bds w' u (thenB cs bs) ∧ Below w.heap.size w w' := by
  obtain ⟨i0, hi, hz0, hz1, hz2⟩ := info_parts bindInfo
  have PU := Lib.hid (putter_any vb bs w0 w hb (reads_below hb0) (by omega))
  have PT := Lib.hid (fun (x : Tv) (w1 W : World) (g4 : Nat) (hw1 : Below w.heap.size w w1) (hW : Below w1.heap.size w1 W) (hP : PutsAt w0 w1.heap.size g4 bs w1) (hx : x.ok w0) (hpx : x.t.parts ≤ 2300000000000) => (put_any bs x w0 W w1.heap.size g4 hx (by omega) (reads_below (hb0.trans ((hw1.trans (hW.mono hw1.size)).mono hb0.size))) hW.size (hP.below hW)).mono (fun e w' ⟨z, h1, h2, h3, h4⟩ => (show ∃ (tz : Tm) (az : Option Addr) (cz : Nat), e = Ending.returned (.agg #[.int .i64 tz.kind, .string tz.name, .int .i64 tz.n, .slice az tz.args.length cz]) ∧ tz = appT bs x.t ∧ Fresh w0 W w' ⟨tz, az, cz⟩ ∧ Below W.heap.size W w' from ⟨z.t, z.a, z.c, h1, h2, h3, h4⟩)))
  have OF := Lib.hid (fun (u : Value) (ms : List Bn) (W : World) (h : Bds W u ms) (hl : ms.length ≤ 3000) => (of_bd u ms W W h (Below.refl _ _) (by omega)).mono (fun e w' ⟨u', h1, h2, h3⟩ => (show ∃ u', e = Ending.returned u' ∧ Bds w' u' (ofB ms) ∧ Below W.heap.size W w' from ⟨u', h1, h2.bds h3 (by have := ofB_length ms; omega), h3⟩)))
  have HB := Lib.hid hb0
  have HP := Lib.hid (fun (q : Nat) (x : Bn) (h : cs[q]? = some x) => hp x (List.mem_of_getElem? h))
  obtain ⟨ab, cb, vsB, rfl, hBt, hBo, hBx, hBc⟩ := bds_open hb hb0
  have hBl : vsB.length = bs.length := by rw [← hBt, List.length_map]
  have HBB := Lib.hid (And.intro hBx (And.intro (show (rowBv vsB).length = bs.length * 5 by rw [rowBv_length, hBl]) (And.intro hBc (rowBv_one' vsB))))
  have HBT := Lib.hid (And.intro hBt (And.intro hBo hBl))
  obtain ⟨aa, ca, rfl, hla, hra⟩ := ha
  have HA := Lib.hid hra
  have HSZ := Lib.hid (fun (q : Nat) (x : Bn) (h : cs[q]? = some x) => (show x.1.size ≤ 9223372036854775807 from by
    rcases hra with h' | ⟨b, o, _, _, hat⟩
    · rw [h'] at h; simp at h
    · exact (hat q x h).1))
  clear hb hb0 hp hBt hBo hBx hBc hBl hra
  go_enter Try.func19, Try.ntmps19
  go_wp2_with fail
  refine PU.out.mono ?_; rintro e w1 ⟨g4, rfl, hP, hb1⟩
  have HPA := Lib.hid hP
  have HB1 := Lib.hid hb1
  clear hP hb1 PU
  go_wp2_with fail
  go_loopw [6, 13] (fun o i wr => ∃ (q : Nat) (vs : List Bv), q ≤ cs.length ∧ i = .int .i64 q ∧ vs.length = q ∧ Hid (vs.map Bv.bn = putB bs (cs.take q)) ∧ Hid (∀ x ∈ vs, Beside w0 w1 wr o x.v ∧ x.s.size ≤ 9223372036854775807) ∧
    Hid (wr.ownsRow w1.heap.size 41 5 o q (rowBv vs)) ∧ Below w1.heap.size w1 wr) (fun _ i _ => cs.length - (intOf i).toNat)
  case atStart => exact ⟨0, [], Nat.zero_le _, rfl, rfl, Lib.hid rfl, Lib.hid (fun x hx => by cases hx), Lib.hid (World.ownsRow_nil _ _ _ _), Below.refl _ _⟩
  case round =>
    obtain ⟨q, vs, hq, rfl, hvl, HVT, HVO, HOWN, hb⟩ := hrel
    by_cases hql : q < cs.length
    · obtain ⟨b, o, rfl, hlt, hat⟩ := HA.out.resolve_left (by intro h; rw [h] at hql; simp at hql)
      obtain ⟨x, hx⟩ : ∃ x, cs[q]? = some x := ⟨_, List.getElem?_eq_getElem hql⟩
      obtain ⟨⟨ys, yt, ya, yc⟩, hyx, hyo, hy⟩ := bdAt_bv (hat q x hx)
      have hbw : Below w.heap.size w wr := HB1.out.trans (hb.mono HB1.out.size)
      have hb0r := HB.out.trans (hbw.mono HB.out.size)
      obtain ⟨m0, m1, m2, m3, m4⟩ := hy.below hb0r
      have HXE := Lib.hid (show x = (ys, yt) from hyx.symm)
      have HNX := Lib.hid (putB_succ bs hx)
      have HS := Lib.hid (show ys.size ≤ 9223372036854775807 from by have := HSZ.out q x hx; rw [HXE.out] at this; exact this)
      have hpp : yt.parts ≤ 2300000000000 := by have := HP.out q x hx; rw [HXE.out] at this; exact this
      have hk0 : (0 : Int) ≤ (q : Int) := by omega
      have hk1 : (q : Int) < (cs.length : Int) := by omega
      have hkd : decide ((q : Int) < (cs.length : Int)) = true := decide_eq_true hk1
      simp only at m0 m1 m2 m3 m4
      have hBz : Below wr.heap.size wr (wr.alloc (.cells #[.string ys, .int .i64 yt.kind, .string yt.name, .int .i64 yt.n, .slice ya yt.args.length yc] 41)) := (Below.refl _ _).alloc (Nat.le_refl _) _
      have hzs : (wr.alloc (.cells #[.string ys, .int .i64 yt.kind, .string yt.name, .int .i64 yt.n, .slice ya yt.args.length yc] 41)).heap.size = wr.heap.size + 1 := by simp
      have bT := fun i => World.cell?_alloc_mark wr #[.string ys, .int .i64 yt.kind, .string yt.name, .int .i64 yt.n, .slice ya yt.args.length yc] 41 (0, 0) i
      obtain ⟨wz, hwz⟩ : ∃ wz, wz = wr.alloc (.cells #[.string ys, .int .i64 yt.kind, .string yt.name, .int .i64 yt.n, .slice ya yt.args.length yc] 41) := ⟨_, rfl⟩
      rw [← hwz] at hBz hzs bT
      have hKEEP : ∀ W, Below wz.heap.size wz W → (W.cell? ⟨wr.heap.size, 0, none⟩ = some (.string ys) ∧ W.cell? ⟨wr.heap.size, 1, none⟩ = some (.int .i64 yt.kind) ∧ W.cell? ⟨wr.heap.size, 2, none⟩ = some (.string yt.name) ∧ W.cell? ⟨wr.heap.size, 3, none⟩ = some (.int .i64 yt.n) ∧ W.cell? ⟨wr.heap.size, 4, none⟩ = some (.slice ya yt.args.length yc)) := fun W h =>
        ⟨(h.cell (p := ⟨wr.heap.size, 0, none⟩) (by show wr.heap.size < _; omega)).trans (bT 0), (h.cell (p := ⟨wr.heap.size, 1, none⟩) (by show wr.heap.size < _; omega)).trans (bT 1), (h.cell (p := ⟨wr.heap.size, 2, none⟩) (by show wr.heap.size < _; omega)).trans (bT 2), (h.cell (p := ⟨wr.heap.size, 3, none⟩) (by show wr.heap.size < _; omega)).trans (bT 3), (h.cell (p := ⟨wr.heap.size, 4, none⟩) (by show wr.heap.size < _; omega)).trans (bT 4)⟩
      have KEEP := Lib.hid hKEEP
      have HOL := Lib.hid (fun g' (e : u6.ownBlock = some g') => (HOWN.out.lt g' e).2)
      have KEEP4 := Lib.hid (fun (V W : World) (hg : V.grownBy W u6.ownBlock) (hB : Below wz.heap.size wz V) => (show (W.cell? ⟨wr.heap.size, 0, none⟩ = some (.string ys) ∧ W.cell? ⟨wr.heap.size, 1, none⟩ = some (.int .i64 yt.kind) ∧ W.cell? ⟨wr.heap.size, 2, none⟩ = some (.string yt.name) ∧ W.cell? ⟨wr.heap.size, 3, none⟩ = some (.int .i64 yt.n) ∧ W.cell? ⟨wr.heap.size, 4, none⟩ = some (.slice ya yt.args.length yc)) from by
        obtain ⟨e0, e1, e2, e3, e4⟩ := hKEEP V hB
        have hV := hB.size
        have hne : some wr.heap.size ≠ u6.ownBlock := fun e => by have := HOL.out _ e.symm; omega
        exact ⟨(hg.cell_far ⟨wr.heap.size, 0, none⟩ (by show wr.heap.size < _; omega) hne).trans e0, (hg.cell_far ⟨wr.heap.size, 1, none⟩ (by show wr.heap.size < _; omega) hne).trans e1, (hg.cell_far ⟨wr.heap.size, 2, none⟩ (by show wr.heap.size < _; omega) hne).trans e2, (hg.cell_far ⟨wr.heap.size, 3, none⟩ (by show wr.heap.size < _; omega) hne).trans e3, (hg.cell_far ⟨wr.heap.size, 4, none⟩ (by show wr.heap.size < _; omega) hne).trans e4⟩))
      have A0 := Lib.hid (show Below wz.heap.size wz wz.drew from (Below.refl _ _).drew)
      have A3 := Lib.hid (fun (W : World) o (h : Below wz.heap.size wz W) => (show Below wz.heap.size wz (W.alloc o) from h.alloc h.size o))
      have CT := Lib.hid (fun (W : World) (h : Below wz.heap.size wz W) => (PT.out ⟨yt, ya, yc⟩ w1 W g4 HB1.out (hb.trans ((below_next hBz h).mono hb.size)) HPA.out hyo hpp).mono (fun e w' ⟨tz, az, cz, h1, h2, h3, h4⟩ => (show ∃ (tz : Tm) (az : Option Addr) (cz : Nat), e = Ending.returned (.agg #[.int .i64 tz.kind, .string tz.name, .int .i64 tz.n, .slice az tz.args.length cz]) ∧ tz = appT bs yt ∧ Fresh w0 wz w' ⟨tz, az, cz⟩ ∧ Below wz.heap.size wz w' from ⟨tz, az, cz, h1, h2, h3.widen h.size (Nat.le_refl _) (fun _ _ _ => rfl), below_next h h4⟩)))
      have HOW := Lib.hid (fun (W : World) (h : Below wz.heap.size wz W) => own_below HOWN.out (below_next hBz h))
      have HM1 : q + 1 ≤ maxLen := by unfold maxLen; omega
      have HM2 : (q + 1) * 72 ≤ 140737488355328 := by omega
      have HBASE := Lib.hid (fun (W : World) o (h : Below wz.heap.size wz W) => (show w1.heap.size ≤ (W.alloc o).heap.size from by have := h.size; have := hb.size; simp; omega))
      have HBW := Lib.hid hb
      have HBZ := Lib.hid hBz
      have HWZ := Lib.hid hwz
      clear hat hx hyx hyo hy hbw hb0r hb hBz hzs bT hKEEP hpp
      go_wp2_with fail
      rw [← HWZ.out]
      clear m0 m1 m2 m3 m4 HWZ hwz
      simp only [Tv.val] at CT
      have h0d := A0.out
      go_region_held3 (fun W => W.cell? ⟨wr.heap.size, 0, none⟩ = some (.string ys) ∧ W.cell? ⟨wr.heap.size, 1, none⟩ = some (.int .i64 yt.kind) ∧ W.cell? ⟨wr.heap.size, 2, none⟩ = some (.string yt.name) ∧ W.cell? ⟨wr.heap.size, 3, none⟩ = some (.int .i64 yt.n) ∧ W.cell? ⟨wr.heap.size, 4, none⟩ = some (.slice ya yt.args.length yc)) (first | exact hS4 | (refine KEEP.out _ ?_; first | with_reducible exact A0.out | with_reducible assumption | with_reducible exact A3.out _ _ (by with_reducible assumption)))
        ((first
          | (go_at_call 45; refine (CT.out _ (by assumption)).mono ?_; rintro e w' ⟨tz, az, cz, rfl, hzt, hzf, hn⟩; have HZT := Lib.hid hzt; clear hzt)
          | (refine step_append_at rfl _ _ 27 rfl w1.heap.size 41 i0 (.agg #[.string ⟨#[]⟩, .int .i64 0, .string ⟨#[]⟩, .int .i64 0, .slice none 0 0]) 5 72 Try.underlying27 hi hz0 hz1 hz2 rfl (by decide) u6 q (rowBv vs) rfl (HOW.out _ (A3.out _ _ (by assumption))) ⟨w'.heap.size, 0, none⟩ 1 1 [.string ys, .int .i64 tz.kind, .string tz.name, .int .i64 tz.n, .slice az tz.args.length cz] rfl rfl (World.news_of_block (heap_alloc_new _ _)) (bv_one ⟨ys, ⟨tz, az, cz⟩⟩) HM1 HM2 (HBASE.out _ _ (by assumption)) _ rfl ?_; intro v4 w4 hown4 hg4 hat4; obtain ⟨a4, c4, rfl⟩ := own_form1 hown4; have hS4 := KEEP4.out _ _ hg4 (A3.out _ _ hn))))
      go_wp2_with fail
      go_roundw
      case rel =>
        have hA := A3.out w' (.cells #[.string ys, .int .i64 tz.kind, .string tz.name, .int .i64 tz.n, .slice az tz.args.length cz] 41) hn
        have hAr := below_next HBZ.out hA
        have hAn := below_next HBZ.out hn
        have hA' : Below w'.heap.size w' (w'.alloc (.cells #[.string ys, .int .i64 tz.kind, .string tz.name, .int .i64 tz.n, .slice az tz.args.length cz] 41)) := (Below.refl _ _).alloc (Nat.le_refl _) _
        have hb4 : Below w1.heap.size w1 w4 := (HBW.out.trans (hAr.mono HBW.out.size)).grown hg4 (HBASE.out _ _ hn) (own_row_ge HOWN.out)
        have hat5 : (Value.slice a4 (q + 1) c4).ownBlock = u6.ownBlock ∨ (Value.slice a4 (q + 1) c4).ownBlock = some (w'.alloc (.cells #[.string ys, .int .i64 tz.kind, .string tz.name, .int .i64 tz.n, .slice az tz.args.length cz] 41)).heap.size := by simpa using hat4
        have hbe : Beside w0 w1 w' u6 ⟨tz, az, cz⟩ := beside_fresh (w := w1) hzf (Nat.le_trans HBW.out.size HBZ.out.size) (fun g' e => Nat.lt_of_lt_of_le (HOL.out g' e) HBZ.out.size)
        refine ⟨q + 1, vs ++ [⟨ys, ⟨tz, az, cz⟩⟩], by omega, by go_num, by rw [List.length_append, hvl]; rfl, Lib.hid ?_, Lib.hid (fun s hs => ?_), Lib.hid ?_, hb4⟩
        · rw [List.map_append, HVT.out, HNX.out, HXE.out, ← HZT.out]; rfl
        · rcases List.mem_append.1 hs with hs | hs
          · exact ⟨((HVO.out s hs).1.below hAr).grown hg4 hat5, (HVO.out s hs).2⟩
          · rw [List.mem_singleton] at hs
            subst hs
            exact ⟨(hbe.below hA').grown hg4 hat5, HS.out⟩
        · rw [rowBv_append, rowBv_one]; exact hown4
      case measure => simp [intOf]; omega
    · have hqe : q = cs.length := by omega
      have hkd : decide ((q : Int) < (cs.length : Int)) = false := decide_eq_false (by omega)
      have hkn : ¬ (q : Int) < (cs.length : Int) := by omega
      have hbw : Below w.heap.size w wr := HB1.out.trans (hb.mono HB1.out.size)
      have HVE := Lib.hid (show vs.map Bv.bn = putB bs cs by have h := HVT.out; rw [hqe, List.take_length] at h; exact h)
      have HBE := Lib.hid hbw
      have HBW := Lib.hid hb
      have HOE := Lib.hid HOWN.out
      have hq40 : q ≤ 1000 := by omega
      have HQ := Lib.hid hq40
      clear hqe hb hbw
      go_wp2_with (at_builtin; refine wpList_append_opt rfl _ _ 27 rfl w1.heap.size 41 i0 (.agg #[.string ⟨#[]⟩, .int .i64 0, .string ⟨#[]⟩, .int .i64 0, .slice none 0 0]) 5 72 Try.underlying27 hi hz0 hz1 hz2 rfl (by decide) _ q _ rfl HOE.out ab bs.length cb (rowBv vsB) rfl HBB.out.1 HBB.out.2.1 (HBB.out.2.2.1 _ HBE.out) HBB.out.2.2.2 ?ap3 ?ap4 ?ap5 ?_)
      case ap3 => unfold maxLen; omega
      case ap4 => omega
      case ap5 => exact HBW.out.size
      intro v2 w2 hown2 hg2 hat2
      have hb2 : Below w1.heap.size w1 w2 := HBW.out.grown hg2 HBW.out.size (own_row_ge HOE.out)
      have hbw2 : Below w.heap.size w w2 := HB1.out.trans (hb2.mono HB1.out.size)
      have hb02 := HB.out.trans (hbw2.mono HB.out.size)
      have hbd : Bds w2 v2 (putB bs cs ++ bs) := by
        rw [← HVE.out, ← HBT.out.1, ← List.map_append]
        rw [← rowBv_append] at hown2
        refine bds_own (w0 := w2) hown2 (by rw [List.length_append, hvl, HBT.out.2.2]) (fun x hx => ?_) (Below.refl _ _) (by omega)
        rcases List.mem_append.1 hx with hx | hx
        · exact ⟨((HVO.out x hx).1.grown hg2 hat2) w2 (reads_below hb02) (Nat.le_refl _) (fun _ _ _ _ => rfl), (HVO.out x hx).2⟩
        · exact ⟨(HBT.out.2.1 x hx).1.below hb02, (HBT.out.2.1 x hx).2⟩
      have O2 := Lib.hid (OF.out v2 _ w2 hbd (by rw [List.length_append]; unfold putB; rw [List.length_map]; omega))
      have HB2 := Lib.hid hbw2
      clear hown2 hg2 hat2 hb2 hbw2 hb02 hbd
      go_wp2_with fail
      refine O2.out.mono ?_; rintro e w3 ⟨u3, rfl, hu3, hb3⟩
      have HE := Lib.hid hu3
      have HB3 := Lib.hid (below_next HB2.out hb3)
      clear hu3 hb3
      go_wp2_with fail
      go_ret
      exact ⟨_, rfl, HE.out, HB3.out⟩
end Go.Proofs.Ytedljdcliilggaa

namespace Go.Proofs.Ytedljdcliilggaa
open Go.RowKit

theorem askApply_any : AskApply := fun bs v x w0 w hv hl hx hp hb => apply_bd v bs x w0 w hv (by omega) hx hp hb
theorem askThen_any : AskThen := fun cs bs va vb W h1 h2 h3 h4 h5 => then_bd va vb cs bs W W h1 h2 (Below.refl _ _) h3 h4 h5
end Go.Proofs.Ytedljdcliilggaa

namespace Go.Proofs.Ytedljdcliilggaa
open Go.RowKit

theorem lawAlike7_any (x y : Tv) (w : World) (hx : x.ok w) (hy : y.ok w) :
    Calls Try.prog 4 #[x.val, y.val] w fun e w' => e = .returned (.bool true) ∧ Below w.heap.size w w' :=
  lawAlike7_of (awake7_of pcan_any punify_any) punify_any askApply_any x y w hx hy
end Go.Proofs.Ytedljdcliilggaa

namespace Go.Proofs.Ytedljdcliilggaa
open Go.RowKit

set_option maxRecDepth 100000 in
set_option maxHeartbeats 1000000 in
theorem copied_tm (v : Value) (ts : List Tm) (w0 w : World) (hv : Tms w0 v ts) (hb0 : Below w0.heap.size w0 w) (hlen : ts.length ≤ 1000000) :
    Calls Try.prog 50 #[v] w fun e w' => ∃ u, e = .returned u ∧ OwnTv w0 w' w.heap.size u ts ∧ (u = .slice none 0 0 ↔ ts = []) ∧ Below w.heap.size w w' := by
  obtain ⟨i0, hi, hz0, hz1, hz2⟩ := info_parts termInfo
  obtain ⟨a, c, rfl, hl, h⟩ := hv
  cases a with
  | none =>
    obtain rfl : ts = [] := by
      rcases h with h | ⟨b, o, ha, _⟩
      · exact h
      · cases ha
    go_enter Try.func50, Try.ntmps50
    go_wp2_with (at_builtin; refine wpList_append_own_none rfl _ _ 22 rfl w.heap.size 24 i0 4 Try.underlying22 hi _ 0 _ rfl (World.ownsRow_nil _ _ _ _) rfl ?_)
    go_wp2_with fail
    go_ret
    exact ⟨_, rfl, ⟨[], rfl, (fun x hx => by cases hx), World.ownsRow_nil _ _ _ _⟩, by simp, Below.refl _ _⟩
  | some ad =>
    obtain ⟨vs, hvt, hvo, hlt, hnews⟩ : ∃ vs : List Tv, vs.map Tv.t = ts ∧ (∀ x ∈ vs, x.ok w0) ∧ (0 < ts.length → ad.block < w.heap.size) ∧ ∀ q x, (rowTv vs)[q]? = some x → w.cell? (ad.add q) = some x := by
      rcases h with rfl | ⟨b, o, ha, hlt, hr⟩
      · exact ⟨[], rfl, (fun x hx => by cases hx), by simp, fun q x h => by simp [rowTv] at h⟩
      · cases ha
        obtain ⟨vs, hvt, hvo, hc⟩ := rowAt_vs hr
        exact ⟨vs, hvt, hvo, fun _ => Nat.lt_of_lt_of_le hlt hb0.size, fun q x hq => by rw [addr_row]; exact (hb0.cell (p := ⟨b, o + q, none⟩) hlt).trans (hc q x hq)⟩
    have hvl : vs.length = ts.length := by rw [← hvt, List.length_map]
    have hrl : (rowTv vs).length = ts.length * 4 := by rw [rowTv_length, hvl]
    have HV := Lib.hid (And.intro hvt hvo)
    have H1 := Lib.hid (And.intro hrl (And.intro hnews (rowTv_one' vs)))
    clear hvt hvo hvl hrl hnews h hlt hb0
    go_enter Try.func50, Try.ntmps50
    go_wp2_with (at_builtin; refine wpList_append_own _ rfl _ _ 22 rfl w.heap.size 24 i0 (.agg #[.int .i64 0, .string ⟨#[]⟩, .int .i64 0, .slice none 0 0]) 4 56 Try.underlying22 hi hz0 hz1 hz2 rfl (by decide) _ 0 _ rfl (World.ownsRow_nil _ _ _ _) ad ts.length c (rowTv vs) rfl H1.out.1 H1.out.2.1 H1.out.2.2 ?ap3 ?ap4 ?ap5 ?_)
    case ap3 => unfold maxLen; omega
    case ap4 => omega
    case ap5 => omega
    intro v1 w1 hown hgrow hnil
    have hb : Below w.heap.size w w1 := (Below.refl _ _).grown hgrow (Nat.le_refl _) (fun k hk => by cases hk)
    have HO := Lib.hid hown
    have HN := Lib.hid hnil
    clear hown hgrow hnil
    go_wp2_with fail
    go_ret
    exact ⟨_, rfl, ⟨vs, HV.out.1, HV.out.2, HO.out⟩, HN.out, hb⟩

set_option maxHeartbeats 400000 in
theorem pvar_any (s : ByteArray) (w : World) :
    Calls Try.prog 34 #[.string s] w fun e w' => e = .returned (.agg #[.int .i64 1, .string s, .int .i64 0, .slice none 0 0]) ∧ Below w.heap.size w w' := by
  go_enter Try.func34, Try.ntmps34
  go_wp2_with fail
  exact bodyPost_ret (v := .agg #[.int .i64 1, .string s, .int .i64 0, .slice none 0 0]) (by simp [results, Try.results34, go_sem]) rfl ⟨rfl, (Below.refl _ _).alloc (Nat.le_refl _) _⟩

set_option maxHeartbeats 1000000 in
theorem pfun_any (s : ByteArray) (v : Value) (ts : List Tm) (w : World) (hs : s.size ≤ 1000) (hv : Tms w v ts) (hl : ts.length ≤ 100) :
    Calls Try.prog 35 #[.string s, v] w fun e w' => ∃ x : Tv, e = .returned x.val ∧ x.t = .mk 5 s 0 ts ∧ x.ok w' ∧ Below w.heap.size w w' := by
  have hb1 : Below w.heap.size w (w.alloc (.cells #[.int .i64 0, .string ⟨#[]⟩, .int .i64 0, .slice none 0 0] 24)) := (Below.refl _ _).alloc (Nat.le_refl _) _
  have hbx := (box_new w (.int .i64 0) (.string ⟨#[]⟩) (.int .i64 0) (.slice none 0 0) 24)
  have hsz : w.heap.size < (w.alloc (.cells #[.int .i64 0, .string ⟨#[]⟩, .int .i64 0, .slice none 0 0] 24)).heap.size := by simp
  have C := Lib.hid (copied_tm v ts w (w.alloc (.cells #[.int .i64 0, .string ⟨#[]⟩, .int .i64 0, .slice none 0 0] 24)) hv hb1 (by omega))
  obtain ⟨a, c, rfl, hl2, h⟩ := hv
  clear h
  go_enter Try.func35, Try.ntmps35
  go_wp2_with fail
  refine C.out.mono ?_; rintro e w2 ⟨u, rfl, hown, _, hb2⟩
  obtain ⟨c0, c1, c2, c3, f0, f1, f2, f3⟩ := hbx.below hb2 hsz
  have hb := below_next hb1 hb2
  have hub : ∀ p0 p1 p2 p3 : Value, OwnTv w ((((w2.setCell ⟨w.heap.size, 0, none⟩ p0).setCell ⟨w.heap.size, 1, none⟩ p1).setCell ⟨w.heap.size, 2, none⟩ p2).setCell ⟨w.heap.size, 3, none⟩ p3) w.heap.size u ts := fun p0 p1 p2 p3 => by
    obtain ⟨vs, hvt, hvo, hr⟩ := hown
    exact ⟨vs, hvt, hvo, own_lower (own_setCell (own_setCell (own_setCell (own_setCell hr hsz _) hsz _) hsz _) hsz _) (by simp)⟩
  have hbb : ∀ p0 p1 p2 p3 : Value, Below w.heap.size w ((((w2.setCell ⟨w.heap.size, 0, none⟩ p0).setCell ⟨w.heap.size, 1, none⟩ p1).setCell ⟨w.heap.size, 2, none⟩ p2).setCell ⟨w.heap.size, 3, none⟩ p3) := fun p0 p1 p2 p3 => ((((hb.setCell (Nat.le_refl _) _).setCell (Nat.le_refl _) _).setCell (Nat.le_refl _) _).setCell (Nat.le_refl _) _)
  have htm := fun p0 p1 p2 p3 => (hub p0 p1 p2 p3).tms (hbb p0 p1 p2 p3) hl2.1
  obtain ⟨a2, n2, k2, rfl⟩ : ∃ a2 n2 k2, u = .slice a2 n2 k2 := by
    obtain ⟨a2, k2, e, _⟩ := htm .nilFunc .nilFunc .nilFunc .nilFunc
    exact ⟨a2, _, k2, e⟩
  have HT := Lib.hid htm
  have HB := Lib.hid hbb
  clear hown hbx C htm hub hbb hb hb1 hb2 hsz
  go_wp2_with fail
  obtain ⟨a3, k3, e3, ha3⟩ := HT.out (.int .i64 5) (.string s) (.int .i64 0) (.slice a2 n2 k2)
  cases e3
  exact bodyPost_ret (v := .agg #[.int .i64 5, .string s, .int .i64 0, .slice a2 ts.length k2]) (by simp [results, Try.results35, go_sem, c0, c1, c2, c3]) rfl ⟨⟨.mk 5 s 0 ts, a2, k2⟩, rfl, rfl, ⟨⟨by simp [Tm.kind], by simp [Tm.kind], by simp [Tm.n], by simp [Tm.n], by simp only [Tm.name]; omega⟩, ha3⟩, HB.out _ _ _ _⟩
end Go.Proofs.Ytedljdcliilggaa

namespace Go.Proofs.Ytedljdcliilggaa
open Go.RowKit Go.Maps

theorem rising_new {l : List Bn} {k : Nat} {x : Bn} (h : Rising l) (hk : l[k]? = some x) : getB (l.take k) x.1 = none := by
  obtain ⟨hl, rfl⟩ := List.getElem?_eq_some_iff.1 hk
  refine getB_none fun y hy => ?_
  obtain ⟨j, hj, rfl⟩ := List.getElem_of_mem hy
  rw [List.length_take] at hj
  rw [List.getElem_take]
  exact ltN_ne (List.pairwise_iff_getElem.1 h j k (by omega) hl (by omega))
theorem OwnBv.bind {w0 W : World} {base : Nat} {a : Option Addr} {c : Nat} {l : List Bn} (h : OwnBv w0 W base (.slice a l.length c) l) {i : Nat} {x : Bn} (hi : l[i]? = some x) :
    ∃ (g : Nat) (y : Bv), a = some ⟨g, 0, none⟩ ∧ g < W.heap.size ∧ y.bn = x ∧ y.s.size ≤ 9223372036854775807 ∧ BvAt W g (i * 5) y := by
  obtain ⟨vs, hm, hok, hn, ⟨h1, h0⟩ | ⟨g, cap, cur, h1, _, hg, _, _, _, ht⟩⟩ := h
  · have := (List.getElem?_eq_some_iff.1 hi).1; omega
  · cases h1
    subst hm
    rw [List.getElem?_map] at hi
    obtain ⟨y, hy, rfl⟩ := Option.map_eq_some_iff.1 hi
    obtain ⟨hj, rfl⟩ := List.getElem?_eq_some_iff.1 hy
    have cell : ∀ k, k < 5 → W.cell? ⟨g, i * 5 + k, none⟩ = vs[i].cells[k]? := by
      intro k hk
      rw [cell_of_row W g (i * 5 + k) cur _ (0, 0) hg, ← rowBv_get vs i hj k hk, ← ht, List.getElem?_take, if_pos (by simp; omega)]
      simp
    exact ⟨g, vs[i], rfl, (Array.getElem?_eq_some_iff.1 hg).1, rfl, (hok _ (List.getElem_mem hj)).2, cell 0 (by omega), cell 1 (by omega), cell 2 (by omega), cell 3 (by omega), cell 4 (by omega)⟩

/-- What a call leaves that makes what is known. -/
def KnowPost (w0 w : World) (l : List Bn) (e : Ending) (w' : World) : Prop := ∃ kb bm, e = .returned (.pointer (some ⟨kb, 0, none⟩)) ∧ KnAt w0 w' w.heap.size kb bm l ∧ Below w.heap.size w w'
set_option maxRecDepth 100000 in
set_option maxHeartbeats 4000000 in
theorem knowing_any (v : Value) (bs : List Bn) (w0 w : World) (hv : Bds w0 v bs) (hb0 : Below w0.heap.size w0 w) (hlen : bs.length ≤ 1000000) :
    Calls Try.prog 51 #[v] w (KnowPost w0 w (ofB bs)) := by
  have OF := Lib.hid (of_own v bs w0 w hv hb0 hlen)
  have HL := Lib.hid (ofB_length bs)
  have HR := Lib.hid (ofB_rising bs)
  have hmm := @run_makeMap Try.prog
  obtain ⟨L, hL⟩ : ∃ L, ofB bs = L := ⟨_, rfl⟩
  rw [hL] at HR HL OF ⊢
  clear hL
  obtain ⟨a, c, rfl, _, _⟩ := hv
  clear hb0
  go_enter Try.func51, Try.ntmps51
  go_wp2_with fail
  refine OF.out.mono ?_; rintro e w1 ⟨u, rfl, _, hu, hb1⟩
  have hu2 := hu
  obtain ⟨vs, hvm, hvo, hvr⟩ := hu2
  obtain ⟨a1, c1, rfl⟩ := own_form2 hvr
  have hul : L.length ≤ 1000000 := by have := HL.out; omega
  clear HL OF hvm hvo hvr
  have hb2 : Below w.heap.size w (w1.alloc (.map #[] 0)) := hb1.alloc hb1.size _
  have hb3 : Below w.heap.size w ((w1.alloc (.map #[] 0)).alloc (.cells #[.slice a1 L.length c1, .map (some w1.heap.size)] 79)) := hb2.alloc hb2.size _
  have hz3 : (w1.alloc (.map #[] 0)).heap.size = w1.heap.size + 1 := by simp
  have hkb : ((w1.alloc (.map #[] 0)).alloc (.cells #[.slice a1 L.length c1, .map (some w1.heap.size)] 79)).heap[w1.heap.size + 1]? = some (.cells #[.slice a1 L.length c1, .map (some w1.heap.size)] 79 (0, 0)) := by
    rw [← hz3]; exact heap_alloc_new _ _
  have hu3 : OwnBv w0 ((w1.alloc (.map #[] 0)).alloc (.cells #[.slice a1 L.length c1, .map (some w1.heap.size)] 79)) w.heap.size (.slice a1 L.length c1) L :=
    (hu.kept (World.grownBy_alloc w1 (.map #[] 0) none) (fun g cc e => by cases e)).kept (World.grownBy_alloc _ _ none) (fun g cc e => by cases e)
  have hm3 : ((w1.alloc (.map #[] 0)).alloc (.cells #[.slice a1 L.length c1, .map (some w1.heap.size)] 79)).ownsMap Try.prog 9 (plainElem (H := Unit) Try.prog 3) w1.heap.size 0 (.map []) := (World.ownsMap_made w1 Try.prog 9 _).alloc _
  have HS1 := Lib.hid (And.intro hb1.size (show w1.heap.size ≠ w1.heap.size + 1 by omega))
  obtain ⟨w3, hw3⟩ : ∃ w3, w3 = ((w1.alloc (.map #[] 0)).alloc (.cells #[.slice a1 L.length c1, .map (some w1.heap.size)] 79)) := ⟨_, rfl⟩
  rw [← hw3] at hb3 hkb hu3 hm3
  have HW3 := Lib.hid hw3
  have HB3 := Lib.hid hb3
  have HKB := Lib.hid hkb
  have HU3 := Lib.hid hu3
  have HM3 := Lib.hid hm3
  have pk := known_cells hkb
  obtain ⟨p0, p1, _, _⟩ := pk
  rw [hw3] at p0 p1
  clear hb1 hb2 hb3 hz3 hkb hu hu3 hm3 hw3
  go_wp2_with fail
  rw [← HW3.out]
  clear p0 p1 HW3
  go_loopw [16] (fun i wr => ∃ (k : Nat), k ≤ L.length ∧ i = .int .i64 k ∧ Hid (wr.heap[w1.heap.size + 1]? = some (.cells #[.slice a1 L.length c1, .map (some w1.heap.size)] 79 (0, 0))) ∧ Hid (∃ D : DataW Unit, wr.ownsMap Try.prog 9 (plainElem Try.prog 3) w1.heap.size k D ∧ NameIdx D (L.take k)) ∧
    Hid (OwnBv w0 wr w.heap.size (.slice a1 L.length c1) L) ∧ Below w.heap.size w wr) (fun i _ => L.length - (intOf i).toNat)
  case atStart => exact ⟨0, Nat.zero_le _, rfl, HKB, Lib.hid ⟨_, HM3.out, by rw [List.take_zero]; exact nameIdx_none⟩, HU3, HB3.out⟩
  case round =>
    obtain ⟨k, hk, rfl, HK, HM, HO, hb⟩ := hrel
    clear HKB HM3 HU3 HB3
    by_cases hkl : k < L.length
    · obtain ⟨x, hx⟩ : ∃ x, L[k]? = some x := ⟨_, List.getElem?_eq_getElem hkl⟩
      obtain ⟨g, ⟨ys, yt, ya, yc⟩, rfl, hgl, hyx, hys, hy⟩ := HO.out.bind hx
      obtain ⟨D, hown, hD⟩ := HM.out
      have hnew := rising_new HR.out hx
      obtain rfl : (ys, yt) = x := hyx
      have HX := Lib.hid hx
      have HNEW := Lib.hid hnew
      have HD := Lib.hid hD
      have hkey := keyOf_name hys
      have hM : k < maxLen := by unfold maxLen; omega
      have hWF : (Lit.int .i64 (k : Int)).wf = true := WalkArith.wf_i64 (by omega)
      have hk0 : (0 : Int) ≤ (k : Int) := by omega
      have hk1 : (k : Int) < (L.length : Int) := by omega
      have hkd : decide ((k : Int) < (L.length : Int)) = true := decide_eq_true hk1
      obtain ⟨m0, m1, m2, m3, m4⟩ := hy
      simp only at m0 m1 m2 m3 m4
      have hown4 := (hown.alloc (.cells #[.string ys, .int .i64 yt.kind, .string yt.name, .int .i64 yt.n, .slice ya yt.args.length yc] 41)).drew
      obtain ⟨w5, hrun, hown5, hg5⟩ := hown4.update law_name Try.underlying58 hM hkey (plainElem_int Try.underlying3 hWF)
      have hkw : w1.heap.size + 1 < wr.heap.size := (Array.getElem?_eq_some_iff.1 HK.out).1
      have hbr : Below w.heap.size w ((wr.alloc (.cells #[.string ys, .int .i64 yt.kind, .string yt.name, .int .i64 yt.n, .slice ya yt.args.length yc] 41)).drew) := (hb.alloc hb.size _).drew
      have hk5 : w5.heap[w1.heap.size + 1]? = some (.cells #[.slice (some ⟨g, 0, none⟩) L.length c1, .map (some w1.heap.size)] 79 (0, 0)) := by
        rw [hg5.block (w1.heap.size + 1) (by show _ < (wr.alloc _).heap.size; simp; omega) (fun e => HS1.out.2 (Option.some.inj e).symm)]
        exact (Below.heap_alloc _ _ _ hkw).trans HK.out
      have ho4 : OwnBv w0 ((wr.alloc (.cells #[.string ys, .int .i64 yt.kind, .string yt.name, .int .i64 yt.n, .slice ya yt.args.length yc] 41)).drew) w.heap.size (.slice (some ⟨g, 0, none⟩) L.length c1) L := HO.out.kept (w' := (wr.alloc (.cells #[.string ys, .int .i64 yt.kind, .string yt.name, .int .i64 yt.n, .slice ya yt.args.length yc] 41)).drew) (row := none) (grownBy_below (((Below.refl _ _).alloc (Nat.le_refl _) _).drew)) (fun g' cc e => by cases e)
      have ho5 : OwnBv w0 w5 w.heap.size (.slice (some ⟨g, 0, none⟩) L.length c1) L := ho4.kept hg5 (fun g' cc e hc => by
          obtain rfl := Option.some.inj e
          obtain ⟨es, clock, hbm, _⟩ := hown4
          rw [hbm] at hc; cases hc)
      have hb5 : Below w.heap.size w w5 := hbr.grown hg5 hbr.size (fun k' e => by obtain rfl := Option.some.inj e; exact HS1.out.1)
      have HE := Lib.hid (And.intro hk5 (And.intro ho5 (And.intro hb5 hown5)))
      have KC := known_cells HK.out
      have KS := Lib.hid (show w5.cell? ⟨w1.heap.size + 1, 1, none⟩ = some (.map (some w1.heap.size)) from (known_cells hk5).c1)
      have KB := Lib.hid (show (wr.alloc (.cells #[.string ys, .int .i64 yt.kind, .string yt.name, .int .i64 yt.n, .slice ya yt.args.length yc] 41)).cell? ⟨w1.heap.size + 1, 1, none⟩ = some (.map (some w1.heap.size)) from (World.cell?_of_block (w := wr) (a := ⟨w1.heap.size + 1, 1, none⟩) (Below.heap_alloc _ _ _ hkw)).trans KC.c1)
      clear hx hnew hgl hys hown hD hown4 hown5 hg5 hbr hk5 ho4 ho5 hb5 hb KC
      have hkb := KB.out
      go_wp2_with fail
      go_region
      go_wp2_with fail
      go_roundw
      case rel =>
        refine ⟨k + 1, by omega, by go_num, Lib.hid HE.out.1, Lib.hid ⟨_, HE.out.2.2.2, ?_⟩, Lib.hid HE.out.2.1, HE.out.2.2.1⟩
        have h := HD.out.snoc yt HNEW.out
        rw [List.length_take, Nat.min_eq_left hk] at h
        obtain ⟨hl, he⟩ := List.getElem?_eq_some_iff.1 HX.out
        rw [List.take_succ_eq_append_getElem hl, he]
        exact h
      case measure => simp [intOf]; omega
    · have hke : k = L.length := by omega
      have hkd : decide ((k : Int) < (L.length : Int)) = false := decide_eq_false (by omega)
      have hkn : ¬ (k : Int) < (L.length : Int) := by omega
      have HE := Lib.hid (show KnAt w0 wr w.heap.size (w1.heap.size + 1) w1.heap.size L from ⟨by have := HS1.out.1; omega, HS1.out.1, ⟨_, HK.out, HO.out⟩, by
        obtain ⟨D, h1, h2⟩ := HM.out
        rw [hke] at h1 h2
        rw [List.take_length] at h2
        exact ⟨D, h1, h2⟩⟩)
      have HBE := Lib.hid hb
      clear hke hb
      go_wp2_with fail
      go_ret
      exact ⟨_, _, rfl, HE.out, HBE.out⟩
end Go.Proofs.Ytedljdcliilggaa

namespace Go.Proofs.Ytedljdcliilggaa
open Go.RowKit Go.Maps

/-- What a call that looks for binds leaves. -/
def MorePost (o : Option (List Bn)) (w : World) (e : Ending) (w' : World) : Prop := ∃ u, e = .returned (.tuple #[u, .bool o.isSome]) ∧ Bds w' u (o.getD []) ∧ Below w.heap.size w w'

set_option maxRecDepth 100000 in
set_option maxHeartbeats 4000000 in
theorem pall_any (v va vb : Value) (ps ts : List Tm) (l : List Bn) (w : World) (ha : Tms w va ps) (hb : Tms w vb ts) (hv : Bds w v l) (hl : l.length + 1 + 2 * partsL ps ≤ 1000000) :
    Calls Try.prog 36 #[v, va, vb] w (MorePost (moreL ps ts l) w) := by
  have KN := Lib.hid (knowing_any v l w w hv (Below.refl _ _) (by omega))
  have HOL := Lib.hid (ofB_length l)
  have HML := Lib.hid (moreL_of ps ts l)
  obtain ⟨av, cv, rfl, _, _⟩ := hv
  obtain ⟨aa, ca, rfl, hra⟩ := ha
  obtain ⟨ab, cb, rfl, hrb⟩ := hb
  by_cases hn : ps.length = ts.length
  · have hln : ((ps.length : Int) != (ts.length : Int)) = false := by rw [hn]; simp
    have hle : ((ps.length : Int) == (ts.length : Int)) = true := by rw [hn]; simp
    have FT := Lib.hid (fun (w1 : World) (kb bm : Nat) (h : KnAt w w1 w.heap.size kb bm (ofB l)) (hb : Below w.heap.size w w1) => fit_any w w1 w.heap.size kb bm (ofB l) ⟨aa, ca, ps, ab, cb, ts⟩ h ⟨hn, hra, hrb⟩ hb (Nat.le_refl _) hb.size (by have := HOL.out; simp only; omega))
    simp only at FT
    rw [HML.out] at FT
    obtain ⟨R, hR⟩ : ∃ R, moreL ps ts l = R := ⟨_, rfl⟩
    rw [hR] at FT ⊢
    clear hn hra hrb HML hR hl HOL
    go_enter Try.func36, Try.ntmps36
    go_wp2_with fail
    refine KN.out.mono ?_; rintro e w1 ⟨kb, bm, rfl, hK, hb1⟩
    have F1 := Lib.hid (FT.out w1 kb bm hK hb1)
    have HB1 := Lib.hid hb1
    clear hK hb1 FT KN
    unfold FitPost at F1
    cases R with
    | none =>
      simp only [Option.isSome_none] at F1
      go_wp2_with fail
      refine F1.out.mono ?_; rintro e w2 ⟨rfl, hb2, _⟩
      have HB2 := Lib.hid (HB1.out.trans hb2)
      clear hb2
      go_wp2_with fail
      go_ret2
      exact ⟨_, rfl, Bds.none_ _ _ _, HB2.out⟩
    | some m =>
      simp only [Option.isSome_some] at F1
      go_wp2_with fail
      refine F1.out.mono ?_; rintro e w2 ⟨rfl, hb2, hm⟩
      obtain ⟨l', hK, hl', rfl⟩ := hm m rfl
      have HB2 := Lib.hid (HB1.out.trans hb2)
      obtain ⟨a2, c2, hkb, hrow⟩ := hK.open_
      obtain ⟨p0, p1, _, _⟩ := known_cells hkb
      have O2 := Lib.hid (of_bd (.slice a2 l'.length c2) l' w2 w2 (hrow.bds HB2.out (by omega)) (Below.refl _ _) (by omega))
      have HL := Lib.hid (ofB_length l')
      have HLL := Lib.hid hl'
      clear hb2 hm hK hkb hrow hl'
      go_wp2_with fail
      refine O2.out.mono ?_; rintro e w3 ⟨u3, rfl, hu3, hb3⟩
      have HU := Lib.hid (hu3.bds hb3 (by have := HL.out; have := HLL.out; omega))
      have HB3 := Lib.hid (HB2.out.trans (hb3.mono HB2.out.size))
      obtain ⟨a3, c3, rfl, _, _⟩ := HU.out
      clear hu3 hb3
      go_wp2_with fail
      go_ret2
      exact ⟨_, rfl, HU.out, HB3.out⟩
  · have hln : ((ps.length : Int) != (ts.length : Int)) = true := by simp; omega
    have hle : ((ps.length : Int) == (ts.length : Int)) = false := by simp; omega
    have HF := Lib.hid (moreL_short (l := l) hn)
    clear hn
    go_enter Try.func36, Try.ntmps36
    go_wp2_with fail
    go_ret2
    rw [HF.out]
    exact ⟨_, rfl, Bds.none_ _ _ _, Below.refl _ _⟩
end Go.Proofs.Ytedljdcliilggaa
