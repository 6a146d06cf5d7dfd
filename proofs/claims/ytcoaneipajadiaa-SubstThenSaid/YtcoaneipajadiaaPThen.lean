/-
  Binds behind binds, by the program's Then.
-/
import Derived.Test.YtcoaneipajadiaaRThen
import Derived.Test.YtcoaneipajadiaaPApply
import Derived.Deep.RegionHeld3
namespace Go.Proofs.Ytcoaneipajadiaa
open Go.RowKit Go.Shelf Go.Lib Go.Sort

theorem own_form1 {w : World} {base : Nat} {e : TypeId} {size n : Nat} {v : Value} {xs : List Value} (h : w.ownsRow base e size v n xs) : ∃ a c, v = .slice a n c := by
  obtain ⟨_, ⟨rfl, rfl⟩ | ⟨g, cap, _, rfl, _⟩⟩ := h
  · exact ⟨none, 0, rfl⟩
  · exact ⟨_, cap, rfl⟩
set_option maxRecDepth 100000 in
set_option maxHeartbeats 8000000 in
theorem then_bd (va vb : Value) (cs bs : List Bn) (w0 w : World) (ha : Bds w0 va cs) (hb : Bds w0 vb bs) (hb0 : Below w0.heap.size w0 w) (hl1 : cs.length ≤ 40) (hl2 : bs.length ≤ 40) (hp : ∀ x ∈ cs, x.2.parts ≤ 100) :
    Calls Try.prog 25 #[va, vb] w fun e w' => ∃ u, e = .returned u ∧ Bds w' u (thenB cs bs) ∧ Below w.heap.size w w' := by
  obtain ⟨i0, hi, hz0, hz1, hz2⟩ := info_parts bindInfo
  have PU := Lib.hid (putter_any vb bs w0 w hb hb0 (by omega))
  have PT := Lib.hid (fun (x : Tv) (w1 W : World) (g4 : Nat) (hw1 : Below w.heap.size w w1) (hW : Below w1.heap.size w1 W) (hP : PutsAt w0 w1.heap.size g4 bs w1) (hx : x.ok w0) (hpx : x.t.parts ≤ 100) => (put_any bs x w0 W w1.heap.size g4 hx (by omega) (hb0.trans ((hw1.trans (hW.mono hw1.size)).mono hb0.size)) hW.size (hP.below hW)).mono (fun e w' ⟨z, h1, h2, h3, h4⟩ => (show ∃ (tz : Tm) (az : Option Addr) (cz : Nat), e = Ending.returned (.agg #[.int .i64 tz.kind, .string tz.name, .int .i64 tz.n, .slice az tz.args.length cz]) ∧ tz = appT bs x.t ∧ Fresh w0 W w' ⟨tz, az, cz⟩ ∧ Below W.heap.size W w' from ⟨z.t, z.a, z.c, h1, h2, h3, h4⟩)))
  have OF := Lib.hid (fun (u : Value) (ms : List Bn) (W : World) (h : Bds W u ms) (hl : ms.length ≤ 1000) => (of_bd u ms W W h (Below.refl _ _) (by omega)).mono (fun e w' ⟨u', h1, h2, h3⟩ => (show ∃ u', e = Ending.returned u' ∧ Bds w' u' (ofB ms) ∧ Below W.heap.size W w' from ⟨u', h1, h2.bds h3 (by have := ofB_length ms; omega), h3⟩)))
  have HB := Lib.hid hb0
  have HP := Lib.hid (fun (q : Nat) (x : Bn) (h : cs[q]? = some x) => hp x (List.mem_of_getElem? h))
  obtain ⟨ab, cb, vsB, rfl, hBt, hBo, hBx, hBc⟩ := bds_open hb hb0
  have hBl : vsB.length = bs.length := by rw [← hBt, List.length_map]
  have HBB := Lib.hid (And.intro hBx (And.intro (show (rowBv vsB).length = bs.length * 5 by rw [rowBv_length, hBl]) (And.intro hBc (rowBv_one' vsB))))
  have HBT := Lib.hid (And.intro hBt (And.intro hBo hBl))
  obtain ⟨aa, ca, rfl, hla, hra⟩ := ha
  have HA := Lib.hid hra
  have HSZ := Lib.hid (fun (q : Nat) (x : Bn) (h : cs[q]? = some x) => (show x.1.size ≤ 9223372036854775807 from by
    rcases hra with h' | ⟨b, o, _, _, hat⟩
    · rw [h'] at h; simp at h
    · exact (hat q x h).1))
  clear hb hb0 hp hBt hBo hBx hBc hBl hra
  go_enter Try.func25, Try.ntmps25
  go_wp2_with fail
  refine PU.out.mono ?_; rintro e w1 ⟨g4, rfl, hP, hb1⟩
  have HPA := Lib.hid hP
  have HB1 := Lib.hid hb1
  clear hP hb1 PU
  go_wp2_with fail
  go_loopw [6, 13] (fun o i wr => ∃ (q : Nat) (vs : List Bv), q ≤ cs.length ∧ i = .int .i64 q ∧ vs.length = q ∧ Hid (vs.map Bv.bn = putB bs (cs.take q)) ∧ Hid (∀ x ∈ vs, Beside w0 w1 wr o x.v ∧ x.s.size ≤ 9223372036854775807) ∧
    Hid (wr.ownsRow w1.heap.size 50 5 o q (rowBv vs)) ∧ Below w1.heap.size w1 wr) (fun _ i _ => cs.length - (intOf i).toNat)
  case atStart => exact ⟨0, [], Nat.zero_le _, rfl, rfl, Lib.hid rfl, Lib.hid (fun x hx => by cases hx), Lib.hid (World.ownsRow_nil _ _ _ _), Below.refl _ _⟩
  case round =>
    obtain ⟨q, vs, hq, rfl, hvl, HVT, HVO, HOWN, hb⟩ := hrel
    by_cases hql : q < cs.length
    · obtain ⟨b, o, rfl, hlt, hat⟩ := HA.out.resolve_left (by intro h; rw [h] at hql; simp at hql)
      obtain ⟨x, hx⟩ : ∃ x, cs[q]? = some x := ⟨_, List.getElem?_eq_getElem hql⟩
      obtain ⟨⟨ys, yt, ya, yc⟩, hyx, hyo, hy⟩ := bdAt_bv (hat q x hx)
      have hbw : Below w.heap.size w wr := HB1.out.trans (hb.mono HB1.out.size)
      have hb0r := HB.out.trans (hbw.mono HB.out.size)
      obtain ⟨m0, m1, m2, m3, m4⟩ := hy.below hb0r
      have HXE := Lib.hid (show x = (ys, yt) from hyx.symm)
      have HNX := Lib.hid (putB_succ bs hx)
      have HS := Lib.hid (show ys.size ≤ 9223372036854775807 from by have := HSZ.out q x hx; rw [HXE.out] at this; exact this)
      have hpp : yt.parts ≤ 100 := by have := HP.out q x hx; rw [HXE.out] at this; exact this
      have hk0 : (0 : Int) ≤ (q : Int) := by omega
      have hk1 : (q : Int) < (cs.length : Int) := by omega
      have hkd : decide ((q : Int) < (cs.length : Int)) = true := decide_eq_true hk1
      simp only at m0 m1 m2 m3 m4
      have hBz : Below wr.heap.size wr (wr.alloc (.cells #[.string ys, .int .i64 yt.kind, .string yt.name, .int .i64 yt.n, .slice ya yt.args.length yc] 50)) := (Below.refl _ _).alloc (Nat.le_refl _) _
      have hzs : (wr.alloc (.cells #[.string ys, .int .i64 yt.kind, .string yt.name, .int .i64 yt.n, .slice ya yt.args.length yc] 50)).heap.size = wr.heap.size + 1 := by simp
      have bT := fun i => World.cell?_alloc_mark wr #[.string ys, .int .i64 yt.kind, .string yt.name, .int .i64 yt.n, .slice ya yt.args.length yc] 50 (0, 0) i
      obtain ⟨wz, hwz⟩ : ∃ wz, wz = wr.alloc (.cells #[.string ys, .int .i64 yt.kind, .string yt.name, .int .i64 yt.n, .slice ya yt.args.length yc] 50) := ⟨_, rfl⟩
      rw [← hwz] at hBz hzs bT
      have hKEEP : ∀ W, Below wz.heap.size wz W → (W.cell? ⟨wr.heap.size, 0, none⟩ = some (.string ys) ∧ W.cell? ⟨wr.heap.size, 1, none⟩ = some (.int .i64 yt.kind) ∧ W.cell? ⟨wr.heap.size, 2, none⟩ = some (.string yt.name) ∧ W.cell? ⟨wr.heap.size, 3, none⟩ = some (.int .i64 yt.n) ∧ W.cell? ⟨wr.heap.size, 4, none⟩ = some (.slice ya yt.args.length yc)) := fun W h =>
        ⟨(h.cell (p := ⟨wr.heap.size, 0, none⟩) (by show wr.heap.size < _; omega)).trans (bT 0), (h.cell (p := ⟨wr.heap.size, 1, none⟩) (by show wr.heap.size < _; omega)).trans (bT 1), (h.cell (p := ⟨wr.heap.size, 2, none⟩) (by show wr.heap.size < _; omega)).trans (bT 2), (h.cell (p := ⟨wr.heap.size, 3, none⟩) (by show wr.heap.size < _; omega)).trans (bT 3), (h.cell (p := ⟨wr.heap.size, 4, none⟩) (by show wr.heap.size < _; omega)).trans (bT 4)⟩
      have KEEP := Lib.hid hKEEP
      have HOL := Lib.hid (fun g' (e : u6.ownBlock = some g') => (HOWN.out.lt g' e).2)
      have KEEP4 := Lib.hid (fun (V W : World) (hg : V.grownBy W u6.ownBlock) (hB : Below wz.heap.size wz V) => (show (W.cell? ⟨wr.heap.size, 0, none⟩ = some (.string ys) ∧ W.cell? ⟨wr.heap.size, 1, none⟩ = some (.int .i64 yt.kind) ∧ W.cell? ⟨wr.heap.size, 2, none⟩ = some (.string yt.name) ∧ W.cell? ⟨wr.heap.size, 3, none⟩ = some (.int .i64 yt.n) ∧ W.cell? ⟨wr.heap.size, 4, none⟩ = some (.slice ya yt.args.length yc)) from by
        obtain ⟨e0, e1, e2, e3, e4⟩ := hKEEP V hB
        have hV := hB.size
        have hne : some wr.heap.size ≠ u6.ownBlock := fun e => by have := HOL.out _ e.symm; omega
        exact ⟨(hg.cell_far ⟨wr.heap.size, 0, none⟩ (by show wr.heap.size < _; omega) hne).trans e0, (hg.cell_far ⟨wr.heap.size, 1, none⟩ (by show wr.heap.size < _; omega) hne).trans e1, (hg.cell_far ⟨wr.heap.size, 2, none⟩ (by show wr.heap.size < _; omega) hne).trans e2, (hg.cell_far ⟨wr.heap.size, 3, none⟩ (by show wr.heap.size < _; omega) hne).trans e3, (hg.cell_far ⟨wr.heap.size, 4, none⟩ (by show wr.heap.size < _; omega) hne).trans e4⟩))
      have A0 := Lib.hid (show Below wz.heap.size wz wz.drew from (Below.refl _ _).drew)
      have A3 := Lib.hid (fun (W : World) o (h : Below wz.heap.size wz W) => (show Below wz.heap.size wz (W.alloc o) from h.alloc h.size o))
      have CT := Lib.hid (fun (W : World) (h : Below wz.heap.size wz W) => (PT.out ⟨yt, ya, yc⟩ w1 W g4 HB1.out (hb.trans ((below_next hBz h).mono hb.size)) HPA.out hyo hpp).mono (fun e w' ⟨tz, az, cz, h1, h2, h3, h4⟩ => (show ∃ (tz : Tm) (az : Option Addr) (cz : Nat), e = Ending.returned (.agg #[.int .i64 tz.kind, .string tz.name, .int .i64 tz.n, .slice az tz.args.length cz]) ∧ tz = appT bs yt ∧ Fresh w0 wz w' ⟨tz, az, cz⟩ ∧ Below wz.heap.size wz w' from ⟨tz, az, cz, h1, h2, h3.widen h.size (Nat.le_refl _) (fun _ _ _ => rfl), below_next h h4⟩)))
      have HOW := Lib.hid (fun (W : World) (h : Below wz.heap.size wz W) => own_below HOWN.out (below_next hBz h))
      have HM1 : q + 1 ≤ maxLen := by unfold maxLen; omega
      have HM2 : (q + 1) * 72 ≤ 140737488355328 := by omega
      have HBASE := Lib.hid (fun (W : World) o (h : Below wz.heap.size wz W) => (show w1.heap.size ≤ (W.alloc o).heap.size from by have := h.size; have := hb.size; simp; omega))
      have HBW := Lib.hid hb
      have HBZ := Lib.hid hBz
      have HWZ := Lib.hid hwz
      clear hat hx hyx hyo hy hbw hb0r hb hBz hzs bT hKEEP hpp
      go_wp2_with fail
      rw [← HWZ.out]
      clear m0 m1 m2 m3 m4 HWZ hwz
      simp only [Tv.val] at CT
      have h0d := A0.out
      go_region_held3 (fun W => W.cell? ⟨wr.heap.size, 0, none⟩ = some (.string ys) ∧ W.cell? ⟨wr.heap.size, 1, none⟩ = some (.int .i64 yt.kind) ∧ W.cell? ⟨wr.heap.size, 2, none⟩ = some (.string yt.name) ∧ W.cell? ⟨wr.heap.size, 3, none⟩ = some (.int .i64 yt.n) ∧ W.cell? ⟨wr.heap.size, 4, none⟩ = some (.slice ya yt.args.length yc)) (first | exact hS4 | (refine KEEP.out _ ?_; first | with_reducible exact A0.out | with_reducible assumption | with_reducible exact A3.out _ _ (by with_reducible assumption)))
        ((first
          | (go_at_call 64; refine (CT.out _ (by assumption)).mono ?_; rintro e w' ⟨tz, az, cz, rfl, hzt, hzf, hn⟩; have HZT := Lib.hid hzt; clear hzt)
          | (refine step_append_at rfl _ _ 22 rfl w1.heap.size 50 i0 (.agg #[.string ⟨#[]⟩, .int .i64 0, .string ⟨#[]⟩, .int .i64 0, .slice none 0 0]) 5 72 Try.underlying22 hi hz0 hz1 hz2 rfl (by decide) u6 q (rowBv vs) rfl (HOW.out _ (A3.out _ _ (by assumption))) ⟨w'.heap.size, 0, none⟩ 1 1 [.string ys, .int .i64 tz.kind, .string tz.name, .int .i64 tz.n, .slice az tz.args.length cz] rfl rfl (World.news_of_block (heap_alloc_new _ _)) (bv_one ⟨ys, ⟨tz, az, cz⟩⟩) HM1 HM2 (HBASE.out _ _ (by assumption)) _ rfl ?_; intro v4 w4 hown4 hg4 hat4; obtain ⟨a4, c4, rfl⟩ := own_form1 hown4; have hS4 := KEEP4.out _ _ hg4 (A3.out _ _ hn))))
      go_wp2_with fail
      go_roundw
      case rel =>
        have hA := A3.out w' (.cells #[.string ys, .int .i64 tz.kind, .string tz.name, .int .i64 tz.n, .slice az tz.args.length cz] 50) hn
        have hAr := below_next HBZ.out hA
        have hAn := below_next HBZ.out hn
        have hA' : Below w'.heap.size w' (w'.alloc (.cells #[.string ys, .int .i64 tz.kind, .string tz.name, .int .i64 tz.n, .slice az tz.args.length cz] 50)) := (Below.refl _ _).alloc (Nat.le_refl _) _
        have hb4 : Below w1.heap.size w1 w4 := (HBW.out.trans (hAr.mono HBW.out.size)).grown hg4 (HBASE.out _ _ hn) (own_row_ge HOWN.out)
        have hat5 : (Value.slice a4 (q + 1) c4).ownBlock = u6.ownBlock ∨ (Value.slice a4 (q + 1) c4).ownBlock = some (w'.alloc (.cells #[.string ys, .int .i64 tz.kind, .string tz.name, .int .i64 tz.n, .slice az tz.args.length cz] 50)).heap.size := by simpa using hat4
        have hbe : Beside w0 w1 w' u6 ⟨tz, az, cz⟩ := beside_fresh (w := w1) hzf (Nat.le_trans HBW.out.size HBZ.out.size) (fun g' e => Nat.lt_of_lt_of_le (HOL.out g' e) HBZ.out.size)
        refine ⟨q + 1, vs ++ [⟨ys, ⟨tz, az, cz⟩⟩], by omega, by go_num, by rw [List.length_append, hvl]; rfl, Lib.hid ?_, Lib.hid (fun s hs => ?_), Lib.hid ?_, hb4⟩
        · rw [List.map_append, HVT.out, HNX.out, HXE.out, ← HZT.out]; rfl
        · rcases List.mem_append.1 hs with hs | hs
          · exact ⟨((HVO.out s hs).1.below hAr).grown hg4 hat5, (HVO.out s hs).2⟩
          · rw [List.mem_singleton] at hs
            subst hs
            exact ⟨(hbe.below hA').grown hg4 hat5, HS.out⟩
        · rw [rowBv_append, rowBv_one]; exact hown4
      case measure => simp [intOf]; omega
    · have hqe : q = cs.length := by omega
      have hkd : decide ((q : Int) < (cs.length : Int)) = false := decide_eq_false (by omega)
      have hkn : ¬ (q : Int) < (cs.length : Int) := by omega
      have hbw : Below w.heap.size w wr := HB1.out.trans (hb.mono HB1.out.size)
      have HVE := Lib.hid (show vs.map Bv.bn = putB bs cs by have h := HVT.out; rw [hqe, List.take_length] at h; exact h)
      have HBE := Lib.hid hbw
      have HBW := Lib.hid hb
      have HOE := Lib.hid HOWN.out
      have hq40 : q ≤ 40 := by omega
      have HQ := Lib.hid hq40
      clear hqe hb hbw
      go_wp2_with (at_builtin; refine wpList_append_opt rfl _ _ 22 rfl w1.heap.size 50 i0 (.agg #[.string ⟨#[]⟩, .int .i64 0, .string ⟨#[]⟩, .int .i64 0, .slice none 0 0]) 5 72 Try.underlying22 hi hz0 hz1 hz2 rfl (by decide) _ q _ rfl HOE.out ab bs.length cb (rowBv vsB) rfl HBB.out.1 HBB.out.2.1 (HBB.out.2.2.1 _ HBE.out) HBB.out.2.2.2 ?ap3 ?ap4 ?ap5 ?_)
      case ap3 => unfold maxLen; omega
      case ap4 => omega
      case ap5 => exact HBW.out.size
      intro v2 w2 hown2 hg2 hat2
      have hb2 : Below w1.heap.size w1 w2 := HBW.out.grown hg2 HBW.out.size (own_row_ge HOE.out)
      have hbw2 : Below w.heap.size w w2 := HB1.out.trans (hb2.mono HB1.out.size)
      have hb02 := HB.out.trans (hbw2.mono HB.out.size)
      have hbd : Bds w2 v2 (putB bs cs ++ bs) := by
        rw [← HVE.out, ← HBT.out.1, ← List.map_append]
        rw [← rowBv_append] at hown2
        refine bds_own (w0 := w2) hown2 (by rw [List.length_append, hvl, HBT.out.2.2]) (fun x hx => ?_) (Below.refl _ _) (by omega)
        rcases List.mem_append.1 hx with hx | hx
        · exact ⟨((HVO.out x hx).1.grown hg2 hat2) w2 hb02 (Nat.le_refl _) (fun _ _ _ _ => rfl), (HVO.out x hx).2⟩
        · exact ⟨(HBT.out.2.1 x hx).1.below hb02, (HBT.out.2.1 x hx).2⟩
      have O2 := Lib.hid (OF.out v2 _ w2 hbd (by rw [List.length_append]; unfold putB; rw [List.length_map]; omega))
      have HB2 := Lib.hid hbw2
      clear hown2 hg2 hat2 hb2 hbw2 hb02 hbd
      go_wp2_with fail
      refine O2.out.mono ?_; rintro e w3 ⟨u3, rfl, hu3, hb3⟩
      have HE := Lib.hid hu3
      have HB3 := Lib.hid (below_next HB2.out hb3)
      clear hu3 hb3
      go_wp2_with fail
      go_ret
      exact ⟨_, rfl, HE.out, HB3.out⟩
end Go.Proofs.Ytcoaneipajadiaa
