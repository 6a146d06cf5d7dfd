/-
  Whether two rules are alike but for names, by the reference of layer 8: Same. (printed by tools/gensame.py)
  A theory with a primitive behind, by the reference of layer 12: Use.
-/
import Derived.Test.YtjcleokfpohpdaaGreatDoorU43
import Derived.Test.YtjcleokfpohpdaaGreatDoorU10
import Derived.Deep.RegionHeld3
import Derived.Lib.Hide
import Derived.WalkKit
import Derived.Test.YtjcleokfpohpdaaGreatDoorU40
import Derived.Test.YtjcleokfpohpdaaGreatDoorU41
import Derived.Test.YtjcleokfpohpdaaGreatDoorU31
import Derived.Test.YtjcleokfpohpdaaGreatDoorU33
import Derived.Test.YtjcleokfpohpdaaGreatDoorU34
namespace Go.Proofs.YtjcleokfpohpdaaGreatDoor
open Go.RowKit
set_option maxRecDepth 100000 in
set_option maxHeartbeats 4000000 in
theorem rsame8_any (x y:Qv) (w:World) (hx:x.ok w) (hy:y.ok w) (hpx:x.l.t.parts≤10000∧x.r.t.parts≤10000) (hpy:y.l.t.parts≤10000∧y.r.t.parts≤10000) :
    Calls Tryz.prog 81 #[x.val,y.val] w fun e w'=>e=.returned (.bool (sameUp x.rl y.rl))∧Below w.heap.size w w':=by
  have HB0:Below w.heap.size w ((w.alloc (.cells x.cells.toArray 82)).alloc (.cells y.cells.toArray 82)):=((Below.refl _ _).alloc (Nat.le_refl _) _).alloc (by simp) _
  have hc1:=(eight_box w x 82).below ((Below.refl _ _).alloc (Nat.le_refl _) (.cells y.cells.toArray 82))
  have hc2:=eight_box (w.alloc (.cells x.cells.toArray 82)) y 82
  rw [show (w.alloc (.cells x.cells.toArray 82)).heap.size=w.heap.size + 1 from by simp] at hc2
  have hz2:((w.alloc (.cells x.cells.toArray 82)).alloc (.cells y.cells.toArray 82)).heap.size=w.heap.size + 1 + 1:=by simp
  have CA:=Lib.hid (fun (W:World) (b:Nat) (hb:Below w.heap.size w W) (hr:RowV W b (rowTv [x.l,x.r]))=>rcanon_any (.slice (some ⟨b,0,none⟩) 2 2) [x.l.t,x.r.t] W (tms_rowV [x.l,x.r] b 2 W hr (fun z hz=>by simp only [List.mem_cons,List.not_mem_nil,or_false] at hz;rcases hz with rfl | rfl;exact hx.1.below hb;exact hx.2.below hb) (by simp) (Nat.le_refl _)) (by simp) (fun t ht=>by simp only [List.mem_cons,List.not_mem_nil,or_false] at ht;rcases ht with rfl | rfl;exact hpx.1;exact hpx.2))
  have CB:=Lib.hid (fun (W:World) (b:Nat) (hb:Below w.heap.size w W) (hr:RowV W b (rowTv [y.l,y.r]))=>rcanon_any (.slice (some ⟨b,0,none⟩) 2 2) [y.l.t,y.r.t] W (tms_rowV [y.l,y.r] b 2 W hr (fun z hz=>by simp only [List.mem_cons,List.not_mem_nil,or_false] at hz;rcases hz with rfl | rfl;exact hy.1.below hb;exact hy.2.below hb) (by simp) (Nat.le_refl _)) (by simp) (fun t ht=>by simp only [List.mem_cons,List.not_mem_nil,or_false] at ht;rcases ht with rfl | rfl;exact hpy.1;exact hpy.2))
  have HSU:=Lib.hid (show sameUp x.rl y.rl=eqTs (canonT [x.l.t,x.r.t]) (canonT [y.l.t,y.r.t]) from rfl)
  have CS:=Lib.hid (fun (u v:Value) (W:World) (h1:Tms W u (canonT [x.l.t,x.r.t])) (h2:Tms W v (canonT [y.l.t,y.r.t]))=>sames_tm u v (canonT [x.l.t,x.r.t]) (canonT [y.l.t,y.r.t]) W h1 h2)
  clear hx hy hpx hpy
  obtain ⟨ca,hca⟩:∃ ca,canonT [x.l.t,x.r.t]=ca:=⟨_,rfl⟩
  obtain ⟨cb,hcb⟩:∃ cb,canonT [y.l.t,y.r.t]=cb:=⟨_,rfl⟩
  rw [hca] at CA CS HSU
  rw [hcb] at CB CS HSU
  obtain ⟨⟨xt,xa,xc⟩,⟨xt2,xa2,xc2⟩⟩:=x
  obtain ⟨⟨yt,ya,yc⟩,⟨yt2,ya2,yc2⟩⟩:=y
  unfold Qv.val
  unfold Qv.cells at HB0 hc1 hc2 hz2
  simp only at HB0 hc1 hc2 hz2 ⊢
  clear hca hcb
  have HPK:=Lib.hid (And.intro HB0 (And.intro hc1 (And.intro hc2 hz2)))
  clear HB0 hc1 hc2 hz2
  go_enter Tryz.func81,Tryz.ntmps81
  go_wp2_with fail
  obtain ⟨HB0,hc1,hc2,hz2⟩:=HPK.out
  obtain ⟨w2,hw2⟩:∃ w2,((w.alloc (.cells #[.int .i64 xt.kind,.string xt.name,.int .i64 xt.n,.slice xa xt.args.length xc,.int .i64 xt2.kind,.string xt2.name,.int .i64 xt2.n,.slice xa2 xt2.args.length xc2] 82)).alloc (.cells #[.int .i64 yt.kind,.string yt.name,.int .i64 yt.n,.slice ya yt.args.length yc,.int .i64 yt2.kind,.string yt2.name,.int .i64 yt2.n,.slice ya2 yt2.args.length yc2] 82))=w2:=⟨_,rfl⟩
  rw [hw2] at HB0 hc1 hc2 ⊢
  have ALL:=fun (Q:World) (h:Below w2.heap.size w2 Q)=>(show Below w2.heap.size w2 Q∧(Q.cell? ⟨w.heap.size,0,none⟩=some (.int .i64 xt.kind)∧Q.cell? ⟨w.heap.size,1,none⟩=some (.string xt.name)∧Q.cell? ⟨w.heap.size,2,none⟩=some (.int .i64 xt.n)∧Q.cell? ⟨w.heap.size,3,none⟩=some (.slice xa xt.args.length xc)∧Q.cell? ⟨w.heap.size,4,none⟩=some (.int .i64 xt2.kind)∧Q.cell? ⟨w.heap.size,5,none⟩=some (.string xt2.name)∧Q.cell? ⟨w.heap.size,6,none⟩=some (.int .i64 xt2.n)∧Q.cell? ⟨w.heap.size,7,none⟩=some (.slice xa2 xt2.args.length xc2))∧(Q.cell? ⟨w.heap.size + 1,0,none⟩=some (.int .i64 yt.kind)∧Q.cell? ⟨w.heap.size + 1,1,none⟩=some (.string yt.name)∧Q.cell? ⟨w.heap.size + 1,2,none⟩=some (.int .i64 yt.n)∧Q.cell? ⟨w.heap.size + 1,3,none⟩=some (.slice ya yt.args.length yc)∧Q.cell? ⟨w.heap.size + 1,4,none⟩=some (.int .i64 yt2.kind)∧Q.cell? ⟨w.heap.size + 1,5,none⟩=some (.string yt2.name)∧Q.cell? ⟨w.heap.size + 1,6,none⟩=some (.int .i64 yt2.n)∧Q.cell? ⟨w.heap.size + 1,7,none⟩=some (.slice ya2 yt2.args.length yc2)) from ⟨h,by obtain ⟨a0,a1,a2,a3,a4,a5,a6,a7⟩:=hc1.below h;exact ⟨a0,a1,a2,a3,a4,a5,a6,a7⟩,by obtain ⟨a0,a1,a2,a3,a4,a5,a6,a7⟩:=hc2.below h;exact ⟨a0,a1,a2,a3,a4,a5,a6,a7⟩⟩)
  have KX:=Lib.hid ALL
  have K0:=Lib.hid (ALL w2.drew ((Below.refl _ _).drew))
  have KA:=Lib.hid (fun (Q:World) (o:Obj) (h:Below w2.heap.size w2 Q∧(Q.cell? ⟨w.heap.size,0,none⟩=some (.int .i64 xt.kind)∧Q.cell? ⟨w.heap.size,1,none⟩=some (.string xt.name)∧Q.cell? ⟨w.heap.size,2,none⟩=some (.int .i64 xt.n)∧Q.cell? ⟨w.heap.size,3,none⟩=some (.slice xa xt.args.length xc)∧Q.cell? ⟨w.heap.size,4,none⟩=some (.int .i64 xt2.kind)∧Q.cell? ⟨w.heap.size,5,none⟩=some (.string xt2.name)∧Q.cell? ⟨w.heap.size,6,none⟩=some (.int .i64 xt2.n)∧Q.cell? ⟨w.heap.size,7,none⟩=some (.slice xa2 xt2.args.length xc2))∧(Q.cell? ⟨w.heap.size + 1,0,none⟩=some (.int .i64 yt.kind)∧Q.cell? ⟨w.heap.size + 1,1,none⟩=some (.string yt.name)∧Q.cell? ⟨w.heap.size + 1,2,none⟩=some (.int .i64 yt.n)∧Q.cell? ⟨w.heap.size + 1,3,none⟩=some (.slice ya yt.args.length yc)∧Q.cell? ⟨w.heap.size + 1,4,none⟩=some (.int .i64 yt2.kind)∧Q.cell? ⟨w.heap.size + 1,5,none⟩=some (.string yt2.name)∧Q.cell? ⟨w.heap.size + 1,6,none⟩=some (.int .i64 yt2.n)∧Q.cell? ⟨w.heap.size + 1,7,none⟩=some (.slice ya2 yt2.args.length yc2)))=>KX.out (Q.alloc o) (h.1.alloc h.1.size _))
  have KD:=Lib.hid (fun (Q:World) (o:Obj) (h:Below w2.heap.size w2 Q.drew∧(Q.drew.cell? ⟨w.heap.size,0,none⟩=some (.int .i64 xt.kind)∧Q.drew.cell? ⟨w.heap.size,1,none⟩=some (.string xt.name)∧Q.drew.cell? ⟨w.heap.size,2,none⟩=some (.int .i64 xt.n)∧Q.drew.cell? ⟨w.heap.size,3,none⟩=some (.slice xa xt.args.length xc)∧Q.drew.cell? ⟨w.heap.size,4,none⟩=some (.int .i64 xt2.kind)∧Q.drew.cell? ⟨w.heap.size,5,none⟩=some (.string xt2.name)∧Q.drew.cell? ⟨w.heap.size,6,none⟩=some (.int .i64 xt2.n)∧Q.drew.cell? ⟨w.heap.size,7,none⟩=some (.slice xa2 xt2.args.length xc2))∧(Q.drew.cell? ⟨w.heap.size + 1,0,none⟩=some (.int .i64 yt.kind)∧Q.drew.cell? ⟨w.heap.size + 1,1,none⟩=some (.string yt.name)∧Q.drew.cell? ⟨w.heap.size + 1,2,none⟩=some (.int .i64 yt.n)∧Q.drew.cell? ⟨w.heap.size + 1,3,none⟩=some (.slice ya yt.args.length yc)∧Q.drew.cell? ⟨w.heap.size + 1,4,none⟩=some (.int .i64 yt2.kind)∧Q.drew.cell? ⟨w.heap.size + 1,5,none⟩=some (.string yt2.name)∧Q.drew.cell? ⟨w.heap.size + 1,6,none⟩=some (.int .i64 yt2.n)∧Q.drew.cell? ⟨w.heap.size + 1,7,none⟩=some (.slice ya2 yt2.args.length yc2)))=>KX.out ((Q.alloc o).drew) (show Below w2.heap.size w2 (Q.drew.alloc o) from h.1.alloc h.1.size _))
  have KD2:=Lib.hid (fun (Q:World) (o:Obj) (h:Below w2.heap.size w2 Q∧(Q.cell? ⟨w.heap.size,0,none⟩=some (.int .i64 xt.kind)∧Q.cell? ⟨w.heap.size,1,none⟩=some (.string xt.name)∧Q.cell? ⟨w.heap.size,2,none⟩=some (.int .i64 xt.n)∧Q.cell? ⟨w.heap.size,3,none⟩=some (.slice xa xt.args.length xc)∧Q.cell? ⟨w.heap.size,4,none⟩=some (.int .i64 xt2.kind)∧Q.cell? ⟨w.heap.size,5,none⟩=some (.string xt2.name)∧Q.cell? ⟨w.heap.size,6,none⟩=some (.int .i64 xt2.n)∧Q.cell? ⟨w.heap.size,7,none⟩=some (.slice xa2 xt2.args.length xc2))∧(Q.cell? ⟨w.heap.size + 1,0,none⟩=some (.int .i64 yt.kind)∧Q.cell? ⟨w.heap.size + 1,1,none⟩=some (.string yt.name)∧Q.cell? ⟨w.heap.size + 1,2,none⟩=some (.int .i64 yt.n)∧Q.cell? ⟨w.heap.size + 1,3,none⟩=some (.slice ya yt.args.length yc)∧Q.cell? ⟨w.heap.size + 1,4,none⟩=some (.int .i64 yt2.kind)∧Q.cell? ⟨w.heap.size + 1,5,none⟩=some (.string yt2.name)∧Q.cell? ⟨w.heap.size + 1,6,none⟩=some (.int .i64 yt2.n)∧Q.cell? ⟨w.heap.size + 1,7,none⟩=some (.slice ya2 yt2.args.length yc2)))=>KX.out ((Q.alloc o).drew) ((h.1.alloc h.1.size _).drew))
  have KB:=Lib.hid (fun (Q:World) (h:Below w2.heap.size w2 Q∧(Q.cell? ⟨w.heap.size,0,none⟩=some (.int .i64 xt.kind)∧Q.cell? ⟨w.heap.size,1,none⟩=some (.string xt.name)∧Q.cell? ⟨w.heap.size,2,none⟩=some (.int .i64 xt.n)∧Q.cell? ⟨w.heap.size,3,none⟩=some (.slice xa xt.args.length xc)∧Q.cell? ⟨w.heap.size,4,none⟩=some (.int .i64 xt2.kind)∧Q.cell? ⟨w.heap.size,5,none⟩=some (.string xt2.name)∧Q.cell? ⟨w.heap.size,6,none⟩=some (.int .i64 xt2.n)∧Q.cell? ⟨w.heap.size,7,none⟩=some (.slice xa2 xt2.args.length xc2))∧(Q.cell? ⟨w.heap.size + 1,0,none⟩=some (.int .i64 yt.kind)∧Q.cell? ⟨w.heap.size + 1,1,none⟩=some (.string yt.name)∧Q.cell? ⟨w.heap.size + 1,2,none⟩=some (.int .i64 yt.n)∧Q.cell? ⟨w.heap.size + 1,3,none⟩=some (.slice ya yt.args.length yc)∧Q.cell? ⟨w.heap.size + 1,4,none⟩=some (.int .i64 yt2.kind)∧Q.cell? ⟨w.heap.size + 1,5,none⟩=some (.string yt2.name)∧Q.cell? ⟨w.heap.size + 1,6,none⟩=some (.int .i64 yt2.n)∧Q.cell? ⟨w.heap.size + 1,7,none⟩=some (.slice ya2 yt2.args.length yc2)))=>below_next HB0 h.1)
  have KS:=Lib.hid (fun (Q:World) (h:Below w2.heap.size w2 Q∧(Q.cell? ⟨w.heap.size,0,none⟩=some (.int .i64 xt.kind)∧Q.cell? ⟨w.heap.size,1,none⟩=some (.string xt.name)∧Q.cell? ⟨w.heap.size,2,none⟩=some (.int .i64 xt.n)∧Q.cell? ⟨w.heap.size,3,none⟩=some (.slice xa xt.args.length xc)∧Q.cell? ⟨w.heap.size,4,none⟩=some (.int .i64 xt2.kind)∧Q.cell? ⟨w.heap.size,5,none⟩=some (.string xt2.name)∧Q.cell? ⟨w.heap.size,6,none⟩=some (.int .i64 xt2.n)∧Q.cell? ⟨w.heap.size,7,none⟩=some (.slice xa2 xt2.args.length xc2))∧(Q.cell? ⟨w.heap.size + 1,0,none⟩=some (.int .i64 yt.kind)∧Q.cell? ⟨w.heap.size + 1,1,none⟩=some (.string yt.name)∧Q.cell? ⟨w.heap.size + 1,2,none⟩=some (.int .i64 yt.n)∧Q.cell? ⟨w.heap.size + 1,3,none⟩=some (.slice ya yt.args.length yc)∧Q.cell? ⟨w.heap.size + 1,4,none⟩=some (.int .i64 yt2.kind)∧Q.cell? ⟨w.heap.size + 1,5,none⟩=some (.string yt2.name)∧Q.cell? ⟨w.heap.size + 1,6,none⟩=some (.int .i64 yt2.n)∧Q.cell? ⟨w.heap.size + 1,7,none⟩=some (.slice ya2 yt2.args.length yc2)))=>h.1)
  have HB0H:=Lib.hid HB0
  clear hc1 hc2 hz2 HB0 ALL HPK hw2
  go_region_held3 (fun Q=>Below w2.heap.size w2 Q∧(Q.cell? ⟨w.heap.size,0,none⟩=some (.int .i64 xt.kind)∧Q.cell? ⟨w.heap.size,1,none⟩=some (.string xt.name)∧Q.cell? ⟨w.heap.size,2,none⟩=some (.int .i64 xt.n)∧Q.cell? ⟨w.heap.size,3,none⟩=some (.slice xa xt.args.length xc)∧Q.cell? ⟨w.heap.size,4,none⟩=some (.int .i64 xt2.kind)∧Q.cell? ⟨w.heap.size,5,none⟩=some (.string xt2.name)∧Q.cell? ⟨w.heap.size,6,none⟩=some (.int .i64 xt2.n)∧Q.cell? ⟨w.heap.size,7,none⟩=some (.slice xa2 xt2.args.length xc2))∧(Q.cell? ⟨w.heap.size + 1,0,none⟩=some (.int .i64 yt.kind)∧Q.cell? ⟨w.heap.size + 1,1,none⟩=some (.string yt.name)∧Q.cell? ⟨w.heap.size + 1,2,none⟩=some (.int .i64 yt.n)∧Q.cell? ⟨w.heap.size + 1,3,none⟩=some (.slice ya yt.args.length yc)∧Q.cell? ⟨w.heap.size + 1,4,none⟩=some (.int .i64 yt2.kind)∧Q.cell? ⟨w.heap.size + 1,5,none⟩=some (.string yt2.name)∧Q.cell? ⟨w.heap.size + 1,6,none⟩=some (.int .i64 yt2.n)∧Q.cell? ⟨w.heap.size + 1,7,none⟩=some (.slice ya2 yt2.args.length yc2)))
    (first | exact K0.out | assumption | exact KA.out _ _ (by assumption) | exact KD.out _ _ (by assumption) | exact KD2.out _ _ (by assumption))
    (first
      | (have hq:=hT2;clear hq;go_at_call 22;refine (CS.out _ _ _ ?_ ?_).mono ?_;(· exact hT1);(· exact hT2);rintro e w5 ⟨rfl,hb3⟩;have hbS:=below_next HBW hb3;have hSS:=KX.out _ hbS)
      | (have hq:=hT1;clear hq;go_at_call 138;refine (CB.out _ _ ?_ ?_).mono ?_;(· exact KB.out _ (by assumption));(· (first | exact rowV_new _ _ _ _ rfl | exact (rowV_new _ _ _ _ rfl).drew | exact (rowV_new _ _ _ _ (by simp)).drew | exact rowV_new _ _ _ _ (by simp) | exact ((rowV_new _ _ _ _ rfl).alloc _).drew | exact (((rowV_new _ _ _ _ rfl).alloc _).drew).below hb1 | exact ((rowV_new _ _ _ _ (by simp)).drew).below hb1));rintro e w4 ⟨u2,rfl,hT2,hb2⟩;have hn:=below_next (show Below w3.heap.size w3 _ from (by first | exact Below.refl _ _ | exact (Below.refl _ _).drew | exact (Below.refl _ _).alloc (Nat.le_refl _) _ | exact ((Below.refl _ _).alloc (Nat.le_refl _) _).drew | exact (((Below.refl _ _).alloc (Nat.le_refl _) _).alloc (by simp) _).drew | exact ((Below.refl _ _).alloc (Nat.le_refl _) _).alloc (by simp) _)) hb2;have hT1:=hT1.below hn;have HBW:=below_next HBW hn;have hS2:=KX.out _ HBW)
      | (go_at_call 138;refine (CA.out _ _ ?_ ?_).mono ?_;(· exact KB.out _ (by assumption));(· (first | exact rowV_new _ _ _ _ rfl | exact (rowV_new _ _ _ _ rfl).drew | exact (rowV_new _ _ _ _ (by simp)).drew | exact rowV_new _ _ _ _ (by simp) | exact ((rowV_new _ _ _ _ rfl).alloc _).drew));rintro e w3 ⟨u1,rfl,hT1,hb1⟩;have HBW:=below_next (show Below w2.heap.size w2 _ from (by first | exact Below.refl _ _ | exact (Below.refl _ _).drew | exact (Below.refl _ _).alloc (Nat.le_refl _) _ | exact ((Below.refl _ _).alloc (Nat.le_refl _) _).drew | exact (((Below.refl _ _).alloc (Nat.le_refl _) _).alloc (by simp) _).drew | exact ((Below.refl _ _).alloc (Nat.le_refl _) _).alloc (by simp) _)) hb1;have hS1:=KX.out _ HBW)
      | fail)
  all_goals
    go_wp2_with fail
    go_ret
    exact ⟨by rw [HSU.out];rfl,below_next HB0H.out hbS⟩
end Go.Proofs.YtjcleokfpohpdaaGreatDoor
namespace Go.Proofs.YtjcleokfpohpdaaGreatDoor
open Go.RowKit
theorem rules_moreR {w':World} {base:Nat} {u:Value} {rs qs:List Rl} {us ms:List Qv} (h1:us.map Qv.rl=rs) (h2:∀ x ∈ us,x.ok w') (m1:ms.map Qv.rl=qs.filter (fun q => !(rs.any fun x=>sameUp x q))) (m2:∀ x ∈ ms,x.ok w')
    (h:w'.ownsRow base 82 8 u (us ++ ms).length (rowQv (us ++ ms))) (hl:(us ++ ms).length≤9223372036854775807):Rls w' u (newR rs qs)∧(us ++ ms).length=(newR rs qs).length:=by
  have e:(us ++ ms).map Qv.rl=newR rs qs:=by rw [List.map_append,h1,m1];rfl
  have hn:(us ++ ms).length=(newR rs qs).length:=by rw [← e,List.length_map]
  refine ⟨RowQ.rls (e:=82) (base:=base) ⟨us ++ ms,e,fun x hx=>?_,by rw [← hn];exact h⟩ (by rw [← hn];exact hl),hn⟩
  rcases List.mem_append.1 hx with hx | hx
  · exact h2 x hx
  · exact m2 x hx
set_option maxRecDepth 100000 in
set_option maxHeartbeats 4000000 in
theorem ruse_any (y:Yv) (s:ByteArray) (w:World) (hy:y.ok w) (hm:ModY y.fs y.rs) :
    Calls Tryz.prog 43 #[y.val,.string s] w (UsePost y.fs y.rs s w):=by
  obtain ⟨i0,hi0,hz0,hz1,hz2⟩:=info_parts ruleInfo
  obtain ⟨vf,vr,fs,rs⟩:=y
  simp only at hm ⊢
  have hF:=hy.funs
  have hR:=hy.rules
  simp only at hF hR
  have HF:=Lib.hid hF
  have HR:=Lib.hid hR
  obtain ⟨a1,c1,rfl,_,_⟩:=hF
  obtain ⟨a2,c2,rfl,_,_⟩:=hR
  have GT:=Lib.hid (fun (W:World)=>rget12_any s W)
  unfold RGetPost at GT
  have hb0:Below w.heap.size w ((w.alloc (.cells #[.slice a1 fs.length c1,.slice a2 rs.length c2] 26)).alloc (.cells #[.slice none 0 0,.slice none 0 0] 26)):=((Below.refl _ _).alloc (Nat.le_refl _) _).alloc (by simp) _
  have hx1:=(box2_new w (.slice a1 fs.length c1) (.slice a2 rs.length c2) 26).below ((Below.refl _ _).alloc (Nat.le_refl _) (.cells #[.slice none 0 0,.slice none 0 0] 26))
  have hx2:=box2_new (w.alloc (.cells #[.slice a1 fs.length c1,.slice a2 rs.length c2] 26)) (.slice none 0 0) (.slice none 0 0) 26
  have hx3:=heap_alloc_new (w.alloc (.cells #[.slice a1 fs.length c1,.slice a2 rs.length c2] 26)) (.cells #[.slice none 0 0,.slice none 0 0] 26)
  rw [show (w.alloc (.cells #[.slice a1 fs.length c1,.slice a2 rs.length c2] 26)).heap.size=w.heap.size + 1 from by simp] at hx2 hx3
  have HPK:=Lib.hid (And.intro hb0 (And.intro hx1 (And.intro hx2 hx3)))
  clear hb0 hx1 hx2 hx3 hy
  unfold UsePost Yv.val
  simp only
  go_enter Tryz.func43,Tryz.ntmps43
  go_wp2_with fail
  obtain ⟨hb0,hx1,hx2,hx3⟩:=HPK.out
  obtain ⟨w1,hw1⟩:∃ w1,((w.alloc (.cells #[.slice a1 fs.length c1,.slice a2 rs.length c2] 26)).alloc (.cells #[.slice none 0 0,.slice none 0 0] 26))=w1:=⟨_,rfl⟩
  rw [hw1] at hb0 hx1 hx2 hx3 ⊢
  have ALL:=fun (W:World) (h:Below w1.heap.size w1 W)=>(show Box2 W w.heap.size (.slice a1 fs.length c1) (.slice a2 rs.length c2)∧Box2 W (w.heap.size + 1) (.slice none 0 0) (.slice none 0 0)∧SlB W (w.heap.size + 1)∧Below w.heap.size w W from ⟨hx1.below h,hx2.below h,slB_two ((h.block _ hx2.lt).trans hx3),below_next hb0 h⟩)
  have HALL:=Lib.hid ALL
  clear hb0 hx1 hx2 hx3 hw1 HPK ALL
  refine (GT.out _).mono ?_;rintro e w2 ⟨pf,pr,rfl,hpf,hpr,hb2⟩
  have HPF:=Lib.hid hpf
  have HPR:=Lib.hid hpr
  obtain ⟨a3,c3,rfl,_,_⟩:=hpf
  obtain ⟨a4,c4,rfl,_,_⟩:=hpr
  have HB2:=Lib.hid hb2
  cases hE:isEnt s with
  | false =>
    obtain ⟨_,⟨q0,q1,q2,q3⟩,_,hbw⟩:=HALL.out w2 hb2
    have HU:=Lib.hid (useS_none (fs:=fs) (rs:=rs) hE)
    have HBW:=Lib.hid hbw
    clear hb2 hbw
    go_wp2_with fail
    refine bodyPost_ret (v:=.tuple #[.agg #[.slice none 0 0,.slice none 0 0],.int .i64 9]) (by simp [results,Tryz.results43,go_sem,q0,q1]) rfl ?_
    rw [HU.out]
    exact ⟨⟨.slice none 0 0,.slice none 0 0,[],[]⟩,rfl,rfl,rfl,zero_thy _,(HBW.out.setCell (p:=⟨w.heap.size + 1,0,none⟩) (by show w.heap.size≤w.heap.size + 1;omega) _).setCell (p:=⟨w.heap.size + 1,1,none⟩) (by show w.heap.size≤w.heap.size + 1;omega) _⟩
  | true =>
    have hme:=modY_ent (isEnt_iff.1 hE)
    obtain ⟨⟨p0,p1,_,_⟩,_,_,hbw⟩:=HALL.out w2 hb2
    have JN:=Lib.hid (rjoin_any (.slice a1 fs.length c1) (.slice a3 (entF s).length c3) fs (entF s) w2 (HF.out.below hbw) HPF.out (fun f hf=>by have:=hme.funs.size f hf;omega) hm.funs.len)
    unfold JoinPost at JN
    have HMY:=Lib.hid hm
    have HME:=Lib.hid hme
    obtain ⟨je,hje⟩:∃ je,joinE fs (entF s)=je:=⟨_,rfl⟩
    have HJE:=Lib.hid hje
    rw [hje] at JN
    clear hb2 hbw hme hm hje
    go_wp2_with fail
    refine JN.out.mono ?_;rintro e w4 ⟨vj,rfl,hvj,hb4⟩
    have HVJ:=Lib.hid hvj
    obtain ⟨a5,c5,rfl,_,_⟩:=hvj
    obtain ⟨⟨p0,p1,_,_⟩,⟨q0,q1,q2,q3⟩,hsl,hbw4⟩:=HALL.out w4 (below_next HB2.out hb4)
    have HSL:=Lib.hid hsl
    have HBW4:=Lib.hid hbw4
    have HB4:=Lib.hid hb4
    clear hb4 hsl hbw4
    by_cases hj0:je=0
    · subst hj0
      obtain ⟨us1,u1,u2,u3⟩:=rls_qin (HR.out.below HBW4.out)
      have hul:us1.length=rs.length:=by rw [← u1,List.length_map]
      have hrl:=HMY.out.len
      obtain ⟨aq,cq,e1,_,hq0,_,hqc⟩:=u3
      rw [hul] at e1
      cases e1
      have HU1:=Lib.hid (And.intro u1 u2)
      have HQC:=Lib.hid hqc
      have HQ0:=Lib.hid hq0
      have HRL:=Lib.hid (rowQv_length us1)
      have HRO:=Lib.hid (rowQv_one' us1)
      have HUL:=Lib.hid hul
      clear u1 u2 hq0 hqc
      have hul2:rs.length≤1000:=hrl
      have HRL2:=Lib.hid (show (rowQv us1).length=rs.length * 8 by rw [HRL.out,HUL.out])
      clear hul
      go_wp2_with (at_builtin;refine wpList_append_opt rfl _ _ 24 rfl w4.heap.size 82 i0 (.agg #[.int .i64 0,.string ⟨#[]⟩,.int .i64 0,.slice none 0 0,.int .i64 0,.string ⟨#[]⟩,.int .i64 0,.slice none 0 0]) 8 112 Tryz.underlying24 hi0 hz0 hz1 hz2 rfl (by decide) _ 0 _ rfl (World.ownsRow_nil _ _ _ _) a2 rs.length c2 (rowQv us1) rfl (fun h=>by rw [← HUL.out];exact HQ0.out h) HRL2.out HQC.out HRO.out ?ap3 ?ap4 ?ap5 ?_)
      case ap3=>unfold maxLen;omega
      case ap4=>omega
      case ap5=>exact Nat.le_refl _
      intro v7 w7 hown7 hgrow7 _
      have HB7:=Lib.hid (show Below w4.heap.size w4 w7 from (Below.refl _ _).grown hgrow7 (Nat.le_refl _) (fun k hk=>nomatch hk))
      have HO7:=Lib.hid (show w7.ownsRow w4.heap.size 82 8 v7 us1.length (rowQv us1) from by have h:=hown7;rw [HUL.out];simpa using h)
      obtain ⟨qa,qc,uq,eq1,hql1,hqus,hqok,hqat⟩:=rls_all (HPR.out.below HB4.out)
      have hqul:uq.length=(entR s).length:=by rw [← hqus,List.length_map]
      rw [hqul] at eq1
      cases eq1
      obtain ⟨xa,xc,ux,ex1,hxl1,hxus,hxok,hxat⟩:=rls_all (HR.out.below HBW4.out)
      have hxul:ux.length=rs.length:=by rw [← hxus,List.length_map]
      rw [hxul] at ex1
      cases ex1
      have hqn:=HME.out.len
      have HQ:=Lib.hid (fun (k:Nat) (hk:k < (entR s).length)=>(show ∃ (q:Qv) (b o:Nat),a4=some ⟨b,o,none⟩∧QvAt w4 b (o + k * 8) q∧missQ rs (uq.take (k + 1))=missQ rs (uq.take k) ++ (if rs.any (fun x=>sameUp x q.rl)=true then [] else [q]) ∧
        ∀ j,j < rs.length→∃ (x:Qv) (b o:Nat),a2=some ⟨b,o,none⟩∧QvAt w4 b (o + j * 8) x∧(rs.take (j + 1)).any (fun x=>sameUp x q.rl)=((rs.take j).any (fun x=>sameUp x q.rl)||sameUp x.rl q.rl)∧∀ W,Below w4.heap.size w4 W→Calls Tryz.prog 81 #[x.val,q.val] W fun e w'=>e=.returned (.bool (sameUp x.rl q.rl))∧Below W.heap.size W w' from by
        have hk2:k < uq.length:=by omega
        obtain ⟨b,o,e,hq⟩:=hqat k hk2
        refine ⟨uq[k],b,o,e,hq,missQ_take hk2,fun j hj=>?_⟩
        have hj2:j < ux.length:=by omega
        obtain ⟨b',o',e',hx⟩:=hxat j hj2
        have hxr:ux[j].rl=rs[j]:=by
          have:(ux.map Qv.rl)[j]'(by rw [List.length_map];exact hj2)=rs[j]'(by omega):=by simp only [hxus]
          rw [← this,List.getElem_map]
        have hqr:uq[k].rl ∈ entR s:=by rw [← hqus];exact List.mem_map_of_mem (List.getElem_mem hk2)
        refine ⟨ux[j],b',o',e',hx,?_,fun W h=>?_⟩
        · rw [any_take_succ hj,hxr]
        · exact rsame8_any ux[j] uq[k] W ((hxok _ (List.getElem_mem hj2)).below h) ((hqok _ (List.getElem_mem hk2)).below h) (HMY.out.parts ux[j].rl (by rw [hxr];exact List.getElem_mem hj)) (HME.out.parts uq[k].rl hqr)))
      have HQE:=Lib.hid (show (missQ rs (uq.take (entR s).length)).map Qv.rl=(entR s).filter (fun q => !(rs.any fun x=>sameUp x q))∧(∀ x ∈ missQ rs (uq.take (entR s).length),x.ok w4)∧∀ k,(missQ rs (uq.take k)).length≤1000 from ⟨by rw [← hqul,List.take_length,missQ_rl,hqus],fun x hx=>hqok x (List.mem_of_mem_take (List.mem_filter.1 hx).1),fun k=>by have:=missQ_le rs (uq.take k);rw [List.length_take] at this;omega⟩)
      obtain ⟨av,cv,rfl⟩:=own_slice HO7.out
      have HUB:=Lib.hid (fun (h:24 < (newR rs (entR s)).length)=>useS_long (fs:=fs) (rs:=rs) hE HJE.out h)
      have HUO:=Lib.hid (fun (h:¬ 24 < (newR rs (entR s)).length)=>useS_ok (fs:=fs) (rs:=rs) hE HJE.out h)
      obtain ⟨⟨p0,p1,_,_⟩,_,_,_⟩:=HALL.out w7 (below_next HB2.out (below_next HB4.out HB7.out))
      have hlu:us1.length≤1000:=by rw [HUL.out];exact hul2
      have HPP:=Lib.hid (fun (W:World) (h:Below w4.heap.size w4 W)=>HALL.out W (below_next HB2.out (below_next HB4.out h)))
      have HVJ7:=Lib.hid (fun (W:World) (h:Below w4.heap.size w4 W)=>HVJ.out.below h)
      have HU17:=Lib.hid HU1.out.2
      clear hqul hqus hqok hqat hxul hxus hxok hxat hown7 hgrow7 hql1 hxl1 hqn q0 q1 q2 q3 HPR HQC HRO HRL HRL2 HQ0 JN GT HB4 HB2 HBW4 HSL HF
      go_wp2_with fail
      go_loopw [11,43] (fun u i wr=>∃ k:Nat,i=.int .i64 k∧k≤(entR s).length∧wr.ownsRow w4.heap.size 82 8 u (us1 ++ missQ rs (uq.take k)).length (rowQv (us1 ++ missQ rs (uq.take k)))∧Below w4.heap.size w4 wr) (fun _ i _=>(entR s).length - (intOf i).toNat)
      case atStart=>exact ⟨0,rfl,Nat.zero_le _,(by rw [show us1 ++ missQ rs (uq.take 0)=us1 from List.append_nil _,HUL.out];have h:=HO7.out;rw [HUL.out] at h;exact h),HB7.out⟩
      case round =>
        obtain ⟨k,rfl,hk,hown,hb⟩:=hrel
        by_cases hk1:k < (entR s).length
        · have hkc:(k:Int) < ((entR s).length:Int):=by omega
          have hk0:(0:Int)≤(k:Int):=by omega
          obtain ⟨q,qb,qo,rfl,hqa,hmt,hin⟩:=HQ.out k hk1
          obtain ⟨m0,m1,m2,m3,m4,m5,m6,m7⟩:=hqa.below hb
          have hml:=HQE.out.2.2 k
          have hbA:Below wr.heap.size wr (wr.alloc (.cells q.cells.toArray 82)):=(Below.refl _ _).alloc (Nat.le_refl _) _
          have hgq:=eight_box wr q 82
          have HOA:=Lib.hid (own_below hown hbA)
          have HBA:=Lib.hid (hb.trans (hbA.mono hb.size))
          have HYC:=Lib.hid (rowQv_one q)
          have HNC:=Lib.hid (fun (W:World)=>new_cells W q.cells 82)
          have HQ1:=Lib.hid (qv_one q)
          have HGQ:=Lib.hid (fun (W:World) (h:Below (wr.alloc (.cells q.cells.toArray 82)).heap.size (wr.alloc (.cells q.cells.toArray 82)) W)=>(show QvAt W wr.heap.size 0 q∧Box2 W w.heap.size (.slice a1 fs.length c1) (.slice a2 rs.length c2) from ⟨hgq.below h,(HPP.out W ((hb.trans (hbA.mono hb.size)).trans (h.mono (hb.trans (hbA.mono hb.size)).size))).1⟩))
          have HMT:=Lib.hid hmt
          have HIN:=Lib.hid hin
          have hwk:wr.heap.size < (wr.alloc (.cells q.cells.toArray 82)).heap.size:=by simp
          obtain ⟨⟨p0,p1,_,_⟩,_,_,_⟩:=HPP.out _ (hb.trans (hbA.mono hb.size))
          obtain ⟨x0,x1,x2,x3,x4,x5,x6,x7⟩:=hgq
          simp only [Nat.zero_add] at x0 x1 x2 x3 x4 x5 x6 x7
          clear hqa hmt hin hbA hb hown
          obtain ⟨⟨qt,qa,qc⟩,⟨qt2,qa2,qc2⟩⟩:=q
          unfold Qv.cells at HOA HBA HYC HNC HQ1 HGQ hwk x0 x1 x2 x3 x4 x5 x6 x7 p0 p1
          unfold Qv.val at HIN
          simp only at HOA HBA HYC HNC HQ1 HGQ hwk HIN HMT m0 m1 m2 m3 m4 m5 m6 m7 x0 x1 x2 x3 x4 x5 x6 x7 p0 p1
          obtain ⟨wq,hwq⟩:∃ wq,wr.alloc (.cells #[.int .i64 qt.kind,.string qt.name,.int .i64 qt.n,.slice qa qt.args.length qc,.int .i64 qt2.kind,.string qt2.name,.int .i64 qt2.n,.slice qa2 qt2.args.length qc2] 82)=wq:=⟨_,rfl⟩
          rw [show (wr.alloc (.cells ([.int .i64 qt.kind,.string qt.name,.int .i64 qt.n,.slice qa qt.args.length qc,.int .i64 qt2.kind,.string qt2.name,.int .i64 qt2.n,.slice qa2 qt2.args.length qc2]:List Value).toArray 82))=wq from hwq] at HOA HBA HGQ hwk x0 x1 x2 x3 x4 x5 x6 x7 p0 p1
          clear x0 x1 x2 x3 x4 x5 x6 x7
          go_wp2_with fail
          (try rw [hwq])
          clear hwq m0 m1 m2 m3 m4 m5 m6 m7
          obtain ⟨gq,hgqe⟩:∃ gq,wr.heap.size=gq:=⟨_,rfl⟩
          rw [hgqe] at HGQ hwk ⊢
          obtain ⟨qr,hqr⟩:∃ qr,Qv.rl ⟨⟨qt,qa,qc⟩,⟨qt2,qa2,qc2⟩⟩=qr:=⟨_,rfl⟩
          rw [hqr] at HMT HIN
          clear hqr hgqe p0 p1
          go_loopw [14,50] (fun h i wi=>∃ j:Nat,i=.int .i64 j∧j≤rs.length∧(∃ bh,h=.bool bh∧(rs.take j).any (fun x=>sameUp x qr)=bh)∧Below wq.heap.size wq wi) (fun _ i _=>rs.length - (intOf i).toNat)
          case atStart=>exact ⟨0,rfl,Nat.zero_le _,⟨false,rfl,by simp⟩,Below.refl _ _⟩
          case round =>
            obtain ⟨j,rfl,hj,⟨bh,rfl,hbh⟩,hbi⟩:=hrel
            by_cases hj1:j < rs.length
            · have hjc:(j:Int) < (rs.length:Int):=by omega
              have hj0:(0:Int)≤(j:Int):=by omega
              obtain ⟨x,xb,xo,rfl,hxa,hxs,hxc⟩:=HIN.out j hj1
              have hb4i:Below w4.heap.size w4 wr:=HBA.out.trans (hbi.mono HBA.out.size)
              obtain ⟨m0,m1,m2,m3,m4,m5,m6,m7⟩:=hxa.below hb4i
              have hbX:Below wr.heap.size wr (wr.alloc (.cells x.cells.toArray 82)):=(Below.refl _ _).alloc (Nat.le_refl _) _
              obtain ⟨n0,n1,n2,n3,n4,n5,n6,n7⟩:=(HGQ.out _ (below_next hbi hbX)).1
              obtain ⟨y0,y1,y2,y3,y4,y5,y6,y7⟩:=eight_box wr x 82
              have HCX:=Lib.hid (hxc _ (hb4i.trans (hbX.mono hb4i.size)))
              have HBX:=Lib.hid (below_next hbi hbX)
              have HXS:=Lib.hid hxs
              rw [hbh] at HXS
              obtain ⟨sm,hsm⟩:∃ sm,sameUp x.rl qr=sm:=⟨_,rfl⟩
              rw [hsm] at HXS HCX
              clear hxa hxs hxc hb4i hbX hbi hsm hbh
              obtain ⟨⟨xt,xa,xc⟩,⟨xt2,xa2,xc2⟩⟩:=x
              unfold Qv.cells at HBX n0 n1 n2 n3 n4 n5 n6 n7 y0 y1 y2 y3 y4 y5 y6 y7 HCX
              (try unfold Qv.val at HCX)
              simp only [Nat.zero_add] at HBX m0 m1 m2 m3 m4 m5 m6 m7 n0 n1 n2 n3 n4 n5 n6 n7 y0 y1 y2 y3 y4 y5 y6 y7 HCX
              cases bh with
              | true =>
                go_wp2_with fail
                go_roundw
                case rel=>exact ⟨j + 1,by go_num,by omega,⟨true,rfl,by rw [HXS.out];rfl⟩,HBX.out⟩
                case measure=>simp [intOf];omega
              | false =>
                go_wp2_with fail
                refine HCX.out.mono ?_;rintro e w6 ⟨rfl,hb6⟩
                have HB6:=Lib.hid (below_next HBX.out hb6)
                clear hb6 m0 m1 m2 m3 m4 m5 m6 m7 n0 n1 n2 n3 n4 n5 n6 n7 y0 y1 y2 y3 y4 y5 y6 y7
                go_wp2_with fail
                go_roundw
                case rel=>exact ⟨j + 1,by go_num,by omega,⟨sm,rfl,by rw [HXS.out];rfl⟩,HB6.out⟩
                case measure=>simp [intOf];omega
            · obtain rfl:j=rs.length:=by omega
              rw [List.take_length] at hbh
              rw [hbh] at HMT
              obtain ⟨⟨n0,n1,n2,n3,n4,n5,n6,n7⟩,p0,p1,_,_⟩:=HGQ.out _ hbi
              simp only [Nat.zero_add] at n0 n1 n2 n3 n4 n5 n6 n7
              have HOI:=Lib.hid (own_below HOA.out hbi)
              have HBI:=Lib.hid (HBA.out.trans (hbi.mono HBA.out.size))
              clear hbi hbh
              cases bh with
              | true =>
                have HT:=Lib.hid (show missQ rs (uq.take (k + 1))=missQ rs (uq.take k) by rw [HMT.out,if_pos rfl,List.append_nil])
                go_wp2_with fail
                go_roundw
                case rel=>exact ⟨k + 1,by go_num,by omega,by rw [HT.out];exact HOI.out,HBI.out⟩
                case measure=>simp [intOf];omega
              | false =>
                have HT:=Lib.hid (show missQ rs (uq.take (k + 1))=missQ rs (uq.take k) ++ [_] by rw [HMT.out,if_neg (by decide)])
                have hlen2:(us1 ++ missQ rs (uq.take k)).length≤2000:=by rw [List.length_append];omega
                have hownA:=HOI.out.alloc (.cells #[.int .i64 qt.kind,.string qt.name,.int .i64 qt.n,.slice qa qt.args.length qc,.int .i64 qt2.kind,.string qt2.name,.int .i64 qt2.n,.slice qa2 qt2.args.length qc2] 82)
                have hbA2:=HBI.out.alloc HBI.out.size (.cells #[.int .i64 qt.kind,.string qt.name,.int .i64 qt.n,.slice qa qt.args.length qc,.int .i64 qt2.kind,.string qt2.name,.int .i64 qt2.n,.slice qa2 qt2.args.length qc2] 82)
                have HBA2:=Lib.hid hbA2
                obtain ⟨wi,hwi⟩:∃ wi,wr=wi:=⟨_,rfl⟩
                rw [hwi] at n0 n1 n2 n3 n4 n5 n6 n7 p0 p1 hownA HBA2 ⊢
                clear hwi hbA2
                go_wp2_with (at_builtin;refine wpList_append_own_at _ rfl _ _ 24 rfl w4.heap.size 82 i0 (.agg #[.int .i64 0,.string ⟨#[]⟩,.int .i64 0,.slice none 0 0,.int .i64 0,.string ⟨#[]⟩,.int .i64 0,.slice none 0 0]) 8 112 Tryz.underlying24 hi0 hz0 hz1 hz2 rfl (by decide) _ (us1 ++ missQ rs (uq.take k)).length _ rfl hownA ⟨wi.heap.size,0,none⟩ 1 1 [.int .i64 qt.kind,.string qt.name,.int .i64 qt.n,.slice qa qt.args.length qc,.int .i64 qt2.kind,.string qt2.name,.int .i64 qt2.n,.slice qa2 qt2.args.length qc2] rfl rfl ?c1 ?c2 ?c3 ?c4 ?c5 ?_)
                case c1=>exact HNC.out wi
                case c2=>exact HQ1.out
                case c3=>unfold maxLen;omega
                case c4=>omega
                case c5=>exact HBA2.out.size
                intro v' w9 hown' hgrow _ _
                have HO9:=Lib.hid (show w9.ownsRow w4.heap.size 82 8 v' (us1 ++ missQ rs (uq.take (k + 1))).length (rowQv (us1 ++ missQ rs (uq.take (k + 1)))) from by rw [HT.out,← List.append_assoc,List.length_append (bs:=[_]),rowQv_append (us1 ++ missQ rs (uq.take k)),HYC.out,show (us1 ++ missQ rs (uq.take k)).length=us1.length + (missQ rs (uq.take k)).length from List.length_append];exact hown')
                have HB9:=Lib.hid (HBA2.out.grown hgrow HBA2.out.size (own_row_ge hownA))
                clear hown' hgrow hownA n0 n1 n2 n3 n4 n5 n6 n7 p0 p1
                go_wp2_with fail
                go_roundw
                case rel=>exact ⟨k + 1,by go_num,by omega,HO9.out,HB9.out⟩
                case measure=>simp [intOf];omega
        · obtain rfl:k=(entR s).length:=by omega
          obtain ⟨r1,r2⟩:=rules_moreR HU1.out.1 (fun x hx=>(HU17.out x hx).below hb) HQE.out.1 (fun x hx=>(HQE.out.2.1 x hx).below hb) hown (by rw [List.length_append];have:=HQE.out.2.2 (entR s).length;omega)
          obtain ⟨ar,cr,hur⟩:=own_slice hown
          rw [r2] at hur
          rw [hur] at r1
          obtain ⟨_,⟨q0,q1,q2,q3⟩,hsl6,hbw⟩:=HPP.out wr hb
          have HSL6:=Lib.hid hsl6
          have HBW:=Lib.hid hbw
          have HRR:=Lib.hid r1
          have HVJ6:=Lib.hid (HVJ7.out _ hb)
          rw [hur]
          clear hsl6 hbw r1 r2 hown hb hur
          by_cases hn:24 < (newR rs (entR s)).length
          · have hnc:(24:Int) < ((newR rs (entR s)).length:Int):=by omega
            have HU:=Lib.hid (HUB.out hn)
            go_wp2_with fail
            refine bodyPost_ret (v:=.tuple #[.agg #[.slice none 0 0,.slice none 0 0],.int .i64 3]) (by simp [results,Tryz.results43,go_sem,q0,q1]) rfl ?_
            rw [HU.out]
            exact ⟨⟨.slice none 0 0,.slice none 0 0,[],[]⟩,rfl,rfl,rfl,zero_thy _,(HBW.out.setCell (p:=⟨w.heap.size + 1,0,none⟩) (by show w.heap.size≤w.heap.size + 1;omega) _).setCell (p:=⟨w.heap.size + 1,1,none⟩) (by show w.heap.size≤w.heap.size + 1;omega) _⟩
          · have hnc:((newR rs (entR s)).length:Int)≤24:=by omega
            have HU:=Lib.hid (HUO.out hn)
            go_wp2_with fail
            refine bodyPost_ret (v:=.tuple #[.agg #[.slice a5 (joinL fs (entF s)).length c5,.slice ar (newR rs (entR s)).length cr],.int .i64 0]) (by simp [results,Tryz.results43,go_sem,q0,q1]) rfl ?_
            rw [HU.out]
            exact ⟨⟨.slice a5 (joinL fs (entF s)).length c5,.slice ar (newR rs (entR s)).length cr,joinL fs (entF s),newR rs (entR s)⟩,rfl,rfl,rfl,set_thy (y:=⟨.slice a5 (joinL fs (entF s)).length c5,.slice ar (newR rs (entR s)).length cr,joinL fs (entF s),newR rs (entR s)⟩) ⟨HVJ6.out,HRR.out⟩ HSL6.out _ _,(HBW.out.setCell (p:=⟨w.heap.size + 1,0,none⟩) (by show w.heap.size≤w.heap.size + 1;omega) _).setCell (p:=⟨w.heap.size + 1,1,none⟩) (by show w.heap.size≤w.heap.size + 1;omega) _⟩
    · have hjn:(je != 0)=true:=by simpa using hj0
      have HU:=Lib.hid (useS_bad (fs:=fs) (rs:=rs) hE (by rw [HJE.out];exact hj0))
      rw [HJE.out] at HU
      clear p0 p1
      go_wp2_with fail
      refine bodyPost_ret (v:=.tuple #[.agg #[.slice none 0 0,.slice none 0 0],.int .i64 je]) (by simp [results,Tryz.results43,go_sem,q0,q1]) rfl ?_
      rw [HU.out]
      exact ⟨⟨.slice none 0 0,.slice none 0 0,[],[]⟩,rfl,rfl,rfl,zero_thy _,(HBW4.out.setCell (p:=⟨w.heap.size + 1,0,none⟩) (by show w.heap.size≤w.heap.size + 1;omega) _).setCell (p:=⟨w.heap.size + 1,1,none⟩) (by show w.heap.size≤w.heap.size + 1;omega) _⟩
end Go.Proofs.YtjcleokfpohpdaaGreatDoor
