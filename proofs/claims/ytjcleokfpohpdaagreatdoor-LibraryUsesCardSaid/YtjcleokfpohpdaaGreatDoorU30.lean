/-
  Whether two rows of terms are alike, by the program: the library's EqualFunc with term.Same.
  Whether two rules are alike but for names, by the program: rename.Same. (printed by tools/gensame.py)
  Rows of rules as values: what an append of one reads. No function of the program.
  Which rules aren't there yet, by the program: IndexFunc, ContainsFunc with a closure, missing.
  Which rules aren't there yet, by the program: IndexFunc, ContainsFunc with a closure, missing.
-/
import Derived.Test.YtjcleokfpohpdaaGreatDoorU29
import Derived.Test.YtjcleokfpohpdaaGreatDoorU01
import Derived.Test.YtjcleokfpohpdaaGreatDoorU08
import Derived.Deep.LoopGhost
import Derived.WalkMore
import Derived.OwnWalk
import Derived.Lib.Hide
import Derived.WalkKit
import Derived.Test.YtjcleokfpohpdaaGreatDoorU10
import Derived.Deep.RegionHeld3
import Derived.Test.YtjcleokfpohpdaaGreatDoorU09
namespace Go.Proofs.YtjcleokfpohpdaaGreatDoor
open Go.RowKit
set_option maxRecDepth 100000 in
set_option maxHeartbeats 4000000 in
theorem peqts_any (va vb:Value) (ts us:List Tm) (w:World) (ha:Tms w va ts) (hb:Tms w vb us) :
    Calls Tryz.prog 173 #[va,vb,.func (.func 175) #[] #[]] w fun e w'=>e=.returned (.bool (eqTs ts us))∧Below w.heap.size w w':=by
  have eg:∀ (a b:Value) (w:World),(callFunc 175 #[a,b]).run Tryz.prog w=.ok (.enter 175 #[a,b]) w:=fun _ _ _=>by kernel_rfl
  obtain ⟨aa,ca,rfl,⟨hla,_⟩,hra⟩:=ha
  obtain ⟨ab,cb,rfl,⟨hlb,_⟩,hrb⟩:=hb
  have HA:=Lib.hid (fun (k:Nat) (hk:k < ts.length)=>(show ∃ b o,aa=some ⟨b,o,none⟩∧∃ y:Tv,y.t=ts[k]∧y.ok w∧TvAt w b (o + k * 4) y from by
    rcases hra with h | ⟨b,o,e,_,hr⟩
    · rw [h] at hk;cases hk
    · obtain ⟨y,y1,y2,y3⟩:=tmAt_tv (rowAt_get hr hk)
      exact ⟨b,o,e,y,y1,y2,y3⟩))
  have HB:=Lib.hid (fun (k:Nat) (hk:k < us.length)=>(show ∃ b o,ab=some ⟨b,o,none⟩∧∃ y:Tv,y.t=us[k]∧y.ok w∧TvAt w b (o + k * 4) y from by
    rcases hrb with h | ⟨b,o,e,_,hr⟩
    · rw [h] at hk;cases hk
    · obtain ⟨y,y1,y2,y3⟩:=tmAt_tv (rowAt_get hr hk)
      exact ⟨b,o,e,y,y1,y2,y3⟩))
  have AL:=Lib.hid (fun (x y:Tv) (W:World) (h1:x.ok W) (h2:y.ok W)=>psame_tm x y W h1 h2)
  clear hra hrb
  by_cases hl:ts.length=us.length
  · have hln:((ts.length:Int) != (us.length:Int))=false:=by rw [hl];simp
    have HL:=Lib.hid hl
    clear hl
    go_enter Tryz.func173,Tryz.ntmps173
    go_wp2_with fail
    go_loopw [17] (fun i wr=>∃ q:Nat,q≤ts.length∧i=.int .i64 q∧Hid (TmsTo ts us q)∧Below w.heap.size w wr) (fun i _=>ts.length - (intOf i).toNat)
    case atStart=>exact ⟨0,Nat.zero_le _,rfl,Lib.hid (fun j _ _ h=>by omega),Below.refl _ _⟩
    case round =>
      obtain ⟨q,hq,rfl,HT,hb⟩:=hrel
      by_cases hql:q < ts.length
      · have hqb:q < us.length:=by have:=HL.out;omega
        obtain ⟨b1,o1,rfl,x,hxt,hxo,hxv⟩:=HA.out q hql
        obtain ⟨b2,o2,rfl,y,hyt,hyo,hyv⟩:=HB.out q hqb
        have hr:=reads_below hb
        have hbr1:b1 < wr.heap.size:=Nat.lt_of_lt_of_le (lt_of_cell hxv.c0) hb.size
        have hbr2:b2 < wr.heap.size:=Nat.lt_of_lt_of_le (lt_of_cell hyv.c0) hb.size
        have hbr3:b2 < wr.heap.size + 1:=by omega
        obtain ⟨m0,m1,m2,m3⟩:TvAt wr b1 (o1 + q * 4) x:=⟨hr.cell _ _ hxv.c0,hr.cell _ _ hxv.c1,hr.cell _ _ hxv.c2,hr.cell _ _ hxv.c3⟩
        obtain ⟨n0,n1,n2,n3⟩:TvAt wr b2 (o2 + q * 4) y:=⟨hr.cell _ _ hyv.c0,hr.cell _ _ hyv.c1,hr.cell _ _ hyv.c2,hr.cell _ _ hyv.c3⟩
        have HNX:=Lib.hid (fun (e:x.t=y.t)=>HT.out.succ hql hqb (by rw [← hxt,← hyt];exact e))
        have HNE:=Lib.hid (fun (e:x.t≠y.t)=>(show eqTs ts us=false from eqTs_false (by rintro rfl;exact e (hxt.trans hyt.symm))))
        have hk0:(0:Int)≤(q:Int):=by omega
        have hk1:(q:Int) < (ts.length:Int):=by omega
        have hk2:(q:Int) < (us.length:Int):=by omega
        obtain ⟨xt,xa,xc⟩:=x
        obtain ⟨yt,ya,yc⟩:=y
        simp only at m0 m1 m2 m3 n0 n1 n2 n3 HNX HNE
        have hb1':Below wr.heap.size wr (wr.alloc (.cells #[.int .i64 xt.kind,.string xt.name,.int .i64 xt.n,.slice xa xt.args.length xc] 70)):=(Below.refl _ _).alloc (Nat.le_refl _) _
        have hb2':Below wr.heap.size wr ((wr.alloc (.cells #[.int .i64 xt.kind,.string xt.name,.int .i64 xt.n,.slice xa xt.args.length xc] 70)).alloc (.cells #[.int .i64 yt.kind,.string yt.name,.int .i64 yt.n,.slice ya yt.args.length yc] 70)):=hb1'.alloc hb1'.size _
        have C:=Lib.hid (AL.out ⟨xt,xa,xc⟩ ⟨yt,ya,yc⟩ _ (hxo.below (hb.trans (hb2'.mono hb.size))) (hyo.below (hb.trans (hb2'.mono hb.size))))
        have HBW:=Lib.hid (below_next hb hb2')
        have hx2:=(box_new wr (.int .i64 xt.kind) (.string xt.name) (.int .i64 xt.n) (.slice xa xt.args.length xc) 70).below (w1:=(wr.alloc (.cells #[.int .i64 xt.kind,.string xt.name,.int .i64 xt.n,.slice xa xt.args.length xc] 70)).alloc (.cells #[.int .i64 yt.kind,.string yt.name,.int .i64 yt.n,.slice ya yt.args.length yc] 70)) (B:=wr.heap.size + 1) ((Below.refl _ _).alloc (by simp) _) (Nat.lt_succ_self _)
        obtain ⟨p0,p1,p2,p3,_,_,_,_⟩:=hx2
        unfold Tv.val at C
        simp only at C
        obtain ⟨bb,hbb⟩:∃ bb,eqT xt yt=bb:=⟨_,rfl⟩
        rw [hbb] at C
        have HBB:=Lib.hid (show bb=true ↔ xt=yt by rw [← hbb];exact eqT_iff)
        clear hxt hyt hxo hyo hxv hyv hb hr hb1' hb2' hbb
        cases bb with
        | false =>
          have HF:=Lib.hid (HNE.out (fun e=>by have:=HBB.out.2 e;cases this))
          go_wp2_with fail
          refine C.out.mono ?_;rintro e w3 ⟨rfl,h3⟩
          have H3:=Lib.hid (below_next HBW.out h3.below)
          clear h3
          go_wp2_with fail
          go_ret
          exact ⟨by rw [HF.out];rfl,H3.out⟩
        | true =>
          have HOK:=Lib.hid (HNX.out (HBB.out.1 rfl))
          go_wp2_with fail
          refine C.out.mono ?_;rintro e w3 ⟨rfl,h3⟩
          have H3:=Lib.hid (below_next HBW.out h3.below)
          clear h3 p0 p1 p2 p3
          go_wp2_with fail
          go_roundw
          case rel=>exact ⟨q + 1,by omega,by go_num,HOK,H3.out⟩
          case measure=>simp [intOf];omega
      · obtain rfl:q=ts.length:=by omega
        have HEQ:=Lib.hid (show eqTs ts us=true from eqTs_true (HT.out.all HL.out))
        have HBE:=Lib.hid hb
        clear hb
        go_wp2_with fail
        go_ret
        exact ⟨by rw [HEQ.out];rfl,HBE.out⟩
  · have hln:((ts.length:Int) != (us.length:Int))=true:=by simp;omega
    have HL:=Lib.hid (show eqTs ts us=false from eqTs_false (by rintro rfl;exact hl rfl))
    clear hl
    go_enter Tryz.func173,Tryz.ntmps173
    go_wp2_with fail
    go_ret
    exact ⟨by rw [HL.out];rfl,Below.refl _ _⟩
end Go.Proofs.YtjcleokfpohpdaaGreatDoor
namespace Go.Proofs.YtjcleokfpohpdaaGreatDoor
open Go.RowKit
set_option maxRecDepth 100000 in
set_option maxHeartbeats 4000000 in
theorem psame8_any (x y:Qv) (w:World) (HPW:Pow w) (hx:x.ok w) (hy:y.ok w) (hpx:x.l.t.parts≤10000∧x.r.t.parts≤10000) (hpy:y.l.t.parts≤10000∧y.r.t.parts≤10000) :
    Calls Tryz.prog 134 #[x.val,y.val] w fun e w'=>e=.returned (.bool (sameUp x.rl y.rl))∧Below w.heap.size w w':=by
  have HB0:Below w.heap.size w ((w.alloc (.cells x.cells.toArray 82)).alloc (.cells y.cells.toArray 82)):=((Below.refl _ _).alloc (Nat.le_refl _) _).alloc (by simp) _
  have hc1:=(eight_box w x 82).below ((Below.refl _ _).alloc (Nat.le_refl _) (.cells y.cells.toArray 82))
  have hc2:=eight_box (w.alloc (.cells x.cells.toArray 82)) y 82
  rw [show (w.alloc (.cells x.cells.toArray 82)).heap.size=w.heap.size + 1 from by simp] at hc2
  have hz2:((w.alloc (.cells x.cells.toArray 82)).alloc (.cells y.cells.toArray 82)).heap.size=w.heap.size + 1 + 1:=by simp
  have CA:=Lib.hid (fun (W:World) (b:Nat) (hb:Below w.heap.size w W) (hr:RowV W b (rowTv [x.l,x.r]))=>pcanon_any (.slice (some ⟨b,0,none⟩) 2 2) [x.l.t,x.r.t] W (HPW.below hb) (tms_rowV [x.l,x.r] b 2 W hr (fun z hz=>by simp only [List.mem_cons,List.not_mem_nil,or_false] at hz;rcases hz with rfl | rfl;exact hx.1.below hb;exact hx.2.below hb) (by simp) (Nat.le_refl _)) (by simp) (fun t ht=>by simp only [List.mem_cons,List.not_mem_nil,or_false] at ht;rcases ht with rfl | rfl;exact hpx.1;exact hpx.2))
  have CB:=Lib.hid (fun (W:World) (b:Nat) (hb:Below w.heap.size w W) (hr:RowV W b (rowTv [y.l,y.r]))=>pcanon_any (.slice (some ⟨b,0,none⟩) 2 2) [y.l.t,y.r.t] W (HPW.below hb) (tms_rowV [y.l,y.r] b 2 W hr (fun z hz=>by simp only [List.mem_cons,List.not_mem_nil,or_false] at hz;rcases hz with rfl | rfl;exact hy.1.below hb;exact hy.2.below hb) (by simp) (Nat.le_refl _)) (by simp) (fun t ht=>by simp only [List.mem_cons,List.not_mem_nil,or_false] at ht;rcases ht with rfl | rfl;exact hpy.1;exact hpy.2))
  have HSU:=Lib.hid (show sameUp x.rl y.rl=eqTs (canonT [x.l.t,x.r.t]) (canonT [y.l.t,y.r.t]) from rfl)
  have CS:=Lib.hid (fun (u v:Value) (W:World) (h1:Tms W u (canonT [x.l.t,x.r.t])) (h2:Tms W v (canonT [y.l.t,y.r.t]))=>peqts_any u v (canonT [x.l.t,x.r.t]) (canonT [y.l.t,y.r.t]) W h1 h2)
  clear hx hy hpx hpy
  obtain ⟨ca,hca⟩:∃ ca,canonT [x.l.t,x.r.t]=ca:=⟨_,rfl⟩
  obtain ⟨cb,hcb⟩:∃ cb,canonT [y.l.t,y.r.t]=cb:=⟨_,rfl⟩
  rw [hca] at CA CS HSU
  rw [hcb] at CB CS HSU
  obtain ⟨⟨xt,xa,xc⟩,⟨xt2,xa2,xc2⟩⟩:=x
  obtain ⟨⟨yt,ya,yc⟩,⟨yt2,ya2,yc2⟩⟩:=y
  unfold Qv.val
  unfold Qv.cells at HB0 hc1 hc2 hz2
  simp only at HB0 hc1 hc2 hz2 ⊢
  clear hca hcb
  have HPK:=Lib.hid (And.intro HB0 (And.intro hc1 (And.intro hc2 hz2)))
  clear HB0 hc1 hc2 hz2
  go_enter Tryz.func134,Tryz.ntmps134
  go_wp2_with fail
  obtain ⟨HB0,hc1,hc2,hz2⟩:=HPK.out
  obtain ⟨w2,hw2⟩:∃ w2,((w.alloc (.cells #[.int .i64 xt.kind,.string xt.name,.int .i64 xt.n,.slice xa xt.args.length xc,.int .i64 xt2.kind,.string xt2.name,.int .i64 xt2.n,.slice xa2 xt2.args.length xc2] 82)).alloc (.cells #[.int .i64 yt.kind,.string yt.name,.int .i64 yt.n,.slice ya yt.args.length yc,.int .i64 yt2.kind,.string yt2.name,.int .i64 yt2.n,.slice ya2 yt2.args.length yc2] 82))=w2:=⟨_,rfl⟩
  rw [hw2] at HB0 hc1 hc2 ⊢
  have ALL:=fun (Q:World) (h:Below w2.heap.size w2 Q)=>(show Below w2.heap.size w2 Q∧(Q.cell? ⟨w.heap.size,0,none⟩=some (.int .i64 xt.kind)∧Q.cell? ⟨w.heap.size,1,none⟩=some (.string xt.name)∧Q.cell? ⟨w.heap.size,2,none⟩=some (.int .i64 xt.n)∧Q.cell? ⟨w.heap.size,3,none⟩=some (.slice xa xt.args.length xc)∧Q.cell? ⟨w.heap.size,4,none⟩=some (.int .i64 xt2.kind)∧Q.cell? ⟨w.heap.size,5,none⟩=some (.string xt2.name)∧Q.cell? ⟨w.heap.size,6,none⟩=some (.int .i64 xt2.n)∧Q.cell? ⟨w.heap.size,7,none⟩=some (.slice xa2 xt2.args.length xc2))∧(Q.cell? ⟨w.heap.size + 1,0,none⟩=some (.int .i64 yt.kind)∧Q.cell? ⟨w.heap.size + 1,1,none⟩=some (.string yt.name)∧Q.cell? ⟨w.heap.size + 1,2,none⟩=some (.int .i64 yt.n)∧Q.cell? ⟨w.heap.size + 1,3,none⟩=some (.slice ya yt.args.length yc)∧Q.cell? ⟨w.heap.size + 1,4,none⟩=some (.int .i64 yt2.kind)∧Q.cell? ⟨w.heap.size + 1,5,none⟩=some (.string yt2.name)∧Q.cell? ⟨w.heap.size + 1,6,none⟩=some (.int .i64 yt2.n)∧Q.cell? ⟨w.heap.size + 1,7,none⟩=some (.slice ya2 yt2.args.length yc2)) from ⟨h,by obtain ⟨a0,a1,a2,a3,a4,a5,a6,a7⟩:=hc1.below h;exact ⟨a0,a1,a2,a3,a4,a5,a6,a7⟩,by obtain ⟨a0,a1,a2,a3,a4,a5,a6,a7⟩:=hc2.below h;exact ⟨a0,a1,a2,a3,a4,a5,a6,a7⟩⟩)
  have KX:=Lib.hid ALL
  have K0:=Lib.hid (ALL w2.drew ((Below.refl _ _).drew))
  have KA:=Lib.hid (fun (Q:World) (o:Obj) (h:Below w2.heap.size w2 Q∧(Q.cell? ⟨w.heap.size,0,none⟩=some (.int .i64 xt.kind)∧Q.cell? ⟨w.heap.size,1,none⟩=some (.string xt.name)∧Q.cell? ⟨w.heap.size,2,none⟩=some (.int .i64 xt.n)∧Q.cell? ⟨w.heap.size,3,none⟩=some (.slice xa xt.args.length xc)∧Q.cell? ⟨w.heap.size,4,none⟩=some (.int .i64 xt2.kind)∧Q.cell? ⟨w.heap.size,5,none⟩=some (.string xt2.name)∧Q.cell? ⟨w.heap.size,6,none⟩=some (.int .i64 xt2.n)∧Q.cell? ⟨w.heap.size,7,none⟩=some (.slice xa2 xt2.args.length xc2))∧(Q.cell? ⟨w.heap.size + 1,0,none⟩=some (.int .i64 yt.kind)∧Q.cell? ⟨w.heap.size + 1,1,none⟩=some (.string yt.name)∧Q.cell? ⟨w.heap.size + 1,2,none⟩=some (.int .i64 yt.n)∧Q.cell? ⟨w.heap.size + 1,3,none⟩=some (.slice ya yt.args.length yc)∧Q.cell? ⟨w.heap.size + 1,4,none⟩=some (.int .i64 yt2.kind)∧Q.cell? ⟨w.heap.size + 1,5,none⟩=some (.string yt2.name)∧Q.cell? ⟨w.heap.size + 1,6,none⟩=some (.int .i64 yt2.n)∧Q.cell? ⟨w.heap.size + 1,7,none⟩=some (.slice ya2 yt2.args.length yc2)))=>KX.out (Q.alloc o) (h.1.alloc h.1.size _))
  have KD:=Lib.hid (fun (Q:World) (o:Obj) (h:Below w2.heap.size w2 Q.drew∧(Q.drew.cell? ⟨w.heap.size,0,none⟩=some (.int .i64 xt.kind)∧Q.drew.cell? ⟨w.heap.size,1,none⟩=some (.string xt.name)∧Q.drew.cell? ⟨w.heap.size,2,none⟩=some (.int .i64 xt.n)∧Q.drew.cell? ⟨w.heap.size,3,none⟩=some (.slice xa xt.args.length xc)∧Q.drew.cell? ⟨w.heap.size,4,none⟩=some (.int .i64 xt2.kind)∧Q.drew.cell? ⟨w.heap.size,5,none⟩=some (.string xt2.name)∧Q.drew.cell? ⟨w.heap.size,6,none⟩=some (.int .i64 xt2.n)∧Q.drew.cell? ⟨w.heap.size,7,none⟩=some (.slice xa2 xt2.args.length xc2))∧(Q.drew.cell? ⟨w.heap.size + 1,0,none⟩=some (.int .i64 yt.kind)∧Q.drew.cell? ⟨w.heap.size + 1,1,none⟩=some (.string yt.name)∧Q.drew.cell? ⟨w.heap.size + 1,2,none⟩=some (.int .i64 yt.n)∧Q.drew.cell? ⟨w.heap.size + 1,3,none⟩=some (.slice ya yt.args.length yc)∧Q.drew.cell? ⟨w.heap.size + 1,4,none⟩=some (.int .i64 yt2.kind)∧Q.drew.cell? ⟨w.heap.size + 1,5,none⟩=some (.string yt2.name)∧Q.drew.cell? ⟨w.heap.size + 1,6,none⟩=some (.int .i64 yt2.n)∧Q.drew.cell? ⟨w.heap.size + 1,7,none⟩=some (.slice ya2 yt2.args.length yc2)))=>KX.out ((Q.alloc o).drew) (show Below w2.heap.size w2 (Q.drew.alloc o) from h.1.alloc h.1.size _))
  have KD2:=Lib.hid (fun (Q:World) (o:Obj) (h:Below w2.heap.size w2 Q∧(Q.cell? ⟨w.heap.size,0,none⟩=some (.int .i64 xt.kind)∧Q.cell? ⟨w.heap.size,1,none⟩=some (.string xt.name)∧Q.cell? ⟨w.heap.size,2,none⟩=some (.int .i64 xt.n)∧Q.cell? ⟨w.heap.size,3,none⟩=some (.slice xa xt.args.length xc)∧Q.cell? ⟨w.heap.size,4,none⟩=some (.int .i64 xt2.kind)∧Q.cell? ⟨w.heap.size,5,none⟩=some (.string xt2.name)∧Q.cell? ⟨w.heap.size,6,none⟩=some (.int .i64 xt2.n)∧Q.cell? ⟨w.heap.size,7,none⟩=some (.slice xa2 xt2.args.length xc2))∧(Q.cell? ⟨w.heap.size + 1,0,none⟩=some (.int .i64 yt.kind)∧Q.cell? ⟨w.heap.size + 1,1,none⟩=some (.string yt.name)∧Q.cell? ⟨w.heap.size + 1,2,none⟩=some (.int .i64 yt.n)∧Q.cell? ⟨w.heap.size + 1,3,none⟩=some (.slice ya yt.args.length yc)∧Q.cell? ⟨w.heap.size + 1,4,none⟩=some (.int .i64 yt2.kind)∧Q.cell? ⟨w.heap.size + 1,5,none⟩=some (.string yt2.name)∧Q.cell? ⟨w.heap.size + 1,6,none⟩=some (.int .i64 yt2.n)∧Q.cell? ⟨w.heap.size + 1,7,none⟩=some (.slice ya2 yt2.args.length yc2)))=>KX.out ((Q.alloc o).drew) ((h.1.alloc h.1.size _).drew))
  have KB:=Lib.hid (fun (Q:World) (h:Below w2.heap.size w2 Q∧(Q.cell? ⟨w.heap.size,0,none⟩=some (.int .i64 xt.kind)∧Q.cell? ⟨w.heap.size,1,none⟩=some (.string xt.name)∧Q.cell? ⟨w.heap.size,2,none⟩=some (.int .i64 xt.n)∧Q.cell? ⟨w.heap.size,3,none⟩=some (.slice xa xt.args.length xc)∧Q.cell? ⟨w.heap.size,4,none⟩=some (.int .i64 xt2.kind)∧Q.cell? ⟨w.heap.size,5,none⟩=some (.string xt2.name)∧Q.cell? ⟨w.heap.size,6,none⟩=some (.int .i64 xt2.n)∧Q.cell? ⟨w.heap.size,7,none⟩=some (.slice xa2 xt2.args.length xc2))∧(Q.cell? ⟨w.heap.size + 1,0,none⟩=some (.int .i64 yt.kind)∧Q.cell? ⟨w.heap.size + 1,1,none⟩=some (.string yt.name)∧Q.cell? ⟨w.heap.size + 1,2,none⟩=some (.int .i64 yt.n)∧Q.cell? ⟨w.heap.size + 1,3,none⟩=some (.slice ya yt.args.length yc)∧Q.cell? ⟨w.heap.size + 1,4,none⟩=some (.int .i64 yt2.kind)∧Q.cell? ⟨w.heap.size + 1,5,none⟩=some (.string yt2.name)∧Q.cell? ⟨w.heap.size + 1,6,none⟩=some (.int .i64 yt2.n)∧Q.cell? ⟨w.heap.size + 1,7,none⟩=some (.slice ya2 yt2.args.length yc2)))=>below_next HB0 h.1)
  have KS:=Lib.hid (fun (Q:World) (h:Below w2.heap.size w2 Q∧(Q.cell? ⟨w.heap.size,0,none⟩=some (.int .i64 xt.kind)∧Q.cell? ⟨w.heap.size,1,none⟩=some (.string xt.name)∧Q.cell? ⟨w.heap.size,2,none⟩=some (.int .i64 xt.n)∧Q.cell? ⟨w.heap.size,3,none⟩=some (.slice xa xt.args.length xc)∧Q.cell? ⟨w.heap.size,4,none⟩=some (.int .i64 xt2.kind)∧Q.cell? ⟨w.heap.size,5,none⟩=some (.string xt2.name)∧Q.cell? ⟨w.heap.size,6,none⟩=some (.int .i64 xt2.n)∧Q.cell? ⟨w.heap.size,7,none⟩=some (.slice xa2 xt2.args.length xc2))∧(Q.cell? ⟨w.heap.size + 1,0,none⟩=some (.int .i64 yt.kind)∧Q.cell? ⟨w.heap.size + 1,1,none⟩=some (.string yt.name)∧Q.cell? ⟨w.heap.size + 1,2,none⟩=some (.int .i64 yt.n)∧Q.cell? ⟨w.heap.size + 1,3,none⟩=some (.slice ya yt.args.length yc)∧Q.cell? ⟨w.heap.size + 1,4,none⟩=some (.int .i64 yt2.kind)∧Q.cell? ⟨w.heap.size + 1,5,none⟩=some (.string yt2.name)∧Q.cell? ⟨w.heap.size + 1,6,none⟩=some (.int .i64 yt2.n)∧Q.cell? ⟨w.heap.size + 1,7,none⟩=some (.slice ya2 yt2.args.length yc2)))=>h.1)
  have HB0H:=Lib.hid HB0
  clear hc1 hc2 hz2 HB0 ALL HPK hw2
  go_region_held3 (fun Q=>Below w2.heap.size w2 Q∧(Q.cell? ⟨w.heap.size,0,none⟩=some (.int .i64 xt.kind)∧Q.cell? ⟨w.heap.size,1,none⟩=some (.string xt.name)∧Q.cell? ⟨w.heap.size,2,none⟩=some (.int .i64 xt.n)∧Q.cell? ⟨w.heap.size,3,none⟩=some (.slice xa xt.args.length xc)∧Q.cell? ⟨w.heap.size,4,none⟩=some (.int .i64 xt2.kind)∧Q.cell? ⟨w.heap.size,5,none⟩=some (.string xt2.name)∧Q.cell? ⟨w.heap.size,6,none⟩=some (.int .i64 xt2.n)∧Q.cell? ⟨w.heap.size,7,none⟩=some (.slice xa2 xt2.args.length xc2))∧(Q.cell? ⟨w.heap.size + 1,0,none⟩=some (.int .i64 yt.kind)∧Q.cell? ⟨w.heap.size + 1,1,none⟩=some (.string yt.name)∧Q.cell? ⟨w.heap.size + 1,2,none⟩=some (.int .i64 yt.n)∧Q.cell? ⟨w.heap.size + 1,3,none⟩=some (.slice ya yt.args.length yc)∧Q.cell? ⟨w.heap.size + 1,4,none⟩=some (.int .i64 yt2.kind)∧Q.cell? ⟨w.heap.size + 1,5,none⟩=some (.string yt2.name)∧Q.cell? ⟨w.heap.size + 1,6,none⟩=some (.int .i64 yt2.n)∧Q.cell? ⟨w.heap.size + 1,7,none⟩=some (.slice ya2 yt2.args.length yc2)))
    (first | exact K0.out | assumption | exact KA.out _ _ (by assumption) | exact KD.out _ _ (by assumption) | exact KD2.out _ _ (by assumption))
    (first
      | (have hq:=hT2;clear hq;go_at_call 173;refine (CS.out _ _ _ ?_ ?_).mono ?_;(· exact hT1);(· exact hT2);rintro e w5 ⟨rfl,hb3⟩;have hbS:=below_next HBW hb3;have hSS:=KX.out _ hbS)
      | (have hq:=hT1;clear hq;go_at_call 174;refine (CB.out _ _ ?_ ?_).mono ?_;(· exact KB.out _ (by assumption));(· (first | exact rowV_new _ _ _ _ rfl | exact (rowV_new _ _ _ _ rfl).drew | exact (rowV_new _ _ _ _ (by simp)).drew | exact rowV_new _ _ _ _ (by simp) | exact ((rowV_new _ _ _ _ rfl).alloc _).drew | exact (((rowV_new _ _ _ _ rfl).alloc _).drew).below hb1 | exact ((rowV_new _ _ _ _ (by simp)).drew).below hb1));rintro e w4 ⟨u2,rfl,hT2,hb2⟩;have hn:=below_next (show Below w3.heap.size w3 _ from (by first | exact Below.refl _ _ | exact (Below.refl _ _).drew | exact (Below.refl _ _).alloc (Nat.le_refl _) _ | exact ((Below.refl _ _).alloc (Nat.le_refl _) _).drew | exact (((Below.refl _ _).alloc (Nat.le_refl _) _).alloc (by simp) _).drew | exact ((Below.refl _ _).alloc (Nat.le_refl _) _).alloc (by simp) _)) hb2;have hT1:=hT1.below hn;have HBW:=below_next HBW hn;have hS2:=KX.out _ HBW)
      | (go_at_call 174;refine (CA.out _ _ ?_ ?_).mono ?_;(· exact KB.out _ (by assumption));(· (first | exact rowV_new _ _ _ _ rfl | exact (rowV_new _ _ _ _ rfl).drew | exact (rowV_new _ _ _ _ (by simp)).drew | exact rowV_new _ _ _ _ (by simp) | exact ((rowV_new _ _ _ _ rfl).alloc _).drew));rintro e w3 ⟨u1,rfl,hT1,hb1⟩;have HBW:=below_next (show Below w2.heap.size w2 _ from (by first | exact Below.refl _ _ | exact (Below.refl _ _).drew | exact (Below.refl _ _).alloc (Nat.le_refl _) _ | exact ((Below.refl _ _).alloc (Nat.le_refl _) _).drew | exact (((Below.refl _ _).alloc (Nat.le_refl _) _).alloc (by simp) _).drew | exact ((Below.refl _ _).alloc (Nat.le_refl _) _).alloc (by simp) _)) hb1;have hS1:=KX.out _ HBW)
      | fail)
  all_goals
    go_wp2_with fail
    go_ret
    exact ⟨by rw [HSU.out];rfl,below_next HB0H.out hbS⟩
end Go.Proofs.YtjcleokfpohpdaaGreatDoor
namespace Go.Proofs.YtjcleokfpohpdaaGreatDoor
open Go.RowKit
def QIn (w:World) (v:Value) (us:List Qv):Prop:=∃ a c,v=.slice a us.length c∧(us.length≤9223372036854775807∧us.length≤c)∧(a=none→us.length=0)∧(∀ ad,a=some ad→0 < us.length→∃ b o,ad=⟨b,o,none⟩∧b < w.heap.size)∧∀ ad,a=some ad→∀ j u,(rowQv us)[j]? = some u→w.cell? (ad.add j)=some u
theorem QIn.below {w w':World} {v:Value} {us:List Qv} (h:QIn w v us) (hb:Below w.heap.size w w'):QIn w' v us:=by
  obtain ⟨a,c,h1,h2,h3,h4,h5⟩:=h
  refine ⟨a,c,h1,h2,h3,fun ad e hp=>?_,fun ad e j u hj=>?_⟩
  · obtain ⟨b,o,e1,e2⟩:=h4 ad e hp
    exact ⟨b,o,e1,Nat.lt_of_lt_of_le e2 hb.size⟩
  · have hp:0 < us.length:=by
      rcases Nat.eq_zero_or_pos us.length with h0 | h0
      · rw [List.length_eq_zero_iff.1 h0] at hj;simp [rowQv] at hj
      · exact h0
    obtain ⟨b,o,rfl,e2⟩:=h4 ad e hp
    exact (hb.cell (p:=(⟨b,o,none⟩:Addr).add j) (by rw [addr_add];exact e2)).trans (h5 _ e j u hj)
theorem rls_qin {w:World} {v:Value} {rs:List Rl} (h:Rls w v rs):∃ us:List Qv,us.map Qv.rl=rs∧(∀ x ∈ us,x.ok w)∧QIn w v us:=by
  obtain ⟨a,c,rfl,hl,h⟩:=h
  rcases h with rfl | ⟨b,o,rfl,hlt,hc⟩
  · exact ⟨[],rfl,(fun x hx=>by cases hx),a,c,rfl,hl,fun _=>rfl,fun ad e hp=>absurd hp (by simp),fun ad e j u hj=>by simp [rowQv] at hj⟩
  · have hex:∀ (n:Nat),n≤rs.length→∃ us:List Qv,us.map Qv.rl=rs.take n∧(∀ x ∈ us,x.ok w)∧∀ (j:Nat) (h:j < us.length),QvAt w b (o + j * 8) us[j]:=by
      intro n
      induction n with
      | zero=>intro _;exact ⟨[],by simp,(fun x hx=>by cases hx),fun j h=>by simp at h⟩
      | succ n ih =>
        intro hn
        obtain ⟨us,u1,u2,u3⟩:=ih (by omega)
        obtain ⟨y,y1,y2,y3⟩:=rlAt_qv (hc n _ (List.getElem?_eq_getElem (by omega)))
        have hul:us.length=n:=by rw [← List.length_map (f:=Qv.rl),u1,List.length_take];omega
        refine ⟨us ++ [y],by rw [List.map_append,u1,List.take_succ_eq_append_getElem (by omega)];simp [y1],fun x hx=>?_,fun j hj=>?_⟩
        · rcases List.mem_append.1 hx with hx | hx
          · exact u2 x hx
          · rw [List.mem_singleton.1 hx];exact y2
        · rw [List.length_append,List.length_singleton] at hj
          by_cases hj2:j < us.length
          · rw [List.getElem_append_left hj2];exact u3 j hj2
          · obtain rfl:j=us.length:=by omega
            rw [List.getElem_append_right (Nat.le_refl _)]
            simp only [Nat.sub_self,List.getElem_cons_zero]
            rw [hul];exact y3
    obtain ⟨us,u1,u2,u3⟩:=hex rs.length (Nat.le_refl _)
    rw [List.take_length] at u1
    have hul:us.length=rs.length:=by rw [← u1,List.length_map]
    refine ⟨us,u1,u2,some ⟨b,o,none⟩,c,by rw [hul],by rw [hul];exact hl,(fun h=>nomatch h),fun ad e hp=>⟨b,o,(Option.some.inj e).symm,hlt⟩,fun ad e j u hj=>?_⟩
    obtain rfl:=Option.some.inj e
    rw [addr_add]
    have hjl:=(List.getElem?_eq_some_iff.1 hj).1
    rw [rowQv_length] at hjl
    have hjd:j / 8 < us.length:=by omega
    have hsplit:j=j / 8 * 8 + j % 8:=by omega
    have hmod:j % 8 < 8:=Nat.mod_lt _ (by omega)
    rw [hsplit,rowQv_get us (j / 8) hjd (j % 8) hmod] at hj
    obtain ⟨k0,k1,k2,k3,k4,k5,k6,k7⟩:=u3 (j / 8) hjd
    have hoff:o + j=o + j / 8 * 8 + j % 8:=by omega
    rw [hoff]
    generalize j % 8=i at hj hmod
    match i,hmod with
    | 0,_=>simp [Qv.cells] at hj;rw [← hj];exact k0
    | 1,_=>simp [Qv.cells] at hj;rw [← hj];exact k1
    | 2,_=>simp [Qv.cells] at hj;rw [← hj];exact k2
    | 3,_=>simp [Qv.cells] at hj;rw [← hj];exact k3
    | 4,_=>simp [Qv.cells] at hj;rw [← hj];exact k4
    | 5,_=>simp [Qv.cells] at hj;rw [← hj];exact k5
    | 6,_=>simp [Qv.cells] at hj;rw [← hj];exact k6
    | 7,_=>simp [Qv.cells] at hj;rw [← hj];exact k7
def flatQ (vs:List (Value × List Qv)):List Qv:=vs.flatMap Prod.snd
theorem flatQ_take {vs:List (Value × List Qv)} {k:Nat} (h:k < vs.length):flatQ (vs.take (k + 1))=flatQ (vs.take k) ++ vs[k].2:=by
  unfold flatQ
  rw [List.take_succ_eq_append_getElem h,List.flatMap_append];simp
theorem flatQ_le (vs:List (Value × List Qv)) (k:Nat):(flatQ (vs.take k)).length≤(flatQ vs).length:=by
  have e:flatQ vs=flatQ (vs.take k) ++ flatQ (vs.drop k):=by
    unfold flatQ;rw [← List.flatMap_append,List.take_append_drop]
  rw [e,List.length_append];omega
def RowsQ (w:World) (g:Nat) (vs:List (Value × List Qv)):Prop:=g < w.heap.size∧∀ (k:Nat) (h:k < vs.length),w.cell? ⟨g,k,none⟩=some vs[k].1∧QIn w vs[k].1 vs[k].2
theorem RowsQ.below {w w':World} {g:Nat} {vs:List (Value × List Qv)} (h:RowsQ w g vs) (hb:Below w.heap.size w w'):RowsQ w' g vs :=
  ⟨Nat.lt_of_lt_of_le h.1 hb.size,fun k hk=>⟨(hb.cell (p:=⟨g,k,none⟩) h.1).trans (h.2 k hk).1,(h.2 k hk).2.below hb⟩⟩
end Go.Proofs.YtjcleokfpohpdaaGreatDoor
namespace Go.Proofs.YtjcleokfpohpdaaGreatDoor
open Go.RowKit
def FewP (rs:List Rl):Prop:=∀ r ∈ rs,r.1.parts≤10000∧r.2.parts≤10000
theorem rls_at {w:World} {v:Value} {rs:List Rl} (h:Rls w v rs):∃ a c,v=.slice a rs.length c∧rs.length≤9223372036854775807∧∀ k (hk:k < rs.length),∃ b o,a=some ⟨b,o,none⟩∧∃ y:Qv,y.rl=rs[k]∧y.ok w∧QvAt w b (o + k * 8) y:=by
  obtain ⟨a,c,rfl,⟨hl,_⟩,h⟩:=h
  refine ⟨a,c,rfl,hl,fun k hk=>?_⟩
  rcases h with h | ⟨b,o,rfl,hlt,hc⟩
  · rw [h] at hk;cases hk
  · obtain ⟨y,y1,y2,y3⟩:=rlAt_qv (hc k _ (List.getElem?_eq_getElem hk))
    exact ⟨b,o,rfl,y,y1,y2,y3⟩
set_option maxRecDepth 100000 in
set_option maxHeartbeats 2000000 in
theorem pmissf_any (x q:Qv) (g:Nat) (w:World) (HPW:Pow w) (hx:x.ok w) (hq:q.ok w) (hg:QvAt w g 0 q) (hpx:x.l.t.parts≤10000∧x.r.t.parts≤10000) (hpq:q.l.t.parts≤10000∧q.r.t.parts≤10000) :
    Calls Tryz.prog 133 #[x.val,.pointer (some ⟨g,0,none⟩)] w fun e w'=>e=.returned (.bool (sameUp x.rl q.rl))∧Below w.heap.size w w':=by
  have hb1:Below w.heap.size w (w.alloc (.cells x.cells.toArray 82)):=(Below.refl _ _).alloc (Nat.le_refl _) _
  have SM:=Lib.hid (fun (W:World) (h:Below w.heap.size w W)=>psame8_any x q W (HPW.below h) (hx.below h) (hq.below h) hpx hpq)
  have hc1:=eight_box w x 82
  have hc2:=hg.below hb1
  have hgl:g < w.heap.size:=World.block_lt_of_cell? w _ hg.c0
  obtain ⟨sm,hsm⟩:∃ sm,sameUp x.rl q.rl=sm:=⟨_,rfl⟩
  rw [hsm] at SM ⊢
  have HB1:=Lib.hid hb1
  clear hx hq hg hpx hpq HPW hb1 hsm
  obtain ⟨⟨xt,xa,xc⟩,⟨xt2,xa2,xc2⟩⟩:=x
  obtain ⟨⟨yt,ya,yc⟩,⟨yt2,ya2,yc2⟩⟩:=q
  unfold Qv.val at SM ⊢
  unfold Qv.cells at hc1 hc2 HB1
  simp only at SM hc1 hc2 HB1 ⊢
  obtain ⟨p0,p1,p2,p3,p4,p5,p6,p7⟩:=hc1
  obtain ⟨q0,q1,q2,q3,q4,q5,q6,q7⟩:=hc2
  simp only [Nat.zero_add] at p0 p1 p2 p3 p4 p5 p6 p7 q0 q1 q2 q3 q4 q5 q6 q7
  go_enter Tryz.func133,Tryz.ntmps133
  go_wp2_with fail
  refine (SM.out _ HB1.out).mono ?_;rintro e w1 ⟨rfl,hb2⟩
  have H2:=Lib.hid (below_next HB1.out hb2)
  clear hb2 p0 p1 p2 p3 p4 p5 p6 p7 q0 q1 q2 q3 q4 q5 q6 q7
  go_wp2_with fail
  go_ret
  exact ⟨rfl,H2.out⟩
end Go.Proofs.YtjcleokfpohpdaaGreatDoor
namespace Go.Proofs.YtjcleokfpohpdaaGreatDoor
open Go.RowKit
theorem any_take_succ {p:Rl→Bool} {rs:List Rl} {k:Nat} (h:k < rs.length):(rs.take (k + 1)).any p=((rs.take k).any p||p rs[k]):=by
  rw [List.take_succ_eq_append_getElem h,List.any_append];simp
set_option maxRecDepth 100000 in
set_option maxHeartbeats 4000000 in
theorem pindex_miss (v:Value) (rs:List Rl) (q:Qv) (g:Nat) (w:World) (HPW:Pow w) (hv:Rls w v rs) (hq:q.ok w) (hg:QvAt w g 0 q) (hf:FewP rs) (hpq:q.l.t.parts≤10000∧q.r.t.parts≤10000) :
    Calls Tryz.prog 176 #[v,.func (.func 133) #[] #[.pointer (some ⟨g,0,none⟩)]] w fun e w'=>((∃ k:Nat,e=.returned (.int .i64 k)∧rs.any (fun x=>sameUp x q.rl)=true)∨(e=.returned (.int .i64 (-1))∧rs.any (fun x=>sameUp x q.rl)=false))∧Below w.heap.size w w':=by
  have eg:∀ (a b:Value) (w:World),(callFunc 133 #[a,b]).run Tryz.prog w=.ok (.enter 133 #[a,b]) w:=fun _ _ _=>by kernel_rfl
  obtain ⟨a,c,rfl,hl,hat⟩:=rls_at hv
  have HAT:=Lib.hid hat
  have MF:=Lib.hid (fun (x:Qv) (k:Nat) (hk:k < rs.length) (he:x.rl=rs[k]) (hx:x.ok w) (W:World) (hb:Below w.heap.size w W)=>pmissf_any x q g W (HPW.below hb) (hx.below hb) (hq.below hb) (hg.below hb) (by have:=hf _ (List.getElem_mem hk);rw [← he] at this;exact this) hpq)
  clear hat hv hq hg hf hpq HPW
  go_enter Tryz.func176,Tryz.ntmps176
  go_wp2_with fail
  go_loopw [8] (fun i wr=>∃ k:Nat,i=.int .i64 k∧k≤rs.length∧Hid ((rs.take k).any (fun x=>sameUp x q.rl)=false)∧Below w.heap.size w wr) (fun i _=>rs.length - (intOf i).toNat)
  case atStart=>exact ⟨0,rfl,Nat.zero_le _,Lib.hid (by simp),Below.refl _ _⟩
  case round =>
    obtain ⟨k,rfl,hk,HN,hb⟩:=hrel
    by_cases hk1:k < rs.length
    · have hkc:(k:Int) < (rs.length:Int):=by omega
      have hk0:(0:Int)≤(k:Int):=by omega
      obtain ⟨b,o,rfl,y,y1,y2,y3⟩:=HAT.out k hk1
      obtain ⟨m0,m1,m2,m3,m4,m5,m6,m7⟩:=y3.below hb
      have hb1:Below w.heap.size w wr.drew:=hb.drew
      have M:=Lib.hid (fun (W:World) (h:Below w.heap.size w W)=>MF.out y k hk1 y1 y2 W h)
      have HTS:=Lib.hid (any_take_succ (p:=fun x=>sameUp x q.rl) hk1)
      rw [← y1] at HTS
      have HIN:=Lib.hid (fun (e:sameUp y.rl q.rl=true)=>(show rs.any (fun x=>sameUp x q.rl)=true from List.any_eq_true.2 ⟨y.rl,by rw [y1];exact List.getElem_mem hk1,e⟩))
      obtain ⟨sm,hsm⟩:∃ sm,sameUp y.rl q.rl=sm:=⟨_,rfl⟩
      rw [hsm] at M HTS HIN
      obtain ⟨⟨xt,xa,xc⟩,⟨xt2,xa2,xc2⟩⟩:=y
      unfold Qv.val at M
      simp only at M m0 m1 m2 m3 m4 m5 m6 m7
      have HB:=Lib.hid hb
      have HB1:=Lib.hid hb1
      clear y1 y2 y3 hb hb1 hsm
      cases sm with
      | true =>
        have HT:=Lib.hid (HIN.out rfl)
        go_wp2_with fail
        refine (M.out _ (by first | exact HB.out | exact HB1.out)).mono ?_;rintro e w1 ⟨rfl,hb2⟩
        have H2:=Lib.hid (HB.out.trans ((below_next (by first | exact Below.refl _ _ | exact (Below.refl _ _).drew) hb2).mono HB.out.size))
        clear hb2 m0 m1 m2 m3 m4 m5 m6 m7
        go_wp2_with fail
        go_ret
        exact ⟨.inl ⟨k,rfl,HT.out⟩,H2.out⟩
      | false =>
        have HT:=Lib.hid (show (rs.take (k + 1)).any (fun x=>sameUp x q.rl)=false by rw [HTS.out,HN.out];rfl)
        go_wp2_with fail
        refine (M.out _ (by first | exact HB.out | exact HB1.out)).mono ?_;rintro e w1 ⟨rfl,hb2⟩
        have H2:=Lib.hid (HB.out.trans ((below_next (by first | exact Below.refl _ _ | exact (Below.refl _ _).drew) hb2).mono HB.out.size))
        clear hb2 m0 m1 m2 m3 m4 m5 m6 m7
        go_wp2_with fail
        go_roundw
        case rel=>exact ⟨k + 1,by go_num,by omega,HT,H2.out⟩
        case measure=>simp [intOf];omega
    · obtain rfl:k=rs.length:=by omega
      have HT:=Lib.hid (show rs.any (fun x=>sameUp x q.rl)=false by have h:=HN.out;rwa [List.take_length] at h)
      have HB:=Lib.hid hb
      clear hb
      go_wp2_with fail
      go_ret
      exact ⟨.inr ⟨rfl,HT.out⟩,HB.out⟩
set_option maxRecDepth 100000 in
set_option maxHeartbeats 2000000 in
theorem pcontains_miss (v:Value) (rs:List Rl) (q:Qv) (g:Nat) (w:World) (HPW:Pow w) (hv:Rls w v rs) (hq:q.ok w) (hg:QvAt w g 0 q) (hf:FewP rs) (hpq:q.l.t.parts≤10000∧q.r.t.parts≤10000) :
    Calls Tryz.prog 135 #[v,.func (.func 133) #[] #[.pointer (some ⟨g,0,none⟩)]] w fun e w'=>e=.returned (.bool (rs.any (fun x=>sameUp x q.rl)))∧Below w.heap.size w w':=by
  have IX:=Lib.hid (pindex_miss v rs q g w HPW hv hq hg hf hpq)
  obtain ⟨a,c,rfl,_,_⟩:=rls_at hv
  clear hv hq hg hf hpq HPW
  go_enter Tryz.func135,Tryz.ntmps135
  go_wp2_with fail
  refine IX.out.mono ?_
  rintro e w1 ⟨⟨k,rfl,h⟩ | ⟨rfl,h⟩,hb⟩
  · have hk0:(0:Int)≤(k:Int):=by omega
    have H:=Lib.hid (And.intro h hb)
    clear h hb
    go_wp2_with fail
    go_ret
    exact ⟨by rw [H.out.1];rfl,H.out.2⟩
  · have H:=Lib.hid (And.intro h hb)
    clear h hb
    go_wp2_with fail
    go_ret
    exact ⟨by rw [H.out.1];rfl,H.out.2⟩
end Go.Proofs.YtjcleokfpohpdaaGreatDoor
