/-
  Whether two terms are alike, by the reference of layer 3: Same, for any two terms in memory.
  Whether rules, and rows of rules, are alike: the reference's Rule, Rules.
  Whether functions are few, with short names, and whether two rows of functions are alike, by the reference of layer 10: Few, Same.
  Whether theories are alike, and whether one is small: the reference's Theory, Few.
  What a call of Use leaves; theories that are small enough. No function of the program.
-/
import Derived.Test.YtjcleokfpohpdaaGreatDoorU01
import Derived.StillTailTactics
import Derived.Test.YtjcleokfpohpdaaGreatDoorU03
import Derived.Deep.LoopGhost
import Derived.WalkMore
import Derived.OwnWalk
import Derived.Deep.RegionHeld3
import Derived.BigQuiet
import Derived.Test.YtjcleokfpohpdaaGreatDoorU08
import Derived.WalkKit
import Derived.Lib.Hide
import Derived.Test.YtjcleokfpohpdaaGreatDoorU32
import Derived.Test.YtjcleokfpohpdaaGreatDoorU02
import Derived.Test.YtjcleokfpohpdaaGreatDoorU09
namespace Go.Proofs.YtjcleokfpohpdaaGreatDoor
open Go.RowKit
set_option maxRecDepth 100000 in
set_option maxHeartbeats 2000000 in
theorem same_tm (m:Nat):∀ (x y:Tv) (w:World),x.t.parts≤m→x.ok w→y.ok w →
    Calls Tryz.prog 25 #[x.val,y.val] w fun e w'=>e=.returned (.bool (eqT x.t y.t))∧Below w.heap.size w w':=by
  induction m with
  | zero=>intro x y w h;have:=parts_pos x.t;omega
  | succ m ih =>
    intro x y w hm hx hy
    obtain ⟨⟨k,s,n,xs⟩,a,c⟩:=x
    obtain ⟨⟨k',s',n',ys⟩,a',c'⟩:=y
    obtain ⟨_,hxl,hxr⟩:=hx
    obtain ⟨_,hyl,hyr⟩:=hy
    simp only [Tv.val,Tm.kind,Tm.name,Tm.n,Tm.args] at hxl hxr hyl hyr ⊢
    have hpl:∀ j (h:j < xs.length),xs[j].parts≤m:=fun j h=>by
      have:=parts_arg (.mk k s n xs) (j:=j) h
      have e:(Tm.mk k s n xs).args[j]=xs[j]:=rfl
      rw [e] at this;simp only at hm;omega
    have hbb:Below w.heap.size w ((w.alloc (.cells #[.int .i64 k,.string s,.int .i64 n,.slice a xs.length c] 70)).alloc (.cells #[.int .i64 k',.string s',.int .i64 n',.slice a' ys.length c'] 70)) :=
      ((Below.refl _ _).alloc (Nat.le_refl _) _).alloc (by simp) _
    rcases tm_ways k k' s s' n n' xs.length ys.length with ⟨rfl,rfl,rfl,hlen⟩ | ⟨hne,hw⟩
    · have hq:((xs.length:Int) != (ys.length:Int))=false:=by simp [hlen]
      have HL:=Lib.hid hlen
      have IH:=Lib.hid ih
      have HP:=Lib.hid hpl
      clear ih hpl hm hlen
      rcases hxr with rfl | ⟨b,off,rfl,hlt,hr⟩
      · have:ys=[]:=by simpa using HL.out.symm
        subst this
        have HE:=Lib.hid (eqT_true (rfl:Tm.mk k s n []=Tm.mk k s n []))
        go_enter Tryz.func25,Tryz.ntmps25
        go_wp2
        refine wp_loop_rounds 1 ?_;rw [rounds_succ]
        go_wp2
        go_ret
        exact ⟨ret_bool HE.out.symm,hbb⟩
      · rcases hyr with rfl | ⟨b',off',rfl,hlt',hr'⟩
        · have:xs=[]:=by simpa using HL.out
          subst this
          have HE:=Lib.hid (eqT_true (rfl:Tm.mk k s n []=Tm.mk k s n []))
          go_enter Tryz.func25,Tryz.ntmps25
          go_wp2
          refine wp_loop_rounds 1 ?_;rw [rounds_succ]
          go_wp2
          go_ret
          exact ⟨ret_bool HE.out.symm,hbb⟩
        · have HR:=Lib.hid hr
          have HR':=Lib.hid hr'
          clear hr hr'
          go_enter Tryz.func25,Tryz.ntmps25
          go_wp2
          go_loopw [37] (fun i wr=>∃ j:Nat,j≤xs.length∧i=.int .i64 j∧TmsTo xs ys j∧Below (w.heap.size + 2) ((w.alloc (.cells #[.int .i64 k,.string s,.int .i64 n,.slice (some ⟨b,off,none⟩) xs.length c] 70)).alloc (.cells #[.int .i64 k,.string s,.int .i64 n,.slice (some ⟨b',off',none⟩) ys.length c'] 70)) wr) (fun i _=>xs.length - (intOf i).toNat)
          case atStart=>exact ⟨0,Nat.zero_le _,rfl,(fun j _ _ hk=>by omega),Below.refl _ _⟩
          case round =>
            obtain ⟨j,hj,rfl,hal,hb⟩:=hrel
            have HA:=Lib.hid hal
            clear hal
            by_cases hj1:j < xs.length
            · have hj2:j < ys.length:=by have:=HL.out;omega
              have hi1:(j:Int) < (xs.length:Int):=by omega
              have hi2:(j:Int) < (ys.length:Int):=by omega
              have hwr:Below w.heap.size w wr:=hbb.trans (hb.mono (by omega))
              obtain ⟨u,hu,huk,d0,d1,d2,d3⟩:=tmAt_tv ((rowAt_get HR.out hj1).below hwr)
              obtain ⟨v,hv,hvk,g0,g1,g2,g3⟩:=tmAt_tv ((rowAt_get HR'.out hj2).below hwr)
              have p0:wr.cell? ⟨w.heap.size,3,none⟩=some (.slice (some ⟨b,off,none⟩) xs.length c):=by
                rw [hb.cell (p:=⟨w.heap.size,3,none⟩) (by show w.heap.size < _;omega)]
                exact ((box_new w _ _ _ _ _).below ((Below.refl _ _).alloc (Nat.le_refl _) _) (by simp)).c3
              have p1:wr.cell? ⟨w.heap.size + 1,3,none⟩=some (.slice (some ⟨b',off',none⟩) ys.length c'):=by
                rw [hb.cell (p:=⟨w.heap.size + 1,3,none⟩) (by show w.heap.size + 1 < _;omega)]
                exact (box_next (w.alloc _) _ (by simp) _ _ _ _ _).c3
              have C:=Lib.hid (fun w' (h:Below wr.heap.size wr w')=>IH.out u v w' (by rw [hu];exact HP.out j hj1) (huk.below h) (hvk.below h))
              have HU:=Lib.hid hu
              have HV:=Lib.hid hv
              clear hu hv huk hvk
              have hwz:=hb.size
              simp at hwz
              cases he:eqT u.t v.t with
              | true =>
                rw [he] at C
                have HE:=Lib.hid (eqT_iff.1 he)
                clear he
                go_wp2
                go_still_tail 10,(by kernel_rfl)
                go_wp2_with fail
                refine (C.out _ ((Below.refl _ _).drew)).mono ?_;rintro e w1 ⟨rfl,hb1⟩
                go_wp2_with fail
                go_roundw
                case rel=>exact ⟨j + 1,by omega,by go_num,HA.out.succ hj1 hj2 (HU.out.symm.trans (HE.out.trans HV.out)),(hb.drew).trans (hb1.mono (by show w.heap.size + 2≤wr.heap.size;omega))⟩
                case measure=>simp [intOf];omega
              | false =>
                rw [he] at C
                have HE:Hid (u.t≠v.t):=Lib.hid (fun e=>by rw [eqT_true e] at he;cases he)
                clear he
                go_wp2
                go_still_tail 10,(by kernel_rfl)
                go_wp2_with fail
                refine (C.out _ ((Below.refl _ _).drew)).mono ?_;rintro e w1 ⟨rfl,hb1⟩
                go_wp2_with fail
                go_ret
                refine ⟨ret_bool (Eq.symm (eqT_false fun e=>?_)),hwr.drew.trans (hb1.mono (by show w.heap.size≤wr.heap.size;omega))⟩
                have ea:=congrArg Tm.args e
                simp only [Tm.args] at ea
                subst ea
                exact HE.out (HU.out.trans HV.out.symm)
            · obtain rfl:j=xs.length:=by omega
              go_wp2
              go_ret
              have e:=HA.out.all HL.out
              exact ⟨ret_bool (eqT_true (by rw [e])).symm,hbb.trans (hb.mono (by omega))⟩
    · have h0:eqT (Tm.mk k s n xs) (Tm.mk k' s' n' ys)=false:=eqT_false fun e=>hne (by cases e;exact ⟨rfl,rfl,rfl,rfl⟩)
      have HE:=Lib.hid h0
      clear hne ih hpl hm h0
      rcases hw with hw | ⟨e0,hw | ⟨e1,hw | ⟨e2,hw⟩⟩⟩
      all_goals
        go_enter Tryz.func25,Tryz.ntmps25
        go_wp2
        go_ret
        exact ⟨ret_bool HE.out.symm,hbb⟩
end Go.Proofs.YtjcleokfpohpdaaGreatDoor
namespace Go.Proofs.YtjcleokfpohpdaaGreatDoor
open Go.RowKit
open Classical in
noncomputable def eqRl (x y:Rl):Bool:=decide (x=y)
open Classical in
noncomputable def eqRs (xs ys:List Rl):Bool:=decide (xs=ys)
theorem eqRl_true {x y:Rl} (h:x=y):eqRl x y=true:=by unfold eqRl;simpa using h
theorem eqRl_false {x y:Rl} (h:x≠y):eqRl x y=false:=by unfold eqRl;simpa using h
theorem eqRs_true {x y:List Rl} (h:x=y):eqRs x y=true:=by unfold eqRs;simpa using h
theorem eqRs_false {x y:List Rl} (h:x≠y):eqRs x y=false:=by unfold eqRs;simpa using h
theorem eqRl_two (x y:Rl):eqRl x y=(eqT x.1 y.1&&eqT x.2 y.2):=by
  obtain ⟨a,b⟩:=x
  obtain ⟨c,d⟩:=y
  by_cases h:a=c
  · by_cases k:b=d
    · rw [eqRl_true (by rw [h,k]),eqT_true h,eqT_true k];rfl
    · rw [eqRl_false (fun e=>k (congrArg Prod.snd e)),eqT_true h,eqT_false k];rfl
  · rw [eqRl_false (fun e=>h (congrArg Prod.fst e)),eqT_false h];rfl
theorem rule_box (w:World) (x y:Qv):Below w.heap.size w ((w.alloc (.cells x.cells.toArray 82)).alloc (.cells y.cells.toArray 82)):=((Below.refl _ _).alloc (Nat.le_refl _) _).alloc (by simp) _
theorem rule_cells (w:World) (x y:Qv) {W:World} (h:Below ((w.alloc (.cells x.cells.toArray 82)).alloc (.cells y.cells.toArray 82)).heap.size ((w.alloc (.cells x.cells.toArray 82)).alloc (.cells y.cells.toArray 82)) W):QvAt W w.heap.size 0 x∧QvAt W (w.heap.size + 1) 0 y:=by
  have h1:=(eight_box w x 82).below ((Below.refl _ _).alloc (Nat.le_refl _) (.cells y.cells.toArray 82))
  have h2:=eight_box (w.alloc (.cells x.cells.toArray 82)) y 82
  rw [show (w.alloc (.cells x.cells.toArray 82)).heap.size=w.heap.size + 1 from by simp] at h2
  exact ⟨h1.below h,h2.below h⟩
set_option maxRecDepth 100000 in
set_option maxHeartbeats 4000000 in
theorem rrule_any (x y:Qv) (w:World) (hx:x.ok w) (hy:y.ok w) :
    Calls Tryz.prog 74 #[x.val,y.val] w fun e w'=>e=.returned (.bool (eqRl x.rl y.rl))∧Below w.heap.size w w':=by
  rw [eqRl_two]
  have CL:=Lib.hid (fun (W:World) (hb:Below w.heap.size w W)=>same_tm x.l.t.parts x.l y.l W (Nat.le_refl _) (hx.1.below hb) (hy.1.below hb))
  have CR:=Lib.hid (fun (W:World) (hb:Below w.heap.size w W)=>same_tm x.r.t.parts x.r y.r W (Nat.le_refl _) (hx.2.below hb) (hy.2.below hb))
  have HB:=Lib.hid (rule_box w x y)
  have HC:=Lib.hid (fun (W:World) h=>rule_cells w x y (W:=W) h)
  unfold Qv.rl Qv.val
  unfold Qv.cells at HB HC
  unfold Tv.val at CL CR
  simp only at ⊢
  obtain ⟨b1,h1⟩:∃ b,eqT x.l.t y.l.t=b:=⟨_,rfl⟩
  obtain ⟨b2,h2⟩:∃ b,eqT x.r.t y.r.t=b:=⟨_,rfl⟩
  rw [h1] at CL ⊢
  rw [h2] at CR ⊢
  clear hx hy h1 h2
  cases b1 with
  | false =>
    clear CR
    go_enter Tryz.func74,Tryz.ntmps74
    go_wp2_with fail
    refine (CL.out _ HB.out).mono ?_;rintro e w1 ⟨rfl,hb1⟩
    have HB1:=Lib.hid (below_next HB.out hb1)
    clear hb1
    go_wp2_with fail
    go_ret
    exact ⟨rfl,HB1.out⟩
  | true =>
    go_enter Tryz.func74,Tryz.ntmps74
    go_wp2_with fail
    refine (CL.out _ HB.out).mono ?_;rintro e w1 ⟨rfl,hb1⟩
    obtain ⟨⟨p0,p1,p2,p3,p4,p5,p6,p7⟩,⟨q0,q1,q2,q3,q4,q5,q6,q7⟩⟩:=HC.out w1 hb1
    have HB1:=Lib.hid (below_next HB.out hb1)
    clear hb1
    go_wp2_with fail
    refine (CR.out _ HB1.out).mono ?_;rintro e w2 ⟨rfl,hb2⟩
    have HB2:=Lib.hid (below_next HB1.out hb2)
    clear hb2
    go_wp2_with fail
    go_ret
    exact ⟨rfl,HB2.out⟩
set_option maxRecDepth 100000 in
set_option maxHeartbeats 4000000 in
theorem rrules_any (va vb:Value) (xs ys:List Rl) (w:World) (hx:Rls w va xs) (hy:Rls w vb ys) :
    Calls Tryz.prog 37 #[va,vb] w fun e w'=>e=.returned (.bool (eqRs xs ys))∧Below w.heap.size w w':=by
  obtain ⟨a,c,rfl,⟨hal,_⟩,hxo⟩:=hx
  obtain ⟨a',c',rfl,⟨hbl,_⟩,hyo⟩:=hy
  by_cases hlen:xs.length=ys.length
  · have hq:((xs.length:Int) != (ys.length:Int))=false:=by rw [hlen];simp
    have HXO:=Lib.hid hxo
    have HYO:=Lib.hid hyo
    have HLEN:=Lib.hid hlen
    clear hxo hyo hlen
    go_enter Tryz.func37,Tryz.ntmps37
    go_wp2_with fail
    go_loopw [13] (fun i wr=>∃ j:Nat,j≤xs.length∧i=.int .i64 j∧Hid (xs.take j=ys.take j)∧Below w.heap.size w wr) (fun i _=>xs.length - (intOf i).toNat)
    case atStart=>exact ⟨0,Nat.zero_le _,rfl,Lib.hid rfl,Below.refl _ _⟩
    case round =>
      obtain ⟨j,hj,rfl,HBE,hb⟩:=hrel
      have HB:=Lib.hid hb
      by_cases hj1:j < xs.length
      · have hj2:j < ys.length:=by have:=HLEN.out;omega
        have hi1:(j:Int) < (xs.length:Int):=by omega
        have hi2:(j:Int) < (ys.length:Int):=by omega
        have hi0:(0:Int)≤(j:Int):=by omega
        rcases HXO.out with h | ⟨b,o,rfl,hlt,hX⟩
        · rw [h] at hj1;cases hj1
        rcases HYO.out with h | ⟨b',o',rfl,hlt',hY⟩
        · rw [h] at hj2;cases hj2
        obtain ⟨x,hxt,hxk,hxa⟩:=rlAt_qv (hX j _ (List.getElem?_eq_getElem hj1))
        obtain ⟨y,hyt,hyk,hya⟩:=rlAt_qv (hY j _ (List.getElem?_eq_getElem hj2))
        obtain ⟨m0,m1,m2,m3,m4,m5,m6,m7⟩:=hxa.below hb
        obtain ⟨k0,k1,k2,k3,k4,k5,k6,k7⟩:=hya.below hb
        have hxw:=hxa.below hb
        have hyw:=hya.below hb
        have CC:=fun (W:World) (h:Below wr.heap.size wr W)=>rrule_any x y W ((hxk.below hb).below h) ((hyk.below hb).below h)
        obtain ⟨bb,hbb⟩:∃ bb,eqRl x.rl y.rl=bb:=⟨_,rfl⟩
        rw [hbb] at CC
        unfold Qv.val at CC
        have C:=Lib.hid (fun (W:World) (h:Below wr.heap.size wr W)=>(CC W h).mono fun e w' hh=>(show e=.returned (.bool bb)∧Below wr.heap.size wr w' from ⟨hh.1,below_next h hh.2⟩))
        have KEEP:=Lib.hid (fun (W:World) (h:Below wr.heap.size wr W)=>(show Below wr.heap.size wr W∧(W.cell? ⟨b,o + j * 8,none⟩=some (.int .i64 x.l.t.kind)∧W.cell? ⟨b,o + j * 8 + 1,none⟩=some (.string x.l.t.name)∧W.cell? ⟨b,o + j * 8 + 2,none⟩=some (.int .i64 x.l.t.n)∧W.cell? ⟨b,o + j * 8 + 3,none⟩=some (.slice x.l.a x.l.t.args.length x.l.c)∧W.cell? ⟨b,o + j * 8 + 4,none⟩=some (.int .i64 x.r.t.kind)∧W.cell? ⟨b,o + j * 8 + 5,none⟩=some (.string x.r.t.name)∧W.cell? ⟨b,o + j * 8 + 6,none⟩=some (.int .i64 x.r.t.n)∧W.cell? ⟨b,o + j * 8 + 7,none⟩=some (.slice x.r.a x.r.t.args.length x.r.c))∧(W.cell? ⟨b',o' + j * 8,none⟩=some (.int .i64 y.l.t.kind)∧W.cell? ⟨b',o' + j * 8 + 1,none⟩=some (.string y.l.t.name)∧W.cell? ⟨b',o' + j * 8 + 2,none⟩=some (.int .i64 y.l.t.n)∧W.cell? ⟨b',o' + j * 8 + 3,none⟩=some (.slice y.l.a y.l.t.args.length y.l.c)∧W.cell? ⟨b',o' + j * 8 + 4,none⟩=some (.int .i64 y.r.t.kind)∧W.cell? ⟨b',o' + j * 8 + 5,none⟩=some (.string y.r.t.name)∧W.cell? ⟨b',o' + j * 8 + 6,none⟩=some (.int .i64 y.r.t.n)∧W.cell? ⟨b',o' + j * 8 + 7,none⟩=some (.slice y.r.a y.r.t.args.length y.r.c)) from by
          obtain ⟨p0,p1,p2,p3,p4,p5,p6,p7⟩:=hxw.below h
          obtain ⟨q0,q1,q2,q3,q4,q5,q6,q7⟩:=hyw.below h
          exact ⟨h,⟨p0,p1,p2,p3,p4,p5,p6,p7⟩,⟨q0,q1,q2,q3,q4,q5,q6,q7⟩⟩))
        have D0:=Lib.hid ((Below.refl wr.heap.size wr).drew)
        have HXT:=Lib.hid hxt
        have HYT:=Lib.hid hyt
        have HBB:=Lib.hid hbb
        clear hxk hyk hxa hya hxt hyt hbb hX hY CC hxw hyw
        go_wp2_with fail
        go_region_held3 (fun W=>Below wr.heap.size wr W∧(W.cell? ⟨b,o + j * 8,none⟩=some (.int .i64 x.l.t.kind)∧W.cell? ⟨b,o + j * 8 + 1,none⟩=some (.string x.l.t.name)∧W.cell? ⟨b,o + j * 8 + 2,none⟩=some (.int .i64 x.l.t.n)∧W.cell? ⟨b,o + j * 8 + 3,none⟩=some (.slice x.l.a x.l.t.args.length x.l.c)∧W.cell? ⟨b,o + j * 8 + 4,none⟩=some (.int .i64 x.r.t.kind)∧W.cell? ⟨b,o + j * 8 + 5,none⟩=some (.string x.r.t.name)∧W.cell? ⟨b,o + j * 8 + 6,none⟩=some (.int .i64 x.r.t.n)∧W.cell? ⟨b,o + j * 8 + 7,none⟩=some (.slice x.r.a x.r.t.args.length x.r.c))∧(W.cell? ⟨b',o' + j * 8,none⟩=some (.int .i64 y.l.t.kind)∧W.cell? ⟨b',o' + j * 8 + 1,none⟩=some (.string y.l.t.name)∧W.cell? ⟨b',o' + j * 8 + 2,none⟩=some (.int .i64 y.l.t.n)∧W.cell? ⟨b',o' + j * 8 + 3,none⟩=some (.slice y.l.a y.l.t.args.length y.l.c)∧W.cell? ⟨b',o' + j * 8 + 4,none⟩=some (.int .i64 y.r.t.kind)∧W.cell? ⟨b',o' + j * 8 + 5,none⟩=some (.string y.r.t.name)∧W.cell? ⟨b',o' + j * 8 + 6,none⟩=some (.int .i64 y.r.t.n)∧W.cell? ⟨b',o' + j * 8 + 7,none⟩=some (.slice y.r.a y.r.t.args.length y.r.c))) (first | exact KEEP.out _ (by with_reducible assumption) | exact KEEP.out _ D0.out)
          ((first
            | (go_at_call 74;(with_reducible refine (C.out _ D0.out).mono ?_);rintro e w2 ⟨rfl,hb2⟩)))
        have HB2:=Lib.hid (below_next HB.out hb2)
        clear hb2
        cases bb with
        | true =>
          go_wp2_with fail
          go_roundw
          case rel =>
            have he:xs[j]=ys[j]:=by
              have:=HBB.out;unfold eqRl at this;rw [HXT.out,HYT.out] at this;simpa using this
            exact ⟨j + 1,by omega,by go_num,Lib.hid (by rw [List.take_succ_eq_append_getElem hj1,List.take_succ_eq_append_getElem hj2,HBE.out,he]),HB2.out⟩
          case measure=>simp [intOf];omega
        | false =>
          have HF:=Lib.hid (eqRs_false (x:=xs) (y:=ys) (fun e=>by
            subst e
            have:=HBB.out
            rw [eqRl_true (by rw [HXT.out,HYT.out])] at this
            cases this))
          go_wp2_with fail
          go_ret
          exact ⟨ret_bool HF.out.symm,HB2.out⟩
      · obtain rfl:j=xs.length:=by omega
        have hi1:decide ((xs.length:Int) < (xs.length:Int))=false:=decide_eq_false (by omega)
        have HT:=Lib.hid (eqRs_true (x:=xs) (y:=ys) (by have h:=HBE.out;rw [List.take_length,HLEN.out,List.take_length] at h;exact h))
        go_wp2_with fail
        go_ret
        exact ⟨ret_bool HT.out.symm,HB.out⟩
  · have hq:((xs.length:Int) != (ys.length:Int))=true:=by simp;omega
    have HF:=Lib.hid (eqRs_false (x:=xs) (y:=ys) (fun e=>hlen (by rw [e])))
    clear hxo hyo hlen
    go_enter Tryz.func37,Tryz.ntmps37
    go_wp2_with fail
    go_ret
    exact ⟨ret_bool HF.out.symm,Below.refl _ _⟩
end Go.Proofs.YtjcleokfpohpdaaGreatDoor
namespace Go.Proofs.YtjcleokfpohpdaaGreatDoor
open Go.RowKit
def ShortFn (fs:List Fn) (k:Nat):Prop:=∀ (j:Nat) x,j < k→fs[j]? = some x→shortFn x=true
theorem ShortFn.succ {fs:List Fn} {k:Nat} {x:Fn} (h:ShortFn fs k) (hk:fs[k]? = some x) (hx:shortFn x=true):ShortFn fs (k + 1):=fun j y hj hy=>by
  by_cases e:j=k
  · subst e;rw [hk] at hy;rw [← Option.some.inj hy];exact hx
  · exact h j y (by omega) hy
theorem ShortFn.all {fs:List Fn} (h:ShortFn fs fs.length):decide ((fs.length:Int)≤60)=fewF fs:=by
  unfold fewF
  have:fs.all shortFn=true:=by
    rw [List.all_eq_true]
    intro x hx
    obtain ⟨j,hj,rfl⟩:=List.getElem_of_mem hx
    exact h j _ hj (List.getElem?_eq_getElem hj)
  rw [this,Bool.and_true]
  by_cases hl:fs.length≤60
  · rw [decide_eq_true hl,decide_eq_true (by omega)]
  · rw [decide_eq_false hl,decide_eq_false (by omega)]
theorem shortFn_bad {fs:List Fn} {k:Nat} {x:Fn} (hk:fs[k]? = some x) (hb:shortFn x=false):fewF fs=false:=by
  unfold fewF
  have:fs.all shortFn=false:=by
    rw [List.all_eq_false]
    exact ⟨x,List.mem_of_getElem? hk,by rw [hb];simp⟩
  rw [this,Bool.and_false]
set_option maxRecDepth 100000 in
set_option maxHeartbeats 1000000 in
theorem rfewf_any (v:Value) (fs:List Fn) (w:World) (hv:Fus w v fs) :
    Calls Tryz.prog 75 #[v] w fun e w'=>e=.returned (.bool (fewF fs))∧Below w.heap.size w w':=by
  obtain ⟨a,c,rfl,hl,hrow⟩:=hv
  have HR:=Lib.hid hrow
  clear hrow
  go_enter Tryz.func75,Tryz.ntmps75
  go_wp2_with fail
  go_loopw [7] (fun i wr=>∃ k:Nat,k≤fs.length∧i=.int .i64 k∧Hid (ShortFn fs k)∧Below w.heap.size w wr) (fun i _=>fs.length - (intOf i).toNat)
  case atStart=>exact ⟨0,Nat.zero_le _,rfl,Lib.hid (fun j x hj=>by omega),Below.refl _ _⟩
  case round =>
    obtain ⟨k,hk,rfl,HN,hb⟩:=hrel
    by_cases hkl:k < fs.length
    · obtain ⟨b,o,rfl,hlt,hat⟩:=HR.out.resolve_left (by intro h;rw [h] at hkl;simp at hkl)
      obtain ⟨x,hx⟩:∃ x,fs[k]? = some x:=⟨_,List.getElem?_eq_getElem hkl⟩
      have hA:=hat k x hx
      have m0:=(hb.cell (p:=⟨b,o + k * 2,none⟩) hlt).trans hA.c0
      have m1:=(hb.cell (p:=⟨b,o + k * 2 + 1,none⟩) hlt).trans hA.c1
      have hsz:=hA.ok.size
      have hk0:(0:Int)≤(k:Int):=by omega
      have hk1:(k:Int) < (fs.length:Int):=by omega
      have HX:=Lib.hid hx
      clear hat hx hA
      obtain ⟨xs,xn⟩:=x
      simp only at m0 m1 hsz
      rcases Int.lt_or_le 100 (xs.size:Int) with h1 | h1
      · have hd:decide ((100:Int) < (xs.size:Int))=true:=decide_eq_true h1
        have HG:=Lib.hid (shortFn_bad HX.out (by unfold shortFn;show decide (xs.size≤100)=false;exact decide_eq_false (by omega)))
        go_wp2_with fail
        go_ret
        exact ⟨ret_bool HG.out.symm,hb.alloc hb.size _⟩
      · have hd:decide ((100:Int) < (xs.size:Int))=false:=decide_eq_false (by omega)
        have HNN:=Lib.hid (HN.out.succ HX.out (by unfold shortFn;show decide (xs.size≤100)=true;exact decide_eq_true (by omega)))
        go_wp2_with fail
        go_roundw
        case rel=>exact ⟨k + 1,by omega,by go_num,HNN,hb.alloc hb.size _⟩
        case measure=>simp [intOf];omega
    · have hke:k=fs.length:=by omega
      have HG:=Lib.hid (show decide ((fs.length:Int)≤60)=fewF fs from (show ShortFn fs fs.length by have h:=HN.out;rw [hke] at h;exact h).all)
      clear hke
      go_wp2_with fail
      go_ret
      exact ⟨ret_bool HG.out,hb⟩
noncomputable def eqF (cs bs:List Fn):Bool:=@decide (cs=bs) (Classical.propDecidable _)
theorem eqF_yes {cs bs:List Fn} (h:cs=bs):eqF cs bs=true:=@decide_eq_true _ (Classical.propDecidable _) h
theorem eqF_no {cs bs:List Fn} (h:cs≠bs):eqF cs bs=false:=@decide_eq_false _ (Classical.propDecidable _) h
theorem takeF_succ {cs bs:List Fn} {k:Nat} {x y:Fn} (h:cs.take k=bs.take k) (hx:cs[k]? = some x) (hy:bs[k]? = some y) (e:x=y):cs.take (k + 1)=bs.take (k + 1):=by
  obtain ⟨h1,rfl⟩:=List.getElem?_eq_some_iff.1 hx
  obtain ⟨h2,rfl⟩:=List.getElem?_eq_some_iff.1 hy
  rw [List.take_succ_eq_append_getElem h1,List.take_succ_eq_append_getElem h2,h,e]
theorem neF_at {cs bs:List Fn} {k:Nat} {x y:Fn} (hx:cs[k]? = some x) (hy:bs[k]? = some y) (e:x≠y):cs≠bs:=fun h=>by
  subst h;rw [hx] at hy;exact e (Option.some.inj hy)
set_option maxRecDepth 100000 in
set_option maxHeartbeats 1000000 in
theorem rsamef_any (va vb:Value) (cs bs:List Fn) (w:World) (ha:Fus w va cs) (hb:Fus w vb bs) :
    Calls Tryz.prog 36 #[va,vb] w fun e w'=>e=.returned (.bool (eqF cs bs))∧Below w.heap.size w w':=by
  obtain ⟨aa,ca,rfl,hla,hra⟩:=ha
  obtain ⟨ab,cb,rfl,hlb,hrb⟩:=hb
  have HA:=Lib.hid hra
  have HB:=Lib.hid hrb
  clear hra hrb
  by_cases hl:cs.length=bs.length
  · have hln:((cs.length:Int) != (bs.length:Int))=false:=by rw [hl];simp
    have HL:=Lib.hid hl
    clear hl
    go_enter Tryz.func36,Tryz.ntmps36
    go_wp2_with fail
    go_loopw [13] (fun i wr=>∃ q:Nat,q≤cs.length∧i=.int .i64 q∧Hid (cs.take q=bs.take q)∧Below w.heap.size w wr) (fun i _=>cs.length - (intOf i).toNat)
    case atStart=>exact ⟨0,Nat.zero_le _,rfl,Lib.hid rfl,Below.refl _ _⟩
    case round =>
      obtain ⟨q,hq,rfl,HT,hb⟩:=hrel
      have hbs:=hb.size
      by_cases hql:q < cs.length
      · have hqb:q < bs.length:=by have:=HL.out;omega
        obtain ⟨b1,o1,rfl,hlt1,hat1⟩:=HA.out.resolve_left (by intro h;rw [h] at hql;simp at hql)
        obtain ⟨b2,o2,rfl,hlt2,hat2⟩:=HB.out.resolve_left (by intro h;rw [h] at hqb;simp at hqb)
        obtain ⟨x,hx⟩:∃ x,cs[q]? = some x:=⟨_,List.getElem?_eq_getElem hql⟩
        obtain ⟨y,hy⟩:∃ y,bs[q]? = some y:=⟨_,List.getElem?_eq_getElem hqb⟩
        have hA:=hat1 q x hx
        have hB:=hat2 q y hy
        have m0:=(hb.cell (p:=⟨b1,o1 + q * 2,none⟩) hlt1).trans hA.c0
        have m1:=(hb.cell (p:=⟨b1,o1 + q * 2 + 1,none⟩) hlt1).trans hA.c1
        have n0:=(hb.cell (p:=⟨b2,o2 + q * 2,none⟩) hlt2).trans hB.c0
        have n1:=(hb.cell (p:=⟨b2,o2 + q * 2 + 1,none⟩) hlt2).trans hB.c1
        have HNX:=Lib.hid (fun (e:x=y)=>takeF_succ HT.out hx hy e)
        have HNE:=Lib.hid (fun (e:x≠y)=>neF_at hx hy e)
        have hk0:(0:Int)≤(q:Int):=by omega
        have hk1:(q:Int) < (cs.length:Int):=by omega
        have hk2:(q:Int) < (bs.length:Int):=by omega
        obtain ⟨xs,xn⟩:=x
        obtain ⟨ys,yn⟩:=y
        simp only at m0 m1 n0 n1
        have HXY:=Lib.hid (show (xs,xn)=(ys,yn) ↔ ((xs.toList==ys.toList)=true∧(xn==yn)=true) by rw [toList_iff,beq_iff_eq,Prod.mk.injEq])
        have HBW:=Lib.hid hb
        clear hat1 hat2 hx hy hA hB hb
        cases he:(xs.toList==ys.toList) with
        | false =>
          have HG:=Lib.hid (eqF_no (HNE.out (fun e=>by have:=HXY.out.1 e;rw [he] at this;cases this.1)))
          go_wp2_with fail
          go_region
          go_wp2_with fail
          go_ret
          exact ⟨ret_bool HG.out.symm,below_drewN HBW.out _⟩
        | true =>
          cases hn:(xn==yn) with
          | false =>
            have hnn:(xn != yn)=true:=by rw [bne,hn];rfl
            have HG:=Lib.hid (eqF_no (HNE.out (fun e=>by have:=HXY.out.1 e;rw [hn] at this;cases this.2)))
            go_wp2_with fail
            go_region
            go_wp2_with fail
            go_ret
            exact ⟨ret_bool HG.out.symm,below_drewN HBW.out _⟩
          | true =>
            have hnn:(xn != yn)=false:=by rw [bne,hn];rfl
            have HG:=Lib.hid (HNX.out (HXY.out.2 ⟨he,hn⟩))
            go_wp2_with fail
            go_region
            go_wp2_with fail
            go_roundw
            case rel=>exact ⟨q + 1,by omega,by go_num,HG,below_drewN HBW.out _⟩
            case measure=>simp [intOf];omega
      · have hqe:q=cs.length:=by omega
        have HG:=Lib.hid (show eqF cs bs=true from eqF_yes (by have h:=HT.out;rw [hqe,List.take_length,HL.out,List.take_length] at h;exact h))
        clear hqe
        go_wp2_with fail
        go_ret
        exact ⟨ret_bool HG.out.symm,hb⟩
  · have hln:((cs.length:Int) != (bs.length:Int))=true:=by simp;omega
    have HG:=Lib.hid (eqF_no (cs:=cs) (bs:=bs) (fun e=>hl (by rw [e])))
    go_enter Tryz.func36,Tryz.ntmps36
    go_wp2_with fail
    go_ret
    exact ⟨ret_bool HG.out.symm,Below.refl _ _⟩
end Go.Proofs.YtjcleokfpohpdaaGreatDoor
namespace Go.Proofs.YtjcleokfpohpdaaGreatDoor
open Go.RowKit
theorem thy_box (w:World) (a b a' b':Value):Below w.heap.size w ((w.alloc (.cells #[a,b] 26)).alloc (.cells #[a',b'] 26)):=((Below.refl _ _).alloc (Nat.le_refl _) _).alloc (by simp) _
theorem thy_cells (w:World) (a b a' b':Value) {W:World} (h:Below ((w.alloc (.cells #[a,b] 26)).alloc (.cells #[a',b'] 26)).heap.size ((w.alloc (.cells #[a,b] 26)).alloc (.cells #[a',b'] 26)) W) :
    W.cell? ⟨w.heap.size,1,none⟩=some b∧W.cell? ⟨w.heap.size + 1,1,none⟩=some b':=by
  have h1:=World.cell?_alloc_mark w #[a,b] 26 (0,0) 1
  have h2:=World.cell?_alloc_mark (w.alloc (.cells #[a,b] 26)) #[a',b'] 26 (0,0) 1
  rw [show (w.alloc (.cells #[a,b] 26)).heap.size=w.heap.size + 1 from by simp] at h2
  refine ⟨(h.cell (p:=⟨w.heap.size,1,none⟩) (by simp;omega)).trans ?_,(h.cell (p:=⟨w.heap.size + 1,1,none⟩) (by simp)).trans h2⟩
  rw [World.cell?_alloc_lt _ _ _ (by simp)]
  exact h1
set_option maxRecDepth 100000 in
set_option maxHeartbeats 4000000 in
theorem rthy_any (x y:Yv) (w:World) (hx:x.ok w) (hy:y.ok w) :
    Calls Tryz.prog 44 #[x.val,y.val] w fun e w'=>e=.returned (.bool (eqF x.fs y.fs&&eqRs x.rs y.rs))∧Below w.heap.size w w':=by
  obtain ⟨vf,vr,fs,rs⟩:=x
  obtain ⟨vf',vr',fs',rs'⟩:=y
  obtain ⟨hf,hr⟩:=hx
  obtain ⟨hf',hr'⟩:=hy
  simp only at hf hr hf' hr'
  unfold Yv.val
  simp only
  have CF:=Lib.hid (fun (W:World) (hb:Below w.heap.size w W)=>rsamef_any vf vf' fs fs' W (hf.below hb) (hf'.below hb))
  have CR:=Lib.hid (fun (W:World) (hb:Below w.heap.size w W)=>rrules_any vr vr' rs rs' W (hr.below hb) (hr'.below hb))
  obtain ⟨a1,c1,rfl,_⟩:=hf
  obtain ⟨a2,c2,rfl,_⟩:=hf'
  obtain ⟨a3,c3,rfl,_⟩:=hr
  obtain ⟨a4,c4,rfl,_⟩:=hr'
  have HB:=Lib.hid (thy_box w (.slice a1 fs.length c1) (.slice a3 rs.length c3) (.slice a2 fs'.length c2) (.slice a4 rs'.length c4))
  have HC:=Lib.hid (fun (W:World) h=>thy_cells w (.slice a1 fs.length c1) (.slice a3 rs.length c3) (.slice a2 fs'.length c2) (.slice a4 rs'.length c4) (W:=W) h)
  obtain ⟨b1,h1⟩:∃ b,eqF fs fs'=b:=⟨_,rfl⟩
  obtain ⟨b2,h2⟩:∃ b,eqRs rs rs'=b:=⟨_,rfl⟩
  rw [h1] at CF ⊢
  rw [h2] at CR ⊢
  clear h1 h2
  cases b1 with
  | false =>
    clear CR
    go_enter Tryz.func44,Tryz.ntmps44
    go_wp2_with fail
    refine (CF.out _ HB.out).mono ?_;rintro e w1 ⟨rfl,hb1⟩
    have HB1:=Lib.hid (below_next HB.out hb1)
    clear hb1
    go_wp2_with fail
    go_ret
    exact ⟨rfl,HB1.out⟩
  | true =>
    go_enter Tryz.func44,Tryz.ntmps44
    go_wp2_with fail
    refine (CF.out _ HB.out).mono ?_;rintro e w1 ⟨rfl,hb1⟩
    obtain ⟨p1,q1⟩:=HC.out w1 hb1
    have HB1:=Lib.hid (below_next HB.out hb1)
    clear hb1
    go_wp2_with fail
    refine (CR.out _ HB1.out).mono ?_;rintro e w2 ⟨rfl,hb2⟩
    have HB2:=Lib.hid (below_next HB1.out hb2)
    clear hb2
    go_wp2_with fail
    go_ret
    exact ⟨rfl,HB2.out⟩
def shortRl (r:Rl):Bool:=withinB r.1 100&&withinB r.2 100
def fewT (fs:List Fn) (rs:List Rl):Bool:=fewF fs&&(decide ((rs.length:Int)≤30)&&rs.all shortRl)
def ShortRs (rs:List Rl) (k:Nat):Prop:=∀ j x,j < k→rs[j]? = some x→shortRl x=true
theorem ShortRs.succ {rs:List Rl} {k:Nat} {x:Rl} (h:ShortRs rs k) (hk:rs[k]? = some x) (hx:shortRl x=true):ShortRs rs (k + 1):=fun j y hj hy=>by
  rcases Nat.lt_or_ge j k with h1 | h1
  · exact h j y h1 hy
  · have:j=k:=by omega
    subst this
    rw [hk] at hy;rw [← Option.some.inj hy];exact hx
theorem ShortRs.all {rs:List Rl} (h:ShortRs rs rs.length):rs.all shortRl=true:=by
  rw [List.all_eq_true]
  intro x hx
  obtain ⟨j,hj,e⟩:=List.getElem_of_mem hx
  exact h j x hj (by rw [List.getElem?_eq_getElem hj,e])
theorem shortRs_bad {rs:List Rl} {k:Nat} {x:Rl} (hk:rs[k]? = some x) (hb:shortRl x=false):rs.all shortRl=false:=by
  rw [← Bool.not_eq_true,List.all_eq_true]
  intro h
  obtain ⟨hl,rfl⟩:=List.getElem?_eq_some_iff.1 hk
  rw [h _ (List.getElem_mem hl)] at hb;cases hb
end Go.Proofs.YtjcleokfpohpdaaGreatDoor
namespace Go.Proofs.YtjcleokfpohpdaaGreatDoor
open Go.RowKit
def UsePost (fs:List Fn) (rs:List Rl) (s:ByteArray) (w:World) (e:Ending) (w':World):Prop :=
  ∃ z:Yv,e=.returned (.tuple #[z.val,.int .i64 (useS fs rs s).1])∧z.fs=(useS fs rs s).2.1∧z.rs=(useS fs rs s).2.2∧z.ok w'∧Below w.heap.size w w'
structure ModY (fs:List Fn) (rs:List Rl):Prop where
  funs:ModF fs
  parts:∀ r ∈ rs,r.1.parts≤10000∧r.2.parts≤10000
  len:rs.length≤1000
theorem modY_few {fs:List Fn} {rs:List Rl} (h:fewT fs rs=true):ModY fs rs:=by
  unfold fewT at h
  simp only [Bool.and_eq_true,decide_eq_true_eq,List.all_eq_true] at h
  obtain ⟨h1,h2,h3⟩:=h
  refine ⟨modF_few h1,fun r hr=>?_,by omega⟩
  have:=h3 r hr
  unfold shortRl at this
  rw [Bool.and_eq_true] at this
  have a:=within_parts this.1
  have b:=within_parts this.2
  exact ⟨by omega,by omega⟩
theorem fns_short:(allFns.all fun f=>decide (f.1.size≤1000))=true:=by kernel_rfl
theorem rls_short:(allRls.all fun r=>decide (r.1.parts≤10000)&&decide (r.2.parts≤10000))=true:=by kernel_rfl
theorem modY_ent {s:ByteArray} (h:s ∈ libN):ModY (entF s) (entR s):=by
  obtain ⟨h1,h2⟩:=ent_sub s h
  obtain ⟨o1,o2⟩:=ent_once s h
  refine ⟨⟨by have:=fns_few o1 h1;omega,fun f hf=>by simpa using List.all_eq_true.1 fns_short f (h1 f hf)⟩,fun r hr=>?_,by have:=rls_few o2 h2;omega⟩
  have:=List.all_eq_true.1 rls_short r (h2 r hr)
  simpa using this
theorem modY_rch {ns:List ByteArray} {fs:List Fn} {rs:List Rl} (h:Rch ns fs rs):ModY fs rs:=by
  refine ⟨⟨by have:=fns_few h.onceF h.subF;omega,fun f hf=>by simpa using List.all_eq_true.1 fns_short f (h.subF f hf)⟩,fun r hr=>?_,by have:=rls_few h.onceR h.subR;omega⟩
  have:=List.all_eq_true.1 rls_short r (h.subR r hr)
  simpa using this
theorem useS_none {fs:List Fn} {rs:List Rl} {s:ByteArray} (h:isEnt s=false):useS fs rs s=(9,[],[]):=by unfold useS;rw [if_pos h]
theorem useS_bad {fs:List Fn} {rs:List Rl} {s:ByteArray} (h:isEnt s=true) (he:joinE fs (entF s)≠0):useS fs rs s=(joinE fs (entF s),[],[]):=by unfold useS;rw [if_neg (by rw [h];decide),if_pos he]
theorem useS_long {fs:List Fn} {rs:List Rl} {s:ByteArray} (h:isEnt s=true) (he:joinE fs (entF s)=0) (hl:24 < (newR rs (entR s)).length):useS fs rs s=(3,[],[]):=by unfold useS;rw [if_neg (by rw [h];decide),if_neg (fun q=>q he),if_pos hl]
theorem useS_ok {fs:List Fn} {rs:List Rl} {s:ByteArray} (h:isEnt s=true) (he:joinE fs (entF s)=0) (hl:¬ 24 < (newR rs (entR s)).length):useS fs rs s=(0,joinL fs (entF s),newR rs (entR s)):=by unfold useS;rw [if_neg (by rw [h];decide),if_neg (fun q=>q he),if_neg hl]
theorem zero_thy (w:World):Yv.ok w ⟨.slice none 0 0,.slice none 0 0,[],[]⟩:=⟨Fus.none_ _ _ _,Rls.none_ _ _ _⟩
end Go.Proofs.YtjcleokfpohpdaaGreatDoor
