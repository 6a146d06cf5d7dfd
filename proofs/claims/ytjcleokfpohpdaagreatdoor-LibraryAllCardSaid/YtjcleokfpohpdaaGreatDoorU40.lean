/-
  A tree as a term, by the reference of layer 11: Plain.
  A primitive's functions and rules, by the reference of layer 12: Get.
-/
import Derived.Test.YtjcleokfpohpdaaGreatDoorU39
import Derived.Test.YtjcleokfpohpdaaGreatDoorU06
import Derived.Test.YtjcleokfpohpdaaGreatDoorU05
import Derived.Maps.AppendAt
import Derived.Deep.AppendLies
import Derived.Test.YtjcleokfpohpdaaGreatDoorU34
import Derived.Test.YtjcleokfpohpdaaGreatDoorU09
import Derived.Test.YtjcleokfpohpdaaGreatDoorU11
import Derived.Test.YtjcleokfpohpdaaGreatDoorU08
namespace Go.Proofs.YtjcleokfpohpdaaGreatDoor
open Go.RowKit
theorem plainR_eq (t:Tr):plainR t=.mk t.kind (if t.kind=1∨t.kind=5 then t.text else ⟨#[]⟩) (if t.kind=3∨t.kind=4 then t.n else 0) (t.args.map plainR):=by
  cases t;rw [plainR,plainRs_map];rfl
theorem plain_take_succ {xs:List Tr} {j:Nat} (h:j < xs.length):(xs.take (j + 1)).map plainR=(xs.take j).map plainR ++ [plainR xs[j]]:=by
  rw [List.take_succ_eq_append_getElem h,List.map_append];rfl
theorem kind_ways (k:Int):(k=1∧(k==1)=true)∨(k=5∧(k==1)=false∧(k==5)=true)∨(k=3∧(k==1)=false∧(k==5)=false∧(k==3)=true)∨(k=4∧(k==1)=false∧(k==5)=false∧(k==3)=false∧(k==4)=true)∨((k≠1∧k≠5∧k≠3∧k≠4)∧(k==1)=false∧(k==5)=false∧(k==3)=false∧(k==4)=false):=by
  simp only [beq_iff_eq,beq_eq_false_iff_ne]
  omega
set_option maxRecDepth 100000 in
set_option maxHeartbeats 4000000 in
theorem rplain_tm (w0:World) (m:Nat):∀ (x:Rv) (w:World),x.t.parts≤m→m≤2300000000000→x.ok w0→Reads w0 w →
    Calls Tryz.prog 73 #[x.val] w (MadePost (plainR x.t) w0 w):=by
  induction m with
  | zero=>intro x w h;have:=trParts_pos x.t;omega
  | succ m ih =>
    intro x w hm hm1 hx hb0
    obtain ⟨t,ax,cx⟩:=x
    have hz1:(w.alloc (.cells #[.int .i64 t.kind,.string t.text,.int .i64 t.n,.int .i64 t.spot,.slice ax t.args.length cx] 51)).heap.size=w.heap.size + 1:=by simp
    have hB2:Below w.heap.size w ((w.alloc (.cells #[.int .i64 t.kind,.string t.text,.int .i64 t.n,.int .i64 t.spot,.slice ax t.args.length cx] 51)).alloc (.cells #[.int .i64 0,.string ⟨#[]⟩,.int .i64 0,.slice none 0 0] 70)):=((Below.refl _ _).alloc (Nat.le_refl _) _).alloc (by rw [hz1];omega) _
    obtain ⟨wz,hwz⟩:∃ wz,wz=((w.alloc (.cells #[.int .i64 t.kind,.string t.text,.int .i64 t.n,.int .i64 t.spot,.slice ax t.args.length cx] 51)).alloc (.cells #[.int .i64 0,.string ⟨#[]⟩,.int .i64 0,.slice none 0 0] 70)):=⟨_,rfl⟩
    have hzs:wz.heap.size=w.heap.size + 2:=by rw [hwz];simp
    have bX:=(box5_new w (.int .i64 t.kind) (.string t.text) (.int .i64 t.n) (.int .i64 t.spot) (.slice ax t.args.length cx) 51).below ((Below.refl _ _).alloc (Nat.le_refl _) (.cells #[.int .i64 0,.string ⟨#[]⟩,.int .i64 0,.slice none 0 0] 70)) (by rw [hz1];omega)
    have bR:=box_new (w.alloc (.cells #[.int .i64 t.kind,.string t.text,.int .i64 t.n,.int .i64 t.spot,.slice ax t.args.length cx] 51)) (.int .i64 0) (.string ⟨#[]⟩) (.int .i64 0) (.slice none 0 0) 70
    rw [hz1] at bR
    rw [← hwz] at bX bR hB2
    have hargs:t.args.length≤2300000000000:=by have:=partsR_length t.args;have:=trParts_eq t;simp only at hm;omega
    have hpl:∀ j (h:j < t.args.length),t.args[j].parts≤m:=fun j h=>by have:=partsR_get t.args h;have:=trParts_eq t;simp only at hm;omega
    obtain ⟨i0,hi0,hiz0,his0,hib0⟩:=info_parts termInfo
    have HX:=Lib.hid hx
    have HB0:=Lib.hid hb0
    have HBX:=Lib.hid (fun (V:World) (h:Below wz.heap.size wz V)=>bX.below h (by omega))
    have HBR:=Lib.hid (fun (V:World) (h:Below wz.heap.size wz V)=>bR.below h (by omega))
    have HBZ:=Lib.hid hB2
    have HZS:=Lib.hid hzs
    have IH:=Lib.hid ih
    have HPL:=Lib.hid hpl
    have E0:=Lib.hid (Below.refl wz.heap.size wz)
    obtain ⟨p0,p1,p2,p3,p4,_,_,_,_,_⟩:=HBX.out wz E0.out
    clear bX bR hB2 hzs hx hb0 hz1 ih hpl
    simp only [Rv.val] at *
    go_enter Tryz.func73,Tryz.ntmps73
    go_wp2_with fail
    rw [← hwz]
    clear hwz
    go_loopw [3,11] (fun o k wr=>∃ (q:Nat) (vs:List Tv),q≤t.args.length∧k=.int .i64 q∧Hid (vs.map Tv.t=(t.args.take q).map plainR)∧vs.length=q∧Hid (∀ z ∈ vs,Beside w0 wz wr o z)∧Hid (wr.ownsRow wz.heap.size 70 4 o q (rowTv vs))∧Hid (Below wz.heap.size wz wr)) (fun _ k _=>t.args.length - (intOf k).toNat)
    case atStart=>exact ⟨0,[],Nat.zero_le _,rfl,Lib.hid (by simp),rfl,Lib.hid (fun _ h=>nomatch h),Lib.hid (World.ownsRow_nil _ _ _ _),E0⟩
    case round =>
      obtain ⟨q,vs,hq,rfl,HVT,hvl,HVB,HOWN,HBW⟩:=hrel
      have hbs:=HBW.out.size
      have hB0w:=HB0.out.trans (reads_below (HBZ.out.trans (HBW.out.mono HBZ.out.size)))
      by_cases hql:q < t.args.length
      · obtain ⟨b',o',rfl,hlt',hrow⟩:=HX.out.2.2.resolve_left (by intro h;simp only at h;rw [h] at hql;simp at hql)
        obtain ⟨y,hyt,hyo,hy⟩:=trAt_rv (rowRAt_get hrow hql)
        have m0:=hB0w.cell _ _ hy.c0
        have m1:=hB0w.cell _ _ hy.c1
        have m2:=hB0w.cell _ _ hy.c2
        have m3:=hB0w.cell _ _ hy.c3
        have m4:=hB0w.cell _ _ hy.c4
        obtain ⟨zt,za,zc⟩:=y
        simp only at hyt hyo m0 m1 m2 m3 m4
        have hwx:Below wr.heap.size wr (wr.alloc (.cells #[.int .i64 zt.kind,.string zt.text,.int .i64 zt.n,.int .i64 zt.spot,.slice za zt.args.length zc] 51)):=(Below.refl _ _).alloc (Nat.le_refl _) _
        have hzx:(wr.alloc (.cells #[.int .i64 zt.kind,.string zt.text,.int .i64 zt.n,.int .i64 zt.spot,.slice za zt.args.length zc] 51)).heap.size=wr.heap.size + 1:=by simp
        have C:=IH.out ⟨zt,za,zc⟩ (wr.alloc (.cells #[.int .i64 zt.kind,.string zt.text,.int .i64 zt.n,.int .i64 zt.spot,.slice za zt.args.length zc] 51)) (by simp only;rw [hyt];exact HPL.out q hql) (by omega) hyo (hB0w.trans (reads_below hwx))
        have HC:=Lib.hid C
        have HTS:=Lib.hid (show (t.args.take (q + 1)).map plainR=(t.args.take q).map plainR ++ [plainR zt] by rw [plain_take_succ hql,hyt])
        have hq0:(0:Int)≤(q:Int):=by omega
        have hq1:(q:Int) < (t.args.length:Int):=by omega
        have hq5:(q:Int)≤2300000000000:=by omega
        have hmm:q + 1≤maxLen:=by unfold maxLen;omega
        have hmb:(q + 1) * 56≤140737488355328:=by omega
        have hol:∀ g,u3.ownBlock=some g→g < wr.heap.size:=fun g e=>(HOWN.out.lt g e).2
        have HOL:=Lib.hid hol
        have HZX:=Lib.hid hzx
        clear hyt hyo hy hrow C hol hwx hzx
        go_wp2_with fail
        refine HC.out.mono ?_;rintro e w4 ⟨⟨ty,aY,cY⟩,rfl,hzt,hzf,hb4⟩
        replace hb4:=below_box hb4
        have hbA:=hb4.alloc hb4.size (.cells #[.int .i64 ty.kind,.string ty.name,.int .i64 ty.n,.slice aY ty.args.length cY] 70)
        have hownA:=own_below HOWN.out hbA
        have hbB:=beside_fresh (w:=wz) hzf (by rw [HZX.out];omega) (fun g e=>by rw [HZX.out];have:=HOL.out g e;omega)
        have HBB:=Lib.hid hbB
        have HAA:=Lib.hid hbA
        have HVT2:=Lib.hid (show (vs ++ [(⟨ty,aY,cY⟩:Tv)]).map Tv.t=(t.args.take (q + 1)).map plainR by rw [List.map_append,HVT.out,HTS.out];exact congrArg (fun x=>_ ++ [x]) hzt)
        have HN1:=Lib.hid (World.news_of_block (heap_alloc_new w4 (.cells #[.int .i64 ty.kind,.string ty.name,.int .i64 ty.n,.slice aY ty.args.length cY] 70)))
        have HO1:=Lib.hid (fun (x:Value) (hx:x ∈ [Value.int .i64 ty.kind,.string ty.name,.int .i64 ty.n,.slice aY ty.args.length cY])=>(show x.oneCell'=true from rowTv_one' [⟨ty,aY,cY⟩] x (by rw [rowTv_one];exact hx)))
        have hsz:wz.heap.size≤(w4.alloc (.cells #[.int .i64 ty.kind,.string ty.name,.int .i64 ty.n,.slice aY ty.args.length cY] 70)).heap.size:=by have h2:=hbA.size;omega
        clear hzt hzf hb4 hbA hbB m0 m1 m2 m3 m4
        simp only [Tv.val]
        go_wp2_with (at_builtin;refine wpList_append_own_at _ rfl _ _ 63 rfl wz.heap.size 70 i0 (.agg #[.int .i64 0,.string ⟨#[]⟩,.int .i64 0,.slice none 0 0]) 4 56 Tryz.underlying63 hi0 hiz0 his0 hib0 rfl (by decide) _ q (rowTv vs) rfl hownA ⟨w4.heap.size,0,none⟩ 1 1 [.int .i64 ty.kind,.string ty.name,.int .i64 ty.n,.slice aY ty.args.length cY] rfl rfl HN1.out HO1.out hmm hmb hsz ?_;intro v5 w5 hown5 hg5 _ hat5)
        go_roundw
        case rel =>
          have hb5:Below wz.heap.size wz w5:=(HBW.out.trans (HAA.out.mono hbs)).grown hg5 hsz (fun y e=>(hownA.lt y e).1)
          have hAB:Below w4.heap.size w4 (w4.alloc (.cells #[.int .i64 ty.kind,.string ty.name,.int .i64 ty.n,.slice aY ty.args.length cY] 70)):=(Below.refl _ _).alloc (Nat.le_refl _) _
          have hall:∀ x ∈ vs ++ [(⟨ty,aY,cY⟩:Tv)],Beside w0 wz w5 v5 x:=fun x hx=>by
            rcases List.mem_append.1 hx with hx | hx
            · exact ((HVB.out x hx).below HAA.out).grown hg5 hat5
            · rw [List.mem_singleton] at hx
              subst hx
              exact (HBB.out.below hAB).grown hg5 hat5
          have hrow:w5.ownsRow wz.heap.size 70 4 v5 (q + 1) (rowTv (vs ++ [(⟨ty,aY,cY⟩:Tv)])):=by rw [rowTv_append,rowTv_one];exact hown5
          exact ⟨q + 1,vs ++ [(⟨ty,aY,cY⟩:Tv)],by omega,by go_num,Lib.hid HVT2.out,by rw [List.length_append,hvl];rfl,Lib.hid hall,Lib.hid hrow,Lib.hid hb5⟩
        case measure=>simp [intOf];omega
      · have hqe:q=t.args.length:=by omega
        have hqd:decide ((q:Int) < (t.args.length:Int))=false:=decide_eq_false (by omega)
        have hql1:t.args.length≤q:=by omega
        have hvt:vs.map Tv.t=t.args.map plainR:=by
          have h:=HVT.out
          rw [List.take_of_length_le hql1] at h
          exact h
        have hown:=HOWN.out
        rw [hqe] at hown
        have hform:∃ a7 c7,u3=.slice a7 t.args.length c7:=by
          rcases hown.2 with ⟨h,h0⟩ | ⟨g',cap',cur,h,_⟩
          · exact ⟨none,0,by rw [h,h0]⟩
          · exact ⟨_,cap',h⟩
        obtain ⟨a7,c7,rfl⟩:=hform
        have HOWNE:=Lib.hid hown
        have HVTE:=Lib.hid hvt
        obtain ⟨p0,p1,p2,p3,p4,_,_,_,_,_⟩:=HBX.out wr HBW.out
        have HEQ:=Lib.hid (plainR_eq t)
        clear hqe hown hvt HVT HOWN
        have HF:=Lib.hid HX.out.1
        rcases kind_ways t.kind with ⟨hk,k1⟩ | ⟨hk,k1,k5⟩ | ⟨hk,k1,k5,k3⟩ | ⟨hk,k1,k5,k3,k4⟩ | ⟨⟨hk1,hk5,hk3,hk4⟩,k1,k5,k3,k4⟩
        · have k5:(t.kind==5)=false:=by rw [hk];rfl
          have k3:(t.kind==3)=false:=by rw [hk];rfl
          have k4:(t.kind==4)=false:=by rw [hk];rfl
          have HEE:=Lib.hid (show plainR t=.mk t.kind (t.text) (0) (t.args.map plainR) by rw [HEQ.out,if_pos (by omega),if_neg (by omega)])
          clear hk
          clear HEQ
          go_wp2_with fail
          refine (of_any _ _ _ _ _ _ _).mono ?_;rintro e w5 ⟨rfl,hb5⟩
          have hbR:=HBR.out w5 (below_next HBW.out hb5)
          have BR8:=Lib.hid (hbR.sets (.int .i64 t.kind) (.string (t.text)) (.int .i64 0) (.slice a7 t.args.length c7))
          obtain ⟨q0,q1,q2,q3,f0,f1,f2,f3⟩:=hbR
          have HB5:=Lib.hid hb5
          clear hb5 p0 p1 p2 p3 p4
          go_wp2_with fail
          obtain ⟨q0,q1,q2,q3,f0,f1,f2,f3⟩:=BR8.out
          refine bodyPost_ret (v:=.agg #[.int .i64 t.kind,.string (t.text),.int .i64 0,.slice a7 t.args.length c7]) (by simp [results,Tryz.results73,go_sem,q0,q1,q2,q3]) rfl ?_
          rw [HEE.out]
          exact made_box (by rw [List.length_map]) HVTE.out ⟨HF.out.klo,HF.out.khi,(by decide),(by decide),HF.out.len⟩ (by omega) HOWNE.out HVB.out HBZ.out HBW.out HB5.out (by omega) (by rw [HZS.out];omega) _ _ _ _
        · have k3:(t.kind==3)=false:=by rw [hk];rfl
          have k4:(t.kind==4)=false:=by rw [hk];rfl
          have HEE:=Lib.hid (show plainR t=.mk t.kind (t.text) (0) (t.args.map plainR) by rw [HEQ.out,if_pos (by omega),if_neg (by omega)])
          clear hk
          clear HEQ
          go_wp2_with fail
          refine (of_any _ _ _ _ _ _ _).mono ?_;rintro e w5 ⟨rfl,hb5⟩
          have hbR:=HBR.out w5 (below_next HBW.out hb5)
          have BR8:=Lib.hid (hbR.sets (.int .i64 t.kind) (.string (t.text)) (.int .i64 0) (.slice a7 t.args.length c7))
          obtain ⟨q0,q1,q2,q3,f0,f1,f2,f3⟩:=hbR
          have HB5:=Lib.hid hb5
          clear hb5 p0 p1 p2 p3 p4
          go_wp2_with fail
          obtain ⟨q0,q1,q2,q3,f0,f1,f2,f3⟩:=BR8.out
          refine bodyPost_ret (v:=.agg #[.int .i64 t.kind,.string (t.text),.int .i64 0,.slice a7 t.args.length c7]) (by simp [results,Tryz.results73,go_sem,q0,q1,q2,q3]) rfl ?_
          rw [HEE.out]
          exact made_box (by rw [List.length_map]) HVTE.out ⟨HF.out.klo,HF.out.khi,(by decide),(by decide),HF.out.len⟩ (by omega) HOWNE.out HVB.out HBZ.out HBW.out HB5.out (by omega) (by rw [HZS.out];omega) _ _ _ _
        · have k4:(t.kind==4)=false:=by rw [hk];rfl
          have HEE:=Lib.hid (show plainR t=.mk t.kind (⟨#[]⟩) (t.n) (t.args.map plainR) by rw [HEQ.out,if_neg (by omega),if_pos (by omega)])
          clear hk
          clear HEQ
          go_wp2_with fail
          refine (of_any _ _ _ _ _ _ _).mono ?_;rintro e w5 ⟨rfl,hb5⟩
          have hbR:=HBR.out w5 (below_next HBW.out hb5)
          have BR8:=Lib.hid (hbR.sets (.int .i64 t.kind) (.string (⟨#[]⟩)) (.int .i64 t.n) (.slice a7 t.args.length c7))
          obtain ⟨q0,q1,q2,q3,f0,f1,f2,f3⟩:=hbR
          have HB5:=Lib.hid hb5
          clear hb5 p0 p1 p2 p3 p4
          go_wp2_with fail
          obtain ⟨q0,q1,q2,q3,f0,f1,f2,f3⟩:=BR8.out
          refine bodyPost_ret (v:=.agg #[.int .i64 t.kind,.string (⟨#[]⟩),.int .i64 t.n,.slice a7 t.args.length c7]) (by simp [results,Tryz.results73,go_sem,q0,q1,q2,q3]) rfl ?_
          rw [HEE.out]
          exact made_box (by rw [List.length_map]) HVTE.out ⟨HF.out.klo,HF.out.khi,HF.out.nlo,HF.out.nhi,(by decide)⟩ (by omega) HOWNE.out HVB.out HBZ.out HBW.out HB5.out (by omega) (by rw [HZS.out];omega) _ _ _ _
        · have HEE:=Lib.hid (show plainR t=.mk t.kind (⟨#[]⟩) (t.n) (t.args.map plainR) by rw [HEQ.out,if_neg (by omega),if_pos (by omega)])
          clear hk
          clear HEQ
          go_wp2_with fail
          refine (of_any _ _ _ _ _ _ _).mono ?_;rintro e w5 ⟨rfl,hb5⟩
          have hbR:=HBR.out w5 (below_next HBW.out hb5)
          have BR8:=Lib.hid (hbR.sets (.int .i64 t.kind) (.string (⟨#[]⟩)) (.int .i64 t.n) (.slice a7 t.args.length c7))
          obtain ⟨q0,q1,q2,q3,f0,f1,f2,f3⟩:=hbR
          have HB5:=Lib.hid hb5
          clear hb5 p0 p1 p2 p3 p4
          go_wp2_with fail
          obtain ⟨q0,q1,q2,q3,f0,f1,f2,f3⟩:=BR8.out
          refine bodyPost_ret (v:=.agg #[.int .i64 t.kind,.string (⟨#[]⟩),.int .i64 t.n,.slice a7 t.args.length c7]) (by simp [results,Tryz.results73,go_sem,q0,q1,q2,q3]) rfl ?_
          rw [HEE.out]
          exact made_box (by rw [List.length_map]) HVTE.out ⟨HF.out.klo,HF.out.khi,HF.out.nlo,HF.out.nhi,(by decide)⟩ (by omega) HOWNE.out HVB.out HBZ.out HBW.out HB5.out (by omega) (by rw [HZS.out];omega) _ _ _ _
        · have HEE:=Lib.hid (show plainR t=.mk t.kind ⟨#[]⟩ 0 (t.args.map plainR) by rw [HEQ.out,if_neg (by omega),if_neg (by omega)])
          clear hk1 hk5 hk3 hk4
          clear HEQ
          go_wp2_with fail
          refine (of_any _ _ _ _ _ _ _).mono ?_;rintro e w5 ⟨rfl,hb5⟩
          have hbR:=HBR.out w5 (below_next HBW.out hb5)
          have BR8:=Lib.hid (hbR.sets (.int .i64 t.kind) (.string (⟨#[]⟩)) (.int .i64 0) (.slice a7 t.args.length c7))
          obtain ⟨q0,q1,q2,q3,f0,f1,f2,f3⟩:=hbR
          have HB5:=Lib.hid hb5
          clear hb5 p0 p1 p2 p3 p4
          go_wp2_with fail
          obtain ⟨q0,q1,q2,q3,f0,f1,f2,f3⟩:=BR8.out
          refine bodyPost_ret (v:=.agg #[.int .i64 t.kind,.string (⟨#[]⟩),.int .i64 0,.slice a7 t.args.length c7]) (by simp [results,Tryz.results73,go_sem,q0,q1,q2,q3]) rfl ?_
          rw [HEE.out]
          exact made_box (by rw [List.length_map]) HVTE.out ⟨HF.out.klo,HF.out.khi,(by decide),(by decide),(by decide)⟩ (by omega) HOWNE.out HVB.out HBZ.out HBW.out HB5.out (by omega) (by rw [HZS.out];omega) _ _ _ _
end Go.Proofs.YtjcleokfpohpdaaGreatDoor
namespace Go.Proofs.YtjcleokfpohpdaaGreatDoor
open Go.RowKit
def RGetPost (s:ByteArray) (w:World) (e:Ending) (w':World):Prop :=
  ∃ vf vr,e=.returned (.tuple #[vf,vr,.bool (isEnt s)])∧Fus w' vf (entF s)∧Rls w' vr (entR s)∧Below w.heap.size w w'
theorem ent_none {s:ByteArray} (h:libT s=⟨#[]⟩):entF s=[]∧entR s=[]:=by
  unfold entF entR
  rw [h]
  exact ⟨by kernel_rfl,by kernel_rfl⟩
set_option maxRecDepth 100000 in
set_option maxHeartbeats 1000000 in
theorem rget12_any (s:ByteArray) (w:World) :
    Calls Tryz.prog 35 #[.string s] w (RGetPost s w):=by
  have TX:=Lib.hid (fun (W:World)=>rtext12_any s W)
  have LR:=lib_right s
  have EN:=@ent_none s
  unfold RGetPost isEnt
  unfold entF entR at EN ⊢
  obtain ⟨t,ht⟩:∃ t,libT s=t:=⟨_,rfl⟩
  rw [ht] at TX LR EN ⊢
  clear ht
  cases hz:t.toList.isEmpty with
  | true =>
    obtain ⟨e1,e2⟩:=EN (by have h0:t.toList=(⟨#[]⟩:ByteArray).toList:=(List.isEmpty_iff.1 hz).trans (by kernel_rfl);exact toList_iff.1 (by rw [h0];exact beq_self_eq_true _))
    rw [e1,e2]
    go_enter Tryz.func35,Tryz.ntmps35
    go_wp2_with fail
    refine (TX.out _).mono ?_;rintro e w1 ⟨rfl,rfl⟩
    go_wp2_with fail
    go_ret3
    exact ⟨_,_,rfl,Fus.none_ _ _ _,Rls.none_ _ _ _,Below.refl _ _⟩
  | false =>
    have PS:=Lib.hid (fun (W:World)=>rparse_any t (by have:=LR.size;omega) W)
    unfold ParsePost at PS
    obtain ⟨⟨pe,pa,xs⟩,hps⟩:∃ p,parseS t=p:=⟨_,rfl⟩
    have hall:=LR.all
    have hlen:=LR.len
    rw [hps] at PS hall hlen ⊢
    simp only at PS hall hlen ⊢
    clear LR EN hps
    go_enter Tryz.func35,Tryz.ntmps35
    go_wp2_with fail
    refine (TX.out _).mono ?_;rintro e w1 ⟨rfl,rfl⟩
    go_wp2_with fail
    refine (PS.out _).mono ?_;rintro e w2 ⟨v,rfl,hv,hb2⟩
    obtain ⟨a,c,rfl,⟨hl1,hl2⟩,hit⟩:=hv
    have HB2:=Lib.hid hb2
    have HX:=Lib.hid (fun (j:Nat) (hj:j < xs.length)=>(show ∃ b o,a=some ⟨b,o,none⟩∧∃ y:Iv,y.it=xs[j]∧y.ok w2∧IvAt w2 b (o + j * 4) y from by
      rcases hit with h | ⟨b,o,ha,hlt,h⟩
      · rw [h] at hj;cases hj
      · obtain ⟨y,h1,h2,h3⟩:=h j hj
        exact ⟨b,o,ha,y,h1,h2,h3⟩))
    have HALL:=Lib.hid hall
    clear hit hall hb2
    have hl3:(xs.length:Int)≤20:=by omega
    go_wp2_with fail
    go_loopw [9,10,25] (fun vf vr i wr=>∃ (k:Nat),i=.int .i64 k∧k≤xs.length∧Ent w2 wr (fun _=>False) 140 82 w2.heap.size vf (itemF (xs.take k)) vr (itemR (xs.take k))∧Below w2.heap.size w2 wr) (fun _ _ i _=>xs.length - (intOf i).toNat)
    case atStart=>exact ⟨0,rfl,Nat.zero_le _,ent_nil _ _ _ _ _ _,Below.refl _ _⟩
    case round =>
      obtain ⟨k,rfl,hk,hen,hb⟩:=hrel
      by_cases hk1:k < xs.length
      · have hk2:(k:Int) < (xs.length:Int):=by omega
        have hk0:(0:Int)≤(k:Int):=by omega
        obtain ⟨b,o,rfl,y,hy1,hy2,hy3⟩:=HX.out k hk1
        obtain ⟨m0,m1,m2,m3⟩:=hy3.below hb
        obtain ⟨⟨key,spot,ws,ls⟩,vw,vt⟩:=y
        have hok:=HALL.out _ (List.getElem_mem hk1)
        have hF:=itemF_snoc (xs.take k) xs[k]
        have hR:=itemR_snoc (xs.take k) xs[k]
        rw [← List.take_succ_eq_append_getElem hk1,← hy1] at hF hR
        rw [← hy1] at hok
        simp only at m0 m1 m2 m3 hF hR
        have hW:=hy2.words
        have hT:=hy2.trees
        simp only at hW hT
        obtain ⟨aw,cw,rfl,⟨hwl1,hwl2⟩,hwr⟩:=hW
        obtain ⟨at_,ct,rfl,⟨htl1,htl2⟩,htr⟩:=hT
        have hbox:=box_new wr (.string key) (.int .i64 spot) (.slice aw ws.length cw) (.slice at_ ls.length ct) 53
        have hen1:=hen.below ((Below.refl _ _).alloc (Nat.le_refl _) (.cells #[.string key,.int .i64 spot,.slice aw ws.length cw,.slice at_ ls.length ct] 53))
        have hb1:=hb.alloc hb.size (.cells #[.string key,.int .i64 spot,.slice aw ws.length cw,.slice at_ ls.length ct] 53)
        have hsz1:(wr.alloc (.cells #[.string key,.int .i64 spot,.slice aw ws.length cw,.slice at_ ls.length ct] 53)).heap.size=wr.heap.size + 1:=by simp
        cases hkey:(key.toList==[102,117,110]) with
        | true =>
          have h2:=okI_fun hok (by rw [show (⟨#[102,117,110]⟩:ByteArray).toList=[102,117,110] from by kernel_rfl];exact hkey)
          simp only at h2
          obtain ⟨t0,t1,ws',hcons⟩:∃ t0 t1 ws',ws=t0 :: t1 :: ws':=by
            match ws,h2 with
            | [],h=>exact absurd h (by simp)
            | [_],h=>exact absurd h (by simp)
            | t0 :: t1 :: r,_=>exact ⟨t0,t1,r,rfl⟩
          rcases hwr with h | ⟨b1,o1,rfl,hlt1,hwr⟩
          · rw [hcons] at h;cases h
          obtain ⟨v0,hv0,hk0',q0⟩:=trAt_rv (rowRAt_get hwr (j:=0) (by omega))
          obtain ⟨v1,hv1,hk1',q1⟩:=trAt_rv (rowRAt_get hwr (j:=1) (by omega))
          simp only [hcons,List.getElem_cons_zero,List.getElem_cons_succ] at hv0 hv1
          subst hv0 hv1
          have hf1:FnOk (v0.t.text,v1.t.n):=⟨hk0'.1.len,hk1'.1.nlo,hk1'.1.nhi⟩
          have hF2:itemF (xs.take (k + 1))=itemF (xs.take k) ++ [(v0.t.text,v1.t.n)]:=by
            rw [hF,if_pos (by rw [show (⟨#[102,117,110]⟩:ByteArray).toList=[102,117,110] from by kernel_rfl];exact hkey),hcons];rfl
          have hR2:itemR (xs.take (k + 1))=itemR (xs.take k):=by
            rw [hR,if_pos (by rw [show (⟨#[102,117,110]⟩:ByteArray).toList=[102,117,110] from by kernel_rfl];exact hkey),List.append_nil]
          have hlF:(itemF (xs.take k)).length≤1000000:=by have:=itemF_le (xs.take k);rw [List.length_take] at this;omega
          obtain ⟨W1,hW1⟩:∃ W1,wr.alloc (.cells #[.string key,.int .i64 spot,.slice (some ⟨b1,o1,none⟩) ws.length cw,.slice at_ ls.length ct] 53)=W1:=⟨_,rfl⟩
          rw [hW1] at hbox hen1 hb1 hsz1
          have g0:=hbox.c0
          have hb1d:=hb1.drew
          obtain ⟨v',w5,hr,hent,⟨a',c',rfl⟩,hgrow,hge⟩:=add_fun (hen1.below (Below.refl _ _).drew) (v0.t.text,v1.t.n) hf1 hlF (fun k h=>h.elim) hb1d.size
          have ho:=hen.lt
          have hce:∀ W,W1.drew.grownBy W u9.ownBlock→W.cell? ⟨wr.heap.size,2,none⟩=some (.slice (some ⟨b1,o1,none⟩) ws.length cw)∧W.cell? ⟨b1,o1 + 1,none⟩=some (.string v0.t.text)∧W.cell? ⟨b1,o1 + 7,none⟩=some (.int .i64 v1.t.n):=fun W hW=>by
            have hx:∀ q,q < W1.heap.size→(∀ j,u9.ownBlock=some j→q≠j)→W.heap[q]? = W1.heap[q]? := fun q h1 h2=>hW.block q h1 (fun e=>h2 q e.symm rfl)
            have hblk:=hx wr.heap.size (by omega) (fun j hj=>by have:=(ho j (.inl hj)).2;omega)
            have hblk1:=hx b1 (by have:=hb1.size;omega) (fun j hj=>by have:=(ho j (.inl hj)).1;omega)
            refine ⟨(World.cell?_of_block hblk).trans hbox.c2,(World.cell?_of_block hblk1).trans ?_,(World.cell?_of_block hblk1).trans ?_⟩
            · have:=(q0.below hb1).c1
              simpa using this
            · have:=(q1.below hb1).c2
              rw [show o1 + 1 * 5 + 2=o1 + 7 from by omega] at this
              exact this
          have K0:=Lib.hid (hce _ ⟨rfl,rfl,rfl,Nat.le_refl _,fun _ _ _=>rfl⟩)
          have hdr:W1.drew.alloc (.cells #[.string v0.t.text,.int .i64 v1.t.n] 140)=(W1.alloc (.cells #[.string v0.t.text,.int .i64 v1.t.n] 140)).drew:=rfl
          have K1':=hce _ (World.grownBy_alloc W1.drew (.cells #[.string v0.t.text,.int .i64 v1.t.n] 140) _)
          rw [hdr] at K1' hr
          rw [show W1.drew.heap.size=wr.heap.size + 1 from hsz1] at hr
          have K1:=Lib.hid K1'
          have K2:=Lib.hid (hce _ hgrow)
          have HR:=Lib.hid hr
          have HE:=Lib.hid (And.intro hent (hb1d.grown hgrow hb1d.size hge))
          have hl2:(1:Int) < (ws.length:Int):=by omega
          have hl0:(0:Int) < (ws.length:Int):=by omega
          have hl9:0 < ws.length:=by omega
          clear K1' hdr hce hent hgrow hge hr ho hen1 hb1d hb1 hbox hF hR hcons
          go_wp2_with fail
          (try rw [hW1])
          clear hW1
          go_region_held3 (fun W=>W.cell? ⟨wr.heap.size,2,none⟩=some (.slice (some ⟨b1,o1,none⟩) ws.length cw)∧W.cell? ⟨b1,o1 + 1,none⟩=some (.string v0.t.text)∧W.cell? ⟨b1,o1 + 7,none⟩=some (.int .i64 v1.t.n))
            (first | exact K0.out | exact K1.out | exact K2.out)
            ((refine step_val (v:=.slice a' ((itemF (xs.take k)).length + 1) c') (w':=w5) rfl ?ex ?_;case ex=>(refine exec_append (x:=.tmp 32) (y:=.tmp 44) (v:=u9) (R:=23) (u:=.slice (some ⟨wr.heap.size + 1,0,none⟩) 1 1) rfl ?x1 ?x2 ?x3;(case x1=>rfl);(case x2=>rfl);(case x3=>exact HR.out))))
          go_wp2_with fail
          go_roundw
          case rel=>exact ⟨k + 1,by go_num,by omega,by rw [hF2,hR2];exact HE.out.1,HE.out.2⟩
          case measure=>simp [intOf];omega
        | false =>
          obtain ⟨h2,hp⟩:=okI_rule hok (by rw [show (⟨#[102,117,110]⟩:ByteArray).toList=[102,117,110] from by kernel_rfl];exact hkey)
          simp only at h2 hp
          obtain ⟨t0,t1,ls',hcons⟩:∃ t0 t1 ls',ls=t0 :: t1 :: ls':=by
            match ls,h2 with
            | [],h=>exact absurd h (by simp)
            | [_],h=>exact absurd h (by simp)
            | t0 :: t1 :: r,_=>exact ⟨t0,t1,r,rfl⟩
          rcases htr with h | ⟨b1,o1,rfl,hlt1,htr⟩
          · rw [hcons] at h;cases h
          obtain ⟨v0,hv0,hk0',q0⟩:=trAt_rv (rowRAt_get htr (j:=0) (by omega))
          obtain ⟨v1,hv1,hk1',q1⟩:=trAt_rv (rowRAt_get htr (j:=1) (by omega))
          simp only [hcons,List.getElem_cons_zero,List.getElem_cons_succ] at hv0 hv1
          subst hv0 hv1
          have hp0:=hp v0.t (by rw [hcons];exact List.mem_cons_self ..)
          have hp1:=hp v1.t (by rw [hcons];exact List.mem_cons_of_mem _ (List.mem_cons_self ..))
          have hF2:itemF (xs.take (k + 1))=itemF (xs.take k):=by
            rw [hF,if_neg (by rw [show (⟨#[102,117,110]⟩:ByteArray).toList=[102,117,110] from by kernel_rfl,hkey];decide),List.append_nil]
          have hR2:itemR (xs.take (k + 1))=itemR (xs.take k) ++ [(plainR v0.t,plainR v1.t)]:=by
            rw [hR,if_neg (by rw [show (⟨#[102,117,110]⟩:ByteArray).toList=[102,117,110] from by kernel_rfl,hkey];decide),hcons];rfl
          have hlR:(itemR (xs.take k)).length≤1000000:=by have:=itemR_le (xs.take k);rw [List.length_take] at this;omega
          obtain ⟨W1,hW1⟩:∃ W1,wr.alloc (.cells #[.string key,.int .i64 spot,.slice aw ws.length cw,.slice (some ⟨b1,o1,none⟩) ls.length ct] 53)=W1:=⟨_,rfl⟩
          rw [hW1] at hbox hen1 hb1 hsz1
          have g0:=hbox.c0
          have ho:=hen.lt
          have P0:=Lib.hid (fun (W:World) (h:Below w2.heap.size w2 W)=>rplain_tm w2 v0.t.parts v0 W (Nat.le_refl _) (by omega) hk0' (reads_below h))
          have P1:=Lib.hid (fun (W:World) (h:Below w2.heap.size w2 W)=>rplain_tm w2 v1.t.parts v1 W (Nat.le_refl _) (by omega) hk1' (reads_below h))
          unfold MadePost Rv.val at P0 P1
          have hce:∀ W,W1.grownBy W u10.ownBlock→W.cell? ⟨wr.heap.size,3,none⟩=some (.slice (some ⟨b1,o1,none⟩) ls.length ct) ∧
              (W.cell? ⟨b1,o1,none⟩=some (.int .i64 v0.t.kind)∧W.cell? ⟨b1,o1 + 1,none⟩=some (.string v0.t.text)∧W.cell? ⟨b1,o1 + 2,none⟩=some (.int .i64 v0.t.n)∧W.cell? ⟨b1,o1 + 3,none⟩=some (.int .i64 v0.t.spot)∧W.cell? ⟨b1,o1 + 4,none⟩=some (.slice v0.a v0.t.args.length v0.c)) ∧
              (W.cell? ⟨b1,o1 + 5,none⟩=some (.int .i64 v1.t.kind)∧W.cell? ⟨b1,o1 + 5 + 1,none⟩=some (.string v1.t.text)∧W.cell? ⟨b1,o1 + 5 + 2,none⟩=some (.int .i64 v1.t.n)∧W.cell? ⟨b1,o1 + 5 + 3,none⟩=some (.int .i64 v1.t.spot)∧W.cell? ⟨b1,o1 + 5 + 4,none⟩=some (.slice v1.a v1.t.args.length v1.c)) ∧
              W1.grownBy W u10.ownBlock:=fun W hW=>by
            have hx:∀ q,q < W1.heap.size→(∀ j,u10.ownBlock=some j→q≠j)→W.heap[q]? = W1.heap[q]? := fun q h1 h2=>hW.block q h1 (fun e=>h2 q e.symm rfl)
            have hblk:=hx wr.heap.size (by omega) (fun j hj=>by have:=(ho j (.inr hj)).2;omega)
            have hblk1:=hx b1 (by have:=hb1.size;omega) (fun j hj=>by have:=(ho j (.inr hj)).1;omega)
            obtain ⟨c0,c1,c2,c3,c4⟩:=q0.below hb1
            obtain ⟨d0,d1,d2,d3,d4⟩:=q1.below hb1
            simp only [Nat.zero_mul,Nat.add_zero,Nat.one_mul] at c0 c1 c2 c3 c4 d0 d1 d2 d3 d4
            exact ⟨(World.cell?_of_block hblk).trans hbox.c3,⟨(World.cell?_of_block hblk1).trans c0,(World.cell?_of_block hblk1).trans c1,(World.cell?_of_block hblk1).trans c2,(World.cell?_of_block hblk1).trans c3,(World.cell?_of_block hblk1).trans c4⟩,⟨(World.cell?_of_block hblk1).trans d0,(World.cell?_of_block hblk1).trans d1,(World.cell?_of_block hblk1).trans d2,(World.cell?_of_block hblk1).trans d3,(World.cell?_of_block hblk1).trans d4⟩,hW⟩
          have KP:=Lib.hid hce
          have hgd:W1.grownBy W1.drew u10.ownBlock:=⟨rfl,rfl,rfl,Nat.le_refl _,fun _ _ _=>rfl⟩
          have hge:=own_row_ge hen1.rul.choose_spec.2.2
          have HBW:=Lib.hid (fun (W:World) (h:W1.grownBy W u10.ownBlock)=>hb1.grown h hb1.size hge)
          have hgr:∀ {A B:World},Below A.heap.size A B→A.grownBy B u10.ownBlock:=fun h=>⟨h.os,h.tape,h.output,h.size,fun i hi _=>h.block i hi⟩
          have A0:=Lib.hid (fun (W:World) (h:W1.grownBy W u10.ownBlock)=>(P0.out W (HBW.out W h)).mono fun e w' hh=>(show ∃ (zk:Int) (zs:ByteArray) (zn:Int) (za:Option Addr) (zx:List Tm) (zc:Nat),e=.returned (.agg #[.int .i64 zk,.string zs,.int .i64 zn,.slice za zx.length zc])∧Tm.mk zk zs zn zx=plainR v0.t∧Fresh w2 W w' ⟨.mk zk zs zn zx,za,zc⟩∧Below W.heap.size W w'∧W1.grownBy w' u10.ownBlock from by
            obtain ⟨⟨⟨zk,zs,zn,zx⟩,za,zc⟩,e1,e2,e3,e4⟩:=hh
            exact ⟨zk,zs,zn,za,zx,zc,e1,e2,e3,e4,h.trans (hgr e4)⟩))
          have A1:=Lib.hid (fun (W:World) (h:W1.grownBy W u10.ownBlock)=>(P1.out W (HBW.out W h)).mono fun e w' hh=>(show ∃ (zk:Int) (zs:ByteArray) (zn:Int) (za:Option Addr) (zx:List Tm) (zc:Nat),e=.returned (.agg #[.int .i64 zk,.string zs,.int .i64 zn,.slice za zx.length zc])∧Tm.mk zk zs zn zx=plainR v1.t∧Fresh w2 W w' ⟨.mk zk zs zn zx,za,zc⟩∧Below W.heap.size W w'∧W1.grownBy w' u10.ownBlock from by
            obtain ⟨⟨⟨zk,zs,zn,zx⟩,za,zc⟩,e1,e2,e3,e4⟩:=hh
            exact ⟨zk,zs,zn,za,zx,zc,e1,e2,e3,e4,h.trans (hgr e4)⟩))
          have AP:=Lib.hid (fun (wA wB:World) (z0 z1:Tv) (h0:z0.t=plainR v0.t) (h1:z1.t=plainR v1.t) (f0:Fresh w2 W1.drew wA z0) (f1:Fresh w2 wA wB z1) (b0:Below W1.drew.heap.size W1.drew wA) (b1:Below wA.heap.size wA wB) (hg:W1.grownBy wB u10.ownBlock) =>
            (show ∃ (a':Option Addr) (c':Nat) (w5:World),(Builtin.append_ #[24,24] 24 #[u10,.slice (some ⟨wB.heap.size,0,none⟩) 1 1]).run Tryz.prog (wB.alloc (.cells (Qv.cells ⟨z0,z1⟩).toArray 82))=.ok (.slice a' ((itemR (xs.take k)).length + 1) c') w5∧(Ent w2 w5 (fun _=>False) 140 82 w2.heap.size u9 (itemF (xs.take (k + 1))) (.slice a' ((itemR (xs.take k)).length + 1) c') (itemR (xs.take (k + 1)))∧Below w2.heap.size w2 w5)∧W1.grownBy w5 u10.ownBlock∧W1.grownBy (wB.alloc (.cells (Qv.cells ⟨z0,z1⟩).toArray 82)) u10.ownBlock from by
              have hb2:Below W1.heap.size W1 wB:=below_next (below_next ((Below.refl _ _).drew) b0) b1
              have hB:=HBW.out wB hg
              have f0':Fresh w2 W1.drew wB z0:=fresh_wide f0 (Nat.le_refl _) b1.size (fun b q1 q2=>b1.block b q2)
              have f1':Fresh w2 W1.drew wB z1:=fresh_wide f1 b0.size (Nat.le_refl _) (fun _ _ _=>rfl)
              have hQ:LiveQ w2 wB (rowsZ (fun _=>False) u9 u10) w2.heap.size ⟨z0,z1⟩:=liveQ_made f0' f1' hb2.size hb1.size (fun q hq=>by
                rcases hq with hq | hq
                · have:=(ho q hq).2;show q < W1.heap.size;omega
                · exact hq.elim)
              obtain ⟨v',w5,hr,hent,⟨a',c',rfl⟩,hgrow,hge5⟩:=add_rule (hen1.below hb2) ⟨z0,z1⟩ hQ hlR (fun q h=>h.elim) hB.size
              have e2:(⟨z0,z1⟩:Qv).rl=(plainR v0.t,plainR v1.t):=by unfold Qv.rl;rw [h0,h1]
              rw [e2,← hR2] at hent
              rw [← hF2] at hent
              exact ⟨a',c',w5,hr,⟨hent,hB.grown hgrow hB.size hge5⟩,hg.trans hgrow,hg.trans (World.grownBy_alloc wB _ _)⟩))
          have K0:=Lib.hid (hce W1.drew ⟨rfl,rfl,rfl,Nat.le_refl _,fun _ _ _=>rfl⟩)
          have E1:=Lib.hid hen1
          have HB1:=Lib.hid hb1
          have hl2:(1:Int) < (ls.length:Int):=by omega
          have hl0:(0:Int) < (ls.length:Int):=by omega
          have hl9:0 < ls.length:=by omega
          clear hce ho hen1 hb1 hbox hF hR hp hcons
          go_wp2_with fail
          (try rw [hW1])
          clear hW1
          go_region_held3 (fun W=>W.cell? ⟨wr.heap.size,3,none⟩=some (.slice (some ⟨b1,o1,none⟩) ls.length ct) ∧
              (W.cell? ⟨b1,o1,none⟩=some (.int .i64 v0.t.kind)∧W.cell? ⟨b1,o1 + 1,none⟩=some (.string v0.t.text)∧W.cell? ⟨b1,o1 + 2,none⟩=some (.int .i64 v0.t.n)∧W.cell? ⟨b1,o1 + 3,none⟩=some (.int .i64 v0.t.spot)∧W.cell? ⟨b1,o1 + 4,none⟩=some (.slice v0.a v0.t.args.length v0.c)) ∧
              (W.cell? ⟨b1,o1 + 5,none⟩=some (.int .i64 v1.t.kind)∧W.cell? ⟨b1,o1 + 5 + 1,none⟩=some (.string v1.t.text)∧W.cell? ⟨b1,o1 + 5 + 2,none⟩=some (.int .i64 v1.t.n)∧W.cell? ⟨b1,o1 + 5 + 3,none⟩=some (.int .i64 v1.t.spot)∧W.cell? ⟨b1,o1 + 5 + 4,none⟩=some (.slice v1.a v1.t.args.length v1.c)) ∧
              W1.grownBy W u10.ownBlock)
            (first | exact K0.out | exact KP.out _ hg0 | exact KP.out _ hg1 | exact KP.out _ hg5.1 | exact KP.out _ hg5.2 | fail)
            (first
              | (have hq:=hr5;clear hq;refine step_val (v:=.slice a5 ((itemR (xs.take k)).length + 1) c5) (w':=w5) rfl ?ex ?_;case ex=>(refine exec_append (x:=.tmp 46) (y:=.tmp 58) (v:=u10) (R:=24) (u:=.slice (some ⟨wB.heap.size,0,none⟩) 1 1) rfl ?x1 ?x2 ?x3;(case x1=>rfl);(case x2=>rfl);(case x3=>exact HR.out)))
              | (have hq:=hg0;clear hq;go_at_call 73;refine (A1.out _ hg0).mono ?_;rintro e wB ⟨z1k,z1s,z1n,z1a,z1x,z1c,rfl,hz1,hf1,hb1,hg1⟩;obtain ⟨a5,c5,w5,hr5,he5,hg5⟩:=AP.out _ _ ⟨.mk z0k z0s z0n z0x,z0a,z0c⟩ ⟨.mk z1k z1s z1n z1x,z1a,z1c⟩ hz0 hz1 hf0 hf1 hb0 hb1 hg1;have HR:=Lib.hid hr5)
              | (go_at_call 73;refine (A0.out _ hgd).mono ?_;rintro e wA ⟨z0k,z0s,z0n,z0a,z0x,z0c,rfl,hz0,hf0,hb0,hg0⟩) | fail)
          go_wp2_with fail
          go_roundw
          case rel=>exact ⟨k + 1,by go_num,by omega,he5.1,he5.2⟩
          case measure=>simp [intOf];omega
      · go_wp2_with fail
        go_ret3
        rw [List.take_of_length_le (by omega)] at hen
        obtain ⟨r1,r2⟩:=hen.reads (reads_below hb) (by have:=itemF_le xs;omega) (by have:=itemR_le xs;omega)
        exact ⟨_,_,rfl,r1,r2,HB2.out.trans (hb.mono HB2.out.size)⟩
end Go.Proofs.YtjcleokfpohpdaaGreatDoor
