/-
  Binds put into a term, by the reference of layer 5: Apply.
  Terms that are made: Var of the reference of layer 3.
-/
import Derived.Test.YtjcleokfpohpdaaGreatDoorU41
import Derived.Test.YtjcleokfpohpdaaGreatDoorU08
import Derived.Test.YtjcleokfpohpdaaGreatDoorU39
import Derived.Maps.AppendAt
import Derived.Deep.AppendLies
namespace Go.Proofs.YtjcleokfpohpdaaGreatDoor
open Go.RowKit
set_option maxRecDepth 100000 in
set_option maxHeartbeats 4000000 in
theorem rapply_ok (bs:List Bn) (v:Value) (w0 wv:World) (hv:BdsOk w0 wv v bs) (h0v:Reads w0 wv) (m:Nat):∀ (x:Tv) (w:World),x.t.parts≤m→m≤2300000000000→x.ok w0→Below wv.heap.size wv w →
    Calls Tryz.prog 179 #[v,x.val] w (ApPost (appT bs x.t) w0 w):=by
  induction m with
  | zero=>intro x w h;have:=parts_pos x.t;omega
  | succ m ih =>
    intro x w hm hm1 hx hbv
    have hb0:Reads w0 w:=h0v.trans (reads_below hbv)
    have HBV:=Lib.hid hbv
    have GT:=Lib.hid (fun (s:ByteArray) (W:World) (h:Below w.heap.size w W)=>rget_ok v bs s w0 wv W hv (hbv.trans (h.mono hbv.size)))
    obtain ⟨t,ax,cx⟩:=x
    have hE:=appT_eq bs t
    have hz1:(w.alloc (.cells #[.int .i64 t.kind,.string t.name,.int .i64 t.n,.slice ax t.args.length cx] 70)).heap.size=w.heap.size + 1:=by simp
    have hB2:Below w.heap.size w ((w.alloc (.cells #[.int .i64 t.kind,.string t.name,.int .i64 t.n,.slice ax t.args.length cx] 70)).alloc (.cells #[.int .i64 0,.string ⟨#[]⟩,.int .i64 0,.slice none 0 0] 70)):=((Below.refl _ _).alloc (Nat.le_refl _) _).alloc (by rw [hz1];omega) _
    obtain ⟨wz,hwz⟩:∃ wz,wz=((w.alloc (.cells #[.int .i64 t.kind,.string t.name,.int .i64 t.n,.slice ax t.args.length cx] 70)).alloc (.cells #[.int .i64 0,.string ⟨#[]⟩,.int .i64 0,.slice none 0 0] 70)):=⟨_,rfl⟩
    have hzs:wz.heap.size=w.heap.size + 2:=by rw [hwz];simp
    have bX:=(box_new w (.int .i64 t.kind) (.string t.name) (.int .i64 t.n) (.slice ax t.args.length cx) 70).below ((Below.refl _ _).alloc (Nat.le_refl _) (.cells #[.int .i64 0,.string ⟨#[]⟩,.int .i64 0,.slice none 0 0] 70)) (by rw [hz1];omega)
    have bR:=box_new (w.alloc (.cells #[.int .i64 t.kind,.string t.name,.int .i64 t.n,.slice ax t.args.length cx] 70)) (.int .i64 0) (.string ⟨#[]⟩) (.int .i64 0) (.slice none 0 0) 70
    rw [hz1] at bR
    rw [← hwz] at bX bR hB2
    have hargs:t.args.length≤2300000000000:=by have:=partsL_length t.args;have:=parts_eq t;simp only at hm;omega
    have hpl:∀ j (h:j < t.args.length),t.args[j].parts≤m:=fun j h=>by have:=parts_arg t h;simp only at hm;omega
    obtain ⟨i0,hi0,hiz0,his0,hib0⟩:=info_parts termInfo
    have HX:=Lib.hid hx
    have HB0:=Lib.hid hb0
    have HBX:=Lib.hid (fun (V:World) (h:Below wz.heap.size wz V)=>bX.below h (by omega))
    have HBR:=Lib.hid (fun (V:World) (h:Below wz.heap.size wz V)=>bR.below h (by omega))
    have HBZ:=Lib.hid hB2
    have HZS:=Lib.hid hzs
    have HWZ:=Lib.hid hwz
    have HE:=Lib.hid hE
    have IH:=Lib.hid ih
    have HPL:=Lib.hid hpl
    obtain ⟨av,cv,rfl,hlv,hrv⟩:=hv
    have E0:=Lib.hid (Below.refl wz.heap.size wz)
    obtain ⟨p0,p1,p2,p3,_,_,_,_⟩:=HBX.out wz E0.out
    clear bX bR hB2 hzs hx hb0 hbv hz1 hE ih hpl hrv h0v
    simp only [Tv.val] at *
    have HBL:Hid (Below wz.heap.size wz wz):=E0
    by_cases hk:t.kind=1
    · have hkd:(t.kind==1)=true:=by rw [hk];rfl
      have hE1:=HE.out
      rw [if_pos hk] at hE1
      have HK:=Lib.hid hk
      clear hk
      obtain ⟨po,hpo⟩:∃ po,getB bs t.name=po:=⟨_,rfl⟩
      have G:=GT.out t.name wz HBZ.out
      rw [hpo] at G hE1
      have HG:=Lib.hid G
      have HE1:=Lib.hid hE1
      clear G hE1 hpo
      go_enter Tryz.func179,Tryz.ntmps179
      go_wp2_with fail
      rw [← hwz]
      clear hwz
      refine HG.out.mono ?_;rintro e w1 ⟨⟨ty,aY,cY⟩,he,hyt,hyo,hb1⟩
      obtain rfl:=he
      have HYT:=Lib.hid hyt
      have HYO:=Lib.hid hyo
      have hb2:=hb1.alloc hb1.size (.cells #[.int .i64 ty.kind,.string ty.name,.int .i64 ty.n,.slice aY ty.args.length cY] 70)
      have HBL2:=Lib.hid hb2
      have hzw:=HZS.out
      simp only [Tv.val]
      cases po with
      | some u =>
        have hbR:=HBR.out _ hb2
        have BR8:=Lib.hid (hbR.sets (.int .i64 ty.kind) (.string ty.name) (.int .i64 ty.n) (.slice aY ty.args.length cY))
        obtain ⟨q0,q1,q2,q3,f0,f1,f2,f3⟩:=hbR
        have hwe:Below w.heap.size w (w1.alloc (.cells #[.int .i64 ty.kind,.string ty.name,.int .i64 ty.n,.slice aY ty.args.length cY] 70)):=HBZ.out.trans (hb2.mono HBZ.out.size)
        have HWE:=Lib.hid hwe
        clear hyt hyo hb1 hb2 hwe p0 p1 p2 p3
        go_wp2_with fail
        obtain ⟨q0,q1,q2,q3,f0,f1,f2,f3⟩:=BR8.out
        refine bodyPost_ret (v:=.agg #[.int .i64 ty.kind,.string ty.name,.int .i64 ty.n,.slice aY ty.args.length cY]) (by simp [results,Tryz.results179,go_sem,q0,q1,q2,q3]) rfl ?_
        exact ⟨⟨ty,aY,cY⟩,rfl,HYT.out.trans HE1.out.symm,fresh_old HYO.out,below_sets HWE.out (by omega) _ _ _ _⟩
      | none =>
        have HEE:=Lib.hid (show appT bs t=.mk t.kind t.name t.n (t.args.map (appT bs)) from HE1.out)
        obtain ⟨p0,p1,p2,p3,_,_,_,_⟩:=HBX.out _ hb2
        clear hyt hyo hb1 hb2
        replace HBL:=HBL2
        go_wp2_with fail
        go_loopw [7,24] (fun o k wr=>∃ (q:Nat) (vs:List Tv),q≤t.args.length∧k=.int .i64 q∧Hid (vs.map Tv.t=(t.args.take q).map (appT bs))∧vs.length=q∧Hid (∀ z ∈ vs,Beside w0 wz wr o z)∧Hid (wr.ownsRow wz.heap.size 70 4 o q (rowTv vs))∧Hid (Below wz.heap.size wz wr)) (fun _ k _=>t.args.length - (intOf k).toNat)
        case atStart=>exact ⟨0,[],Nat.zero_le _,rfl,Lib.hid (by simp),rfl,Lib.hid (fun _ h=>nomatch h),Lib.hid (World.ownsRow_nil _ _ _ _),HBL⟩
        case round =>
          obtain ⟨q,vs,hq,rfl,HVT,hvl,HVB,HOWN,HBW⟩:=hrel
          have hbs:=HBW.out.size
          have hB0w:=HB0.out.trans (reads_below (HBZ.out.trans (HBW.out.mono HBZ.out.size)))
          by_cases hql:q < t.args.length
          · obtain ⟨b',o',rfl,hlt',hrow⟩:=HX.out.2.2.resolve_left (by intro h;simp only at h;rw [h] at hql;simp at hql)
            obtain ⟨y,hyt,hyo,hy⟩:=tmAt_tv (rowAt_get hrow hql)
            obtain ⟨m0,m1,m2,m3⟩:TvAt wr b' (o' + q * 4) y:=⟨hB0w.cell _ _ hy.c0,hB0w.cell _ _ hy.c1,hB0w.cell _ _ hy.c2,hB0w.cell _ _ hy.c3⟩
            obtain ⟨zt,za,zc⟩:=y
            simp only at hyt hyo m0 m1 m2 m3
            have C:=IH.out ⟨zt,za,zc⟩ wr (by simp only;rw [hyt];exact HPL.out q hql) (by omega) hyo (HBV.out.trans ((HBZ.out.trans (HBW.out.mono HBZ.out.size)).mono HBV.out.size))
            have HC:=Lib.hid C
            have HTS:=Lib.hid (show (t.args.take (q + 1)).map (appT bs)=(t.args.take q).map (appT bs) ++ [appT bs zt] by rw [map_take_succ bs hql,hyt])
            obtain ⟨p0,p1,p2,p3,_,_,_,_⟩:=HBX.out wr HBW.out
            have hq0:(0:Int)≤(q:Int):=by omega
            have hq1:(q:Int) < (t.args.length:Int):=by omega
            have hq5:(q:Int)≤2300000000000:=by omega
            have hmm:q + 1≤maxLen:=by unfold maxLen;omega
            have hmb:(q + 1) * 56≤140737488355328:=by omega
            have hol:∀ g,u7.ownBlock=some g→g < wr.heap.size:=fun g e=>(HOWN.out.lt g e).2
            have HOL:=Lib.hid hol
            clear hyt hyo hy hrow C hol
            go_wp2_with fail
            refine HC.out.mono ?_;rintro e w4 ⟨⟨ty,aY,cY⟩,rfl,hzt,hzf,hb4⟩
            have hbA:=hb4.alloc hb4.size (.cells #[.int .i64 ty.kind,.string ty.name,.int .i64 ty.n,.slice aY ty.args.length cY] 70)
            have hownA:=own_below HOWN.out hbA
            have hbB:=beside_fresh (w:=wz) hzf hbs HOL.out
            have HBB:=Lib.hid hbB
            have HAA:=Lib.hid hbA
            have HVT2:=Lib.hid (show (vs ++ [(⟨ty,aY,cY⟩:Tv)]).map Tv.t=(t.args.take (q + 1)).map (appT bs) by rw [List.map_append,HVT.out,HTS.out];exact congrArg (fun x=>_ ++ [x]) hzt)
            have HN1:=Lib.hid (World.news_of_block (heap_alloc_new w4 (.cells #[.int .i64 ty.kind,.string ty.name,.int .i64 ty.n,.slice aY ty.args.length cY] 70)))
            have HO1:=Lib.hid (fun (x:Value) (hx:x ∈ [Value.int .i64 ty.kind,.string ty.name,.int .i64 ty.n,.slice aY ty.args.length cY])=>(show x.oneCell'=true from rowTv_one' [⟨ty,aY,cY⟩] x (by rw [rowTv_one];exact hx)))
            have hsz:wz.heap.size≤(w4.alloc (.cells #[.int .i64 ty.kind,.string ty.name,.int .i64 ty.n,.slice aY ty.args.length cY] 70)).heap.size:=by have h2:=hbA.size;omega
            clear hzt hzf hb4 hbA hbB m0 m1 m2 m3
            simp only [Tv.val]
            go_wp2_with (at_builtin;refine wpList_append_own_at _ rfl _ _ 63 rfl wz.heap.size 70 i0 (.agg #[.int .i64 0,.string ⟨#[]⟩,.int .i64 0,.slice none 0 0]) 4 56 Tryz.underlying63 hi0 hiz0 his0 hib0 rfl (by decide) _ q (rowTv vs) rfl hownA ⟨w4.heap.size,0,none⟩ 1 1 [.int .i64 ty.kind,.string ty.name,.int .i64 ty.n,.slice aY ty.args.length cY] rfl rfl HN1.out HO1.out hmm hmb hsz ?_;intro v5 w5 hown5 hg5 _ hat5)
            go_roundw
            case rel =>
              have hb5:Below wz.heap.size wz w5:=(HBW.out.trans (HAA.out.mono hbs)).grown hg5 hsz (fun y e=>(hownA.lt y e).1)
              have hAB:Below w4.heap.size w4 (w4.alloc (.cells #[.int .i64 ty.kind,.string ty.name,.int .i64 ty.n,.slice aY ty.args.length cY] 70)):=(Below.refl _ _).alloc (Nat.le_refl _) _
              have hall:∀ x ∈ vs ++ [(⟨ty,aY,cY⟩:Tv)],Beside w0 wz w5 v5 x:=fun x hx=>by
                rcases List.mem_append.1 hx with hx | hx
                · exact ((HVB.out x hx).below HAA.out).grown hg5 hat5
                · rw [List.mem_singleton] at hx
                  subst hx
                  exact (HBB.out.below hAB).grown hg5 hat5
              have hrow:w5.ownsRow wz.heap.size 70 4 v5 (q + 1) (rowTv (vs ++ [(⟨ty,aY,cY⟩:Tv)])):=by rw [rowTv_append,rowTv_one];exact hown5
              first
                | exact ⟨v5,_,.int .i64 ((q:Int) + 1),⟨q + 1,by omega,by go_num,vs ++ [(⟨ty,aY,cY⟩:Tv)],Lib.hid HVT2.out,by rw [List.length_append,hvl];rfl,Lib.hid hall,Lib.hid hrow,Lib.hid hb5⟩,rfl,rfl,rfl⟩
                | exact ⟨q + 1,vs ++ [(⟨ty,aY,cY⟩:Tv)],by omega,by go_num,Lib.hid HVT2.out,by rw [List.length_append,hvl];rfl,Lib.hid hall,Lib.hid hrow,Lib.hid hb5⟩
            case measure=>simp [intOf];omega
          · have hqe:q=t.args.length:=by omega
            have hqd:decide ((q:Int) < (t.args.length:Int))=false:=decide_eq_false (by omega)
            have hql1:t.args.length≤q:=by omega
            have hvt:vs.map Tv.t=t.args.map (appT bs):=by
              have h:=HVT.out
              rw [List.take_of_length_le hql1] at h
              exact h
            have hown:=HOWN.out
            rw [hqe] at hown
            have hform:∃ a7 c7,u7=.slice a7 t.args.length c7:=by
              rcases hown.2 with ⟨h,h0⟩ | ⟨g',cap',cur,h,_⟩
              · exact ⟨none,0,by rw [h,h0]⟩
              · exact ⟨_,cap',h⟩
            obtain ⟨a7,c7,rfl⟩:=hform
            have O:=Lib.hid (fun W=>of_any t.kind t.name t.n a7 t.args.length c7 W)
            have hzw:=HZS.out
            have HOWNE:=Lib.hid hown
            have HVTE:=Lib.hid hvt
            obtain ⟨p0,p1,p2,p3,_,_,_,_⟩:=HBX.out wr HBW.out
            clear hqe hown hvt HVT HOWN
            go_wp2_with fail
            refine (O.out _).mono ?_;rintro e w5 ⟨rfl,hb5⟩
            have hbR:=HBR.out w5 (below_next HBW.out hb5)
            have BR8:=Lib.hid (hbR.sets (.int .i64 t.kind) (.string t.name) (.int .i64 t.n) (.slice a7 t.args.length c7))
            obtain ⟨q0,q1,q2,q3,f0,f1,f2,f3⟩:=hbR
            have HB5:=Lib.hid hb5
            clear hb5 p0 p1 p2 p3
            go_wp2_with fail
            obtain ⟨q0,q1,q2,q3,f0,f1,f2,f3⟩:=BR8.out
            refine bodyPost_ret (v:=.agg #[.int .i64 t.kind,.string t.name,.int .i64 t.n,.slice a7 t.args.length c7]) (by simp [results,Tryz.results179,go_sem,q0,q1,q2,q3]) rfl ?_
            have hbe:=below_next HBW.out HB5.out
            have hwe:Below w.heap.size w w5:=HBZ.out.trans (hbe.mono HBZ.out.size)
            rw [HEE.out]
            refine ⟨⟨.mk t.kind t.name t.n (t.args.map (appT bs)),a7,c7⟩,by simp [Tv.val,Tm.kind,Tm.name,Tm.n,Tm.args],rfl,?_,below_sets hwe (by omega) _ _ _ _⟩
            have hz8:w.heap.size + 1 < wz.heap.size:=by omega
            refine fresh_row (vs:=vs) (n:=t.args.length) ?_ (by rw [List.length_map]) HVTE.out HX.out.1 (by omega) (fun W hWb hWs hWa v hv=>?_)
            · have h5:=own_below HOWNE.out HB5.out
              have h8:=own_setCell (own_setCell (own_setCell (own_setCell h5 (p:=⟨w.heap.size + 1,0,none⟩) hz8 (.int .i64 t.kind)) (p:=⟨w.heap.size + 1,1,none⟩) hz8 (.string t.name)) (p:=⟨w.heap.size + 1,2,none⟩) hz8 (.int .i64 t.n)) (p:=⟨w.heap.size + 1,3,none⟩) hz8 (.slice a7 t.args.length c7)
              exact own_lower h8 HBZ.out.size
            · have hsz5:=HB5.out.size
              have hkk:∀ k,k≠w.heap.size + 1→((((w5.setCell ⟨w.heap.size + 1,0,none⟩ (.int .i64 t.kind)).setCell ⟨w.heap.size + 1,1,none⟩ (.string t.name)).setCell ⟨w.heap.size + 1,2,none⟩ (.int .i64 t.n)).setCell ⟨w.heap.size + 1,3,none⟩ (.slice a7 t.args.length c7)).heap[k]? = w5.heap[k]? := fun k hkR=>by
                rw [Below.heap_setCell _ _ _ _ hkR,Below.heap_setCell _ _ _ _ hkR,Below.heap_setCell _ _ _ _ hkR,Below.heap_setCell _ _ _ _ hkR]
              refine HVB.out v hv W hWb (by simp at hWs;omega) (fun k k1 k2 _=>?_)
              rw [hWa k (by omega) (by simp;omega),hkk k (by omega)]
              exact HB5.out.block k k2
    · have hkd:(t.kind==1)=false:=by rw [beq_eq_false_iff_ne];exact hk
      have HEE:=Lib.hid (show appT bs t=.mk t.kind t.name t.n (t.args.map (appT bs)) by rw [HE.out,if_neg hk])
      clear hk
      go_enter Tryz.func179,Tryz.ntmps179
      go_wp2_with fail
      rw [← hwz]
      clear hwz
      go_loopw [7,24] (fun o k wr=>∃ (q:Nat) (vs:List Tv),q≤t.args.length∧k=.int .i64 q∧Hid (vs.map Tv.t=(t.args.take q).map (appT bs))∧vs.length=q∧Hid (∀ z ∈ vs,Beside w0 wz wr o z)∧Hid (wr.ownsRow wz.heap.size 70 4 o q (rowTv vs))∧Hid (Below wz.heap.size wz wr)) (fun _ k _=>t.args.length - (intOf k).toNat)
      case atStart=>exact ⟨0,[],Nat.zero_le _,rfl,Lib.hid (by simp),rfl,Lib.hid (fun _ h=>nomatch h),Lib.hid (World.ownsRow_nil _ _ _ _),HBL⟩
      case round =>
        obtain ⟨q,vs,hq,rfl,HVT,hvl,HVB,HOWN,HBW⟩:=hrel
        have hbs:=HBW.out.size
        have hB0w:=HB0.out.trans (reads_below (HBZ.out.trans (HBW.out.mono HBZ.out.size)))
        by_cases hql:q < t.args.length
        · obtain ⟨b',o',rfl,hlt',hrow⟩:=HX.out.2.2.resolve_left (by intro h;simp only at h;rw [h] at hql;simp at hql)
          obtain ⟨y,hyt,hyo,hy⟩:=tmAt_tv (rowAt_get hrow hql)
          obtain ⟨m0,m1,m2,m3⟩:TvAt wr b' (o' + q * 4) y:=⟨hB0w.cell _ _ hy.c0,hB0w.cell _ _ hy.c1,hB0w.cell _ _ hy.c2,hB0w.cell _ _ hy.c3⟩
          obtain ⟨zt,za,zc⟩:=y
          simp only at hyt hyo m0 m1 m2 m3
          have C:=IH.out ⟨zt,za,zc⟩ wr (by simp only;rw [hyt];exact HPL.out q hql) (by omega) hyo (HBV.out.trans ((HBZ.out.trans (HBW.out.mono HBZ.out.size)).mono HBV.out.size))
          have HC:=Lib.hid C
          have HTS:=Lib.hid (show (t.args.take (q + 1)).map (appT bs)=(t.args.take q).map (appT bs) ++ [appT bs zt] by rw [map_take_succ bs hql,hyt])
          obtain ⟨p0,p1,p2,p3,_,_,_,_⟩:=HBX.out wr HBW.out
          have hq0:(0:Int)≤(q:Int):=by omega
          have hq1:(q:Int) < (t.args.length:Int):=by omega
          have hq5:(q:Int)≤2300000000000:=by omega
          have hmm:q + 1≤maxLen:=by unfold maxLen;omega
          have hmb:(q + 1) * 56≤140737488355328:=by omega
          have hol:∀ g,u7.ownBlock=some g→g < wr.heap.size:=fun g e=>(HOWN.out.lt g e).2
          have HOL:=Lib.hid hol
          clear hyt hyo hy hrow C hol
          go_wp2_with fail
          refine HC.out.mono ?_;rintro e w4 ⟨⟨ty,aY,cY⟩,rfl,hzt,hzf,hb4⟩
          have hbA:=hb4.alloc hb4.size (.cells #[.int .i64 ty.kind,.string ty.name,.int .i64 ty.n,.slice aY ty.args.length cY] 70)
          have hownA:=own_below HOWN.out hbA
          have hbB:=beside_fresh (w:=wz) hzf hbs HOL.out
          have HBB:=Lib.hid hbB
          have HAA:=Lib.hid hbA
          have HVT2:=Lib.hid (show (vs ++ [(⟨ty,aY,cY⟩:Tv)]).map Tv.t=(t.args.take (q + 1)).map (appT bs) by rw [List.map_append,HVT.out,HTS.out];exact congrArg (fun x=>_ ++ [x]) hzt)
          have HN1:=Lib.hid (World.news_of_block (heap_alloc_new w4 (.cells #[.int .i64 ty.kind,.string ty.name,.int .i64 ty.n,.slice aY ty.args.length cY] 70)))
          have HO1:=Lib.hid (fun (x:Value) (hx:x ∈ [Value.int .i64 ty.kind,.string ty.name,.int .i64 ty.n,.slice aY ty.args.length cY])=>(show x.oneCell'=true from rowTv_one' [⟨ty,aY,cY⟩] x (by rw [rowTv_one];exact hx)))
          have hsz:wz.heap.size≤(w4.alloc (.cells #[.int .i64 ty.kind,.string ty.name,.int .i64 ty.n,.slice aY ty.args.length cY] 70)).heap.size:=by have h2:=hbA.size;omega
          clear hzt hzf hb4 hbA hbB m0 m1 m2 m3
          simp only [Tv.val]
          go_wp2_with (at_builtin;refine wpList_append_own_at _ rfl _ _ 63 rfl wz.heap.size 70 i0 (.agg #[.int .i64 0,.string ⟨#[]⟩,.int .i64 0,.slice none 0 0]) 4 56 Tryz.underlying63 hi0 hiz0 his0 hib0 rfl (by decide) _ q (rowTv vs) rfl hownA ⟨w4.heap.size,0,none⟩ 1 1 [.int .i64 ty.kind,.string ty.name,.int .i64 ty.n,.slice aY ty.args.length cY] rfl rfl HN1.out HO1.out hmm hmb hsz ?_;intro v5 w5 hown5 hg5 _ hat5)
          go_roundw
          case rel =>
            have hb5:Below wz.heap.size wz w5:=(HBW.out.trans (HAA.out.mono hbs)).grown hg5 hsz (fun y e=>(hownA.lt y e).1)
            have hAB:Below w4.heap.size w4 (w4.alloc (.cells #[.int .i64 ty.kind,.string ty.name,.int .i64 ty.n,.slice aY ty.args.length cY] 70)):=(Below.refl _ _).alloc (Nat.le_refl _) _
            have hall:∀ x ∈ vs ++ [(⟨ty,aY,cY⟩:Tv)],Beside w0 wz w5 v5 x:=fun x hx=>by
              rcases List.mem_append.1 hx with hx | hx
              · exact ((HVB.out x hx).below HAA.out).grown hg5 hat5
              · rw [List.mem_singleton] at hx
                subst hx
                exact (HBB.out.below hAB).grown hg5 hat5
            have hrow:w5.ownsRow wz.heap.size 70 4 v5 (q + 1) (rowTv (vs ++ [(⟨ty,aY,cY⟩:Tv)])):=by rw [rowTv_append,rowTv_one];exact hown5
            first
              | exact ⟨v5,_,.int .i64 ((q:Int) + 1),⟨q + 1,by omega,by go_num,vs ++ [(⟨ty,aY,cY⟩:Tv)],Lib.hid HVT2.out,by rw [List.length_append,hvl];rfl,Lib.hid hall,Lib.hid hrow,Lib.hid hb5⟩,rfl,rfl,rfl⟩
              | exact ⟨q + 1,vs ++ [(⟨ty,aY,cY⟩:Tv)],by omega,by go_num,Lib.hid HVT2.out,by rw [List.length_append,hvl];rfl,Lib.hid hall,Lib.hid hrow,Lib.hid hb5⟩
          case measure=>simp [intOf];omega
        · have hqe:q=t.args.length:=by omega
          have hqd:decide ((q:Int) < (t.args.length:Int))=false:=decide_eq_false (by omega)
          have hql1:t.args.length≤q:=by omega
          have hvt:vs.map Tv.t=t.args.map (appT bs):=by
            have h:=HVT.out
            rw [List.take_of_length_le hql1] at h
            exact h
          have hown:=HOWN.out
          rw [hqe] at hown
          have hform:∃ a7 c7,u7=.slice a7 t.args.length c7:=by
            rcases hown.2 with ⟨h,h0⟩ | ⟨g',cap',cur,h,_⟩
            · exact ⟨none,0,by rw [h,h0]⟩
            · exact ⟨_,cap',h⟩
          obtain ⟨a7,c7,rfl⟩:=hform
          have O:=Lib.hid (fun W=>of_any t.kind t.name t.n a7 t.args.length c7 W)
          have hzw:=HZS.out
          have HOWNE:=Lib.hid hown
          have HVTE:=Lib.hid hvt
          obtain ⟨p0,p1,p2,p3,_,_,_,_⟩:=HBX.out wr HBW.out
          clear hqe hown hvt HVT HOWN
          go_wp2_with fail
          refine (O.out _).mono ?_;rintro e w5 ⟨rfl,hb5⟩
          have hbR:=HBR.out w5 (below_next HBW.out hb5)
          have BR8:=Lib.hid (hbR.sets (.int .i64 t.kind) (.string t.name) (.int .i64 t.n) (.slice a7 t.args.length c7))
          obtain ⟨q0,q1,q2,q3,f0,f1,f2,f3⟩:=hbR
          have HB5:=Lib.hid hb5
          clear hb5 p0 p1 p2 p3
          go_wp2_with fail
          obtain ⟨q0,q1,q2,q3,f0,f1,f2,f3⟩:=BR8.out
          refine bodyPost_ret (v:=.agg #[.int .i64 t.kind,.string t.name,.int .i64 t.n,.slice a7 t.args.length c7]) (by simp [results,Tryz.results179,go_sem,q0,q1,q2,q3]) rfl ?_
          have hbe:=below_next HBW.out HB5.out
          have hwe:Below w.heap.size w w5:=HBZ.out.trans (hbe.mono HBZ.out.size)
          rw [HEE.out]
          refine ⟨⟨.mk t.kind t.name t.n (t.args.map (appT bs)),a7,c7⟩,by simp [Tv.val,Tm.kind,Tm.name,Tm.n,Tm.args],rfl,?_,below_sets hwe (by omega) _ _ _ _⟩
          have hz8:w.heap.size + 1 < wz.heap.size:=by omega
          refine fresh_row (vs:=vs) (n:=t.args.length) ?_ (by rw [List.length_map]) HVTE.out HX.out.1 (by omega) (fun W hWb hWs hWa v hv=>?_)
          · have h5:=own_below HOWNE.out HB5.out
            have h8:=own_setCell (own_setCell (own_setCell (own_setCell h5 (p:=⟨w.heap.size + 1,0,none⟩) hz8 (.int .i64 t.kind)) (p:=⟨w.heap.size + 1,1,none⟩) hz8 (.string t.name)) (p:=⟨w.heap.size + 1,2,none⟩) hz8 (.int .i64 t.n)) (p:=⟨w.heap.size + 1,3,none⟩) hz8 (.slice a7 t.args.length c7)
            exact own_lower h8 HBZ.out.size
          · have hsz5:=HB5.out.size
            have hkk:∀ k,k≠w.heap.size + 1→((((w5.setCell ⟨w.heap.size + 1,0,none⟩ (.int .i64 t.kind)).setCell ⟨w.heap.size + 1,1,none⟩ (.string t.name)).setCell ⟨w.heap.size + 1,2,none⟩ (.int .i64 t.n)).setCell ⟨w.heap.size + 1,3,none⟩ (.slice a7 t.args.length c7)).heap[k]? = w5.heap[k]? := fun k hkR=>by
              rw [Below.heap_setCell _ _ _ _ hkR,Below.heap_setCell _ _ _ _ hkR,Below.heap_setCell _ _ _ _ hkR,Below.heap_setCell _ _ _ _ hkR]
            refine HVB.out v hv W hWb (by simp at hWs;omega) (fun k k1 k2 _=>?_)
            rw [hWa k (by omega) (by simp;omega),hkk k (by omega)]
            exact HB5.out.block k k2
theorem rapply_tm (bs:List Bn) (v:Value) (w0:World) (hv:Bds w0 v bs) (m:Nat):∀ (x:Tv) (w:World),x.t.parts≤m→m≤2300000000000→x.ok w0→Below w0.heap.size w0 w →
    Calls Tryz.prog 179 #[v,x.val] w (ApPost (appT bs x.t) w0 w):=rapply_ok bs v w0 w0 hv.toOk (Reads.refl _) m
end Go.Proofs.YtjcleokfpohpdaaGreatDoor
namespace Go.Proofs.YtjcleokfpohpdaaGreatDoor
open Go.RowKit
set_option maxHeartbeats 400000 in
theorem rvar_any (s:ByteArray) (w:World) :
    Calls Tryz.prog 177 #[.string s] w fun e w'=>e=.returned (.agg #[.int .i64 1,.string s,.int .i64 0,.slice none 0 0])∧Below w.heap.size w w':=by
  have O:=Lib.hid (fun w=>of_any 1 s 0 none 0 0 w)
  go_enter Tryz.func177,Tryz.ntmps177
  go_wp2_with fail
  refine (O.out _).mono ?_;rintro e w1 ⟨rfl,hb⟩
  obtain ⟨c0,c1,c2,c3,f0,f1,f2,f3⟩:=(box_new w (.int .i64 0) (.string ⟨#[]⟩) (.int .i64 0) (.slice none 0 0) 70).below hb (by simp)
  replace hb:=below_box hb
  go_wp2_with fail
  exact bodyPost_ret (v:=.agg #[.int .i64 1,.string s,.int .i64 0,.slice none 0 0]) (by simp [results,Tryz.results177,go_sem,c0,c1,c2,c3]) rfl ⟨rfl,(((hb.setCell (Nat.le_refl _) _).setCell (Nat.le_refl _) _).setCell (Nat.le_refl _) _).setCell (Nat.le_refl _) _⟩
end Go.Proofs.YtjcleokfpohpdaaGreatDoor
