/-
  What a shape's letter stands for: a number, by the reference of layer 11: one.
  What a shape's letter stands for: a term, by the reference of layer 11: one.
  What a shape's letter stands for: terms, or none, by the reference of layer 11: one.
  What a shape's letter stands for: a sign, by the reference of layer 11: one.
-/
import Derived.Test.YtjcleokfpohpdaaGreatDoorU35
namespace Go.Proofs.YtjcleokfpohpdaaGreatDoor
open Go.RowKit
set_option maxRecDepth 100000 in
set_option maxHeartbeats 4000000 in
theorem rone_num (v:Value) (L:List Tok) (A:World) (hv:Toks A v L) (x:It) (vw vt:Value) (hO:∀ i,TokOk (tkD L i)) (hl1:x.words.length≤100000) (i:Nat) (hlen:L.length≤100000) (hi:i < L.length) (w:World) (hA:Below A.heap.size A w)
    (R:Nat→Prop) (hR:∀ k,rowsP vw vt k→R k) (Z:Nat→Prop) (hZ:∀ k,Z k→k < w.heap.size) (hr:RowsI w Z 51 A.heap.size vw x.words vt x.trees) :
    Calls Tryz.prog 86 #[itVal x vw vt,v,.int .i64 i,.int .u8 110] w (OnePost A R Z w x L i 110):=by
  obtain ⟨i0,hti,hz0,hz1,hz2⟩:=info_parts treeInfo
  obtain ⟨⟨aw,cw,rfl⟩,at_,ct,rfl⟩:=hr.slices
  obtain ⟨a,c,rfl,hl,h⟩:=hv
  rcases h with h | ⟨b,off,rfl,hlt,hc⟩
  · subst h;cases hi
  obtain ⟨t,ht⟩:∃ t,tkD L i=t:=⟨_,rfl⟩
  have hok:=hO i
  have hti2:L[i]=t:=by rw [← ht,tkD_at hi]
  have hci:=hc i hi
  rw [hti2] at hci
  have HC:=Lib.hid (fun (W:World) (h:Below A.heap.size A W)=>hci.below h hlt)
  have HS:=Lib.hid (fun e1 e2 e3=>OneSt.start (e1:=e1) (e2:=e2) (e3:=e3) t hA hr hZ hR)
  have HOP:=Lib.hid (show oneP x L i 110=if t.kind=3 then ({ x with words:=x.words ++ [.mk 0 t.text t.n t.place []] },i + 1,true) else (x,i,false) by unfold oneP;rw [if_neg (by decide),if_pos rfl,ht])
  rw [ht] at hok
  have ST:=Lib.hid (fun (ok:Bool) (W:World)=>rstep_any i ok (by omega) W)
  have HA:=Lib.hid hA
  have hsz:=hA.size
  clear ht hti2 hc hci hr hA hR hZ
  obtain ⟨tk,tx,tn,tp⟩:=t
  obtain ⟨key,spot,ws,ts⟩:=x
  obtain ⟨ok1,ok2,ok3,ok4,ok5⟩:=hok
  unfold itVal
  simp only at HS HOP ok1 ok2 ok3 ok4 ok5 hl1
  have hk1:(i:Int) < (L.length:Int):=by omega
  have hk0:(0:Int)≤(i:Int):=by omega
  obtain ⟨m0,m1,m2,m3⟩:=HC.out _ ((HA.out.alloc hsz (.cells #[.string key,.int .i64 spot,.slice aw ws.length cw,.slice at_ ts.length ct] 53)).alloc (by simp;omega) (.cells #[.string ⟨#[]⟩,.int .i64 0,.slice none 0 0,.slice none 0 0] 53))
  simp only at m0 m1 m2 m3
  have KEEPS:=Lib.hid (fun (ws':List Tr) (vw:Value) (W:World) (h:OneSt A R Z w 51 w.heap.size ⟨key,spot,ws',ts⟩ ⟨tk,tx,tn,tp⟩ vw (.slice at_ ts.length ct) W)=>h.cells)
  have FILLS:=Lib.hid (fun (ws':List Tr) (vw:Value) (z0 z1 z2 z3:Value) (W:World) (h:OneSt A R Z w 51 w.heap.size ⟨key,spot,ws',ts⟩ ⟨tk,tx,tn,tp⟩ vw (.slice at_ ts.length ct) W)=>h.filled z0 z1 z2 z3)
  have FILL:=Lib.hid (fun (ws':List Tr) (vw:Value) (W:World) (h:OneSt A R Z w 51 w.heap.size ⟨key,spot,ws',ts⟩ ⟨tk,tx,tn,tp⟩ vw (.slice at_ ts.length ct) W)=>h.fill)
  simp only at KEEPS FILLS FILL
  have h0:=HS.out 53 53 129
  obtain ⟨wa,hwa⟩:∃ wa,(((w.alloc (.cells #[.string key,.int .i64 spot,.slice aw ws.length cw,.slice at_ ts.length ct] 53)).alloc (.cells #[.string ⟨#[]⟩,.int .i64 0,.slice none 0 0,.slice none 0 0] 53)).alloc (.cells #[.int .i64 tk,.string tx,.int .i64 tn,.int .i64 tp] 129))=wa:=⟨_,rfl⟩
  rw [hwa] at h0
  cases hk:(tk==3) with
  | false =>
    replace HOP:=Lib.hid (HOP.out.trans (if_neg (by simpa using hk)))
    have ST2:=Lib.hid (fun (W:World) (h:OneSt A R Z w 51 w.heap.size ⟨key,spot,ws,ts⟩ ⟨tk,tx,tn,tp⟩ (.slice aw ws.length cw) (.slice at_ ts.length ct) W)=>(ST.out false W).mono fun e w' hh=>(show e=.returned (.int .i64 i)∧OneSt A R Z w 51 w.heap.size ⟨key,spot,ws,ts⟩ ⟨tk,tx,tn,tp⟩ (.slice aw ws.length cw) (.slice at_ ts.length ct) w' from ⟨hh.1,hh.2 ▸ h⟩))
    obtain ⟨_,k0,k1,k2,k3,k4,k5,k6,k7,k8,k9,k10,k11,k12,k13⟩:=KEEPS.out _ _ _ h0
    have h1d:=h0.below (Below.refl _ _).drew
    go_enter Tryz.func86,Tryz.ntmps86
    go_wp2_with fail
    (try rw [hwa])
    (try go_wp2_with fail)
    go_region_held3 (fun W=>OneSt A R Z w 51 w.heap.size ⟨key,spot,ws,ts⟩ ⟨tk,tx,tn,tp⟩ (.slice aw ws.length cw) (.slice at_ ts.length ct) W ∧
      W.cell? ⟨w.heap.size,0,none⟩=some (.string key)∧W.cell? ⟨w.heap.size,1,none⟩=some (.int .i64 spot)∧W.cell? ⟨w.heap.size,2,none⟩=some (.slice aw ws.length cw)∧W.cell? ⟨w.heap.size,3,none⟩=some (.slice at_ ts.length ct) ∧
      W.cell? ⟨w.heap.size + 1 + 1,0,none⟩=some (.int .i64 tk)∧W.cell? ⟨w.heap.size + 1 + 1,1,none⟩=some (.string tx)∧W.cell? ⟨w.heap.size + 1 + 1,2,none⟩=some (.int .i64 tn)∧W.cell? ⟨w.heap.size + 1 + 1,3,none⟩=some (.int .i64 tp) ∧
      W.frozen? ⟨w.heap.size + 1,0,none⟩=false∧W.frozen? ⟨w.heap.size + 1,1,none⟩=false∧W.frozen? ⟨w.heap.size + 1,2,none⟩=false∧W.frozen? ⟨w.heap.size + 1,3,none⟩=false∧W.frozen? ⟨w.heap.size,2,none⟩=false∧W.frozen? ⟨w.heap.size,3,none⟩=false)
      (first
        | exact KEEPS.out _ _ _ (by assumption)
        | exact KEEPS.out _ _ _ (FILLS.out _ _ _ _ _ _ _ (by assumption)))
      ((go_at_call 141;refine (ST2.out _ (by assumption)).mono ?_;rintro e w' ⟨rfl,hn⟩;obtain ⟨y0,y1,y2,y3,⟨q0,q1,q2,q3,_,_,_,_⟩⟩:=hn.res))
    have HE:=Lib.hid (FILL.out _ _ _ hn)
    go_wp2_with fail
    obtain ⟨hbel,⟨r0,r1,r2,r3,rf0,rf1,rf2,rf3⟩,hrw,hkp,hri⟩:=HE.out
    refine bodyPost_ret (v:=.tuple #[.agg #[.string key,.int .i64 spot,.slice aw ws.length cw,.slice at_ ts.length ct],.int .i64 (i:Int),.bool false]) (by simp [results,Tryz.results86,go_sem,r0,r1,r2,r3]) rfl ?_
    unfold OnePost
    rw [HOP.out]
    exact ⟨_,_,rfl,hrw,hbel,hkp,hri,Nat.le_of_lt (Nat.lt_of_succ_lt (lt_of_cellR r0))⟩
  | true =>
    replace HOP:=Lib.hid (HOP.out.trans (if_pos (by simpa using hk)))
    obtain ⟨_,k0,k1,k2,k3,k4,k5,k6,k7,k8,k9,k10,k11,k12,k13⟩:=KEEPS.out _ _ _ h0
    obtain ⟨vs,hvt,hvl,hown⟩:=h0.rows.wds
    have hb1:Below wa.heap.size wa (wa.alloc (.cells #[.int .i64 0,.string tx,.int .i64 tn,.int .i64 tp,.slice none 0 0] 51)):=(Below.refl _ _).alloc (Nat.le_refl _) _
    have hFit:FitR 0 tx tn tp:=⟨by omega,by omega,ok1,ok2,ok3,ok4,ok5⟩
    have hsz1:=h0.bel.size
    have H1:=Lib.hid (h0.below hb1)
    have HNL:=Lib.hid (fun (P:Nat→Prop)=>live_plain hFit (wa.alloc (.cells #[.int .i64 0,.string tx,.int .i64 tn,.int .i64 tp,.slice none 0 0] 51)) P (base:=A.heap.size) (by simp;omega))
    have HVT:=Lib.hid hvt
    have HVL:=Lib.hid (fun y hy=>(hvl y hy).below hb1)
    have hlt1:=h0.lt
    clear hvt hvl hb1 h0
    go_enter Tryz.func86,Tryz.ntmps86
    go_wp2_with (at_builtin;refine wpList_append_own_at _ rfl _ _ 46 rfl A.heap.size 51 i0 (.agg #[.int .i64 0,.string ⟨#[]⟩,.int .i64 0,.int .i64 0,.slice none 0 0]) 5 64 Tryz.underlying46 hti hz0 hz1 hz2 rfl (by decide) _ ws.length _ rfl (hown.alloc _) ⟨wa.heap.size,0,none⟩ 1 1 [.int .i64 0,.string tx,.int .i64 tn,.int .i64 tp,.slice none 0 0] rfl rfl ?c1 ?c2 ?c3 ?c4 ?c5 ?_)
    case c2=>exact ⟨rfl,rfl,rfl,rfl,rfl⟩
    case c3=>unfold maxLen;omega
    case c4=>omega
    case c5=>omega
    intro v' w3 hown' hgrow _ hat
    obtain ⟨a3,c3,rfl⟩:=own_slice hown'
    have hN:=H1.out.words (news:=[⟨.mk 0 tx tn tp [],none,0⟩]) HVT.out HVL.out (fun y hy=>by rw [List.mem_singleton.1 hy];exact HNL.out _) rfl hown' hgrow (by simpa using hat)
    obtain ⟨p0,p1,p2,p3,pf0,pf1,pf2,pf3⟩:=H1.out.argGrown (fun k e=>.inl e) hgrow
    simp only [List.map_cons,List.map_nil] at hN
    have HN:=Lib.hid hN
    clear hN hown' hgrow hat k0 k1 k2 k3 k4 k5 k6 k7 k8 k9 k10 k11 k12 k13
    obtain ⟨w4,hw4⟩:∃ w4,w3.setCell ⟨w.heap.size,2,none⟩ (.slice a3 (ws.length + 1) c3)=w4:=⟨_,rfl⟩
    rw [hw4] at HN
    have ST2:=Lib.hid (fun (W:World) (h:OneSt A R Z w 51 w.heap.size ⟨key,spot,ws ++ [.mk 0 tx tn tp []],ts⟩ ⟨tk,tx,tn,tp⟩ (.slice a3 (ws.length + 1) c3) (.slice at_ ts.length ct) W)=>(ST.out true W).mono fun e w' hh=>(show e=.returned (.int .i64 ((i:Int) + 1))∧OneSt A R Z w 51 w.heap.size ⟨key,spot,ws ++ [.mk 0 tx tn tp []],ts⟩ ⟨tk,tx,tn,tp⟩ (.slice a3 (ws.length + 1) c3) (.slice at_ ts.length ct) w' from ⟨hh.1,hh.2 ▸ h⟩))
    have h1d:=HN.out.below (Below.refl _ _).drew
    go_wp2_with fail
    (try rw [hw4])
    (try go_wp2_with fail)
    go_region_held3 (fun W=>OneSt A R Z w 51 w.heap.size ⟨key,spot,ws ++ [.mk 0 tx tn tp []],ts⟩ ⟨tk,tx,tn,tp⟩ (.slice a3 (ws.length + 1) c3) (.slice at_ ts.length ct) W ∧
      W.cell? ⟨w.heap.size,0,none⟩=some (.string key)∧W.cell? ⟨w.heap.size,1,none⟩=some (.int .i64 spot)∧W.cell? ⟨w.heap.size,2,none⟩=some (.slice a3 (ws.length + 1) c3)∧W.cell? ⟨w.heap.size,3,none⟩=some (.slice at_ ts.length ct) ∧
      W.cell? ⟨w.heap.size + 1 + 1,0,none⟩=some (.int .i64 tk)∧W.cell? ⟨w.heap.size + 1 + 1,1,none⟩=some (.string tx)∧W.cell? ⟨w.heap.size + 1 + 1,2,none⟩=some (.int .i64 tn)∧W.cell? ⟨w.heap.size + 1 + 1,3,none⟩=some (.int .i64 tp) ∧
      W.frozen? ⟨w.heap.size + 1,0,none⟩=false∧W.frozen? ⟨w.heap.size + 1,1,none⟩=false∧W.frozen? ⟨w.heap.size + 1,2,none⟩=false∧W.frozen? ⟨w.heap.size + 1,3,none⟩=false∧W.frozen? ⟨w.heap.size,2,none⟩=false∧W.frozen? ⟨w.heap.size,3,none⟩=false)
      (first
        | exact KEEPS.out _ _ _ (by assumption)
        | exact KEEPS.out _ _ _ (FILLS.out _ _ _ _ _ _ _ (by assumption)))
      ((go_at_call 141;refine (ST2.out _ (by assumption)).mono ?_;rintro e w' ⟨rfl,hn⟩;obtain ⟨y0,y1,y2,y3,⟨q0,q1,q2,q3,_,_,_,_⟩⟩:=hn.res))
    have HE:=Lib.hid (FILL.out _ _ _ hn)
    go_wp2_with fail
    obtain ⟨hbel,⟨r0,r1,r2,r3,rf0,rf1,rf2,rf3⟩,hrw,hkp,hri⟩:=HE.out
    refine bodyPost_ret (v:=.tuple #[.agg #[.string key,.int .i64 spot,.slice a3 (ws.length + 1) c3,.slice at_ ts.length ct],.int .i64 ((i:Int) + 1),.bool true]) (by simp [results,Tryz.results86,go_sem,r0,r1,r2,r3]) rfl ?_
    unfold OnePost
    rw [HOP.out]
    exact ⟨_,_,rfl,hrw,hbel,hkp,hri,Nat.le_of_lt (Nat.lt_of_succ_lt (lt_of_cellR r0))⟩
end Go.Proofs.YtjcleokfpohpdaaGreatDoor
namespace Go.Proofs.YtjcleokfpohpdaaGreatDoor
open Go.RowKit
set_option maxRecDepth 100000 in
set_option maxHeartbeats 1000000 in
theorem rone_term (v:Value) (L:List Tok) (A:World) (hv:Toks A v L) (x:It) (vw vt:Value) (hO:∀ i,TokOk (tkD L i)) (hE:Ended L) (hl1:x.trees.length≤1000000) (i:Nat) (hlen:L.length≤100000) (hi:i < L.length) (w:World) (hA:Below A.heap.size A w)
    (R:Nat→Prop) (hR:∀ k,rowsP vw vt k→R k) (Z:Nat→Prop) (hZ:∀ k,Z k→k < w.heap.size) (hr:RowsI w Z 51 A.heap.size vw x.words vt x.trees) :
    Calls Tryz.prog 86 #[itVal x vw vt,v,.int .i64 i,.int .u8 116] w (OnePost A R Z w x L i 116):=by
  obtain ⟨i0,hti,hz0,hz1,hz2⟩:=info_parts treeInfo
  obtain ⟨⟨aw,cw,rfl⟩,at_,ct,rfl⟩:=hr.slices
  have HT:=Lib.hid (fun (W:World) (h:Below A.heap.size A W)=>rterm_any v L hE hO hlen i 0 hi (by decide) W (hv.below h))
  unfold TermGPost at HT
  obtain ⟨a,c,rfl,hl,h⟩:=hv
  rcases h with h | ⟨b,off,rfl,hlt,hc⟩
  · subst h;cases hi
  obtain ⟨t,ht⟩:∃ t,tkD L i=t:=⟨_,rfl⟩
  have hok:=hO i
  have hti2:L[i]=t:=by rw [← ht,tkD_at hi]
  have hci:=hc i hi
  rw [hti2] at hci
  have HC:=Lib.hid (fun (W:World) (h:Below A.heap.size A W)=>hci.below h hlt)
  have HS:=Lib.hid (fun e1 e2 e3=>OneSt.start (e1:=e1) (e2:=e2) (e3:=e3) t hA hr hZ hR)
  have HOP:=Lib.hid (show oneP x L i 116=if (termP L i 0).2.2=true then ({ x with trees:=x.trees ++ [(termP L i 0).1] },(termP L i 0).2.1,true) else (x,(termP L i 0).2.1,false) by unfold oneP;rw [if_neg (by decide),if_neg (by decide),if_pos rfl])
  have hn2:=termP_in hE 0 hi
  rw [ht] at hok
  obtain ⟨y0,hy0⟩:∃ y0,(termP L i 0).1=y0:=⟨_,rfl⟩
  obtain ⟨n2,hn2e⟩:∃ n2,(termP L i 0).2.1=n2:=⟨_,rfl⟩
  obtain ⟨b2,hb2e⟩:∃ b2,(termP L i 0).2.2=b2:=⟨_,rfl⟩
  rw [hy0,hn2e,hb2e] at HT HOP
  rw [hn2e] at hn2
  clear hy0 hn2e hb2e
  have HA:=Lib.hid hA
  have hsz:=hA.size
  clear ht hti2 hc hci hr hA hR hZ
  obtain ⟨tk,tx,tn,tp⟩:=t
  obtain ⟨key,spot,ws,ts⟩:=x
  obtain ⟨ok1,ok2,ok3,ok4,ok5⟩:=hok
  unfold itVal
  simp only at HS HOP ok1 ok2 ok3 ok4 ok5 hl1
  have hk1:(i:Int) < (L.length:Int):=by omega
  have hk0:(0:Int)≤(i:Int):=by omega
  obtain ⟨m0,m1,m2,m3⟩:=HC.out _ ((HA.out.alloc hsz (.cells #[.string key,.int .i64 spot,.slice aw ws.length cw,.slice at_ ts.length ct] 53)).alloc (by simp;omega) (.cells #[.string ⟨#[]⟩,.int .i64 0,.slice none 0 0,.slice none 0 0] 53))
  simp only at m0 m1 m2 m3
  have KEEPS:=Lib.hid (fun (ts':List Tr) (vt:Value) (W:World) (h:OneSt A R Z w 51 w.heap.size ⟨key,spot,ws,ts'⟩ ⟨tk,tx,tn,tp⟩ (.slice aw ws.length cw) vt W)=>h.cells)
  have FILL:=Lib.hid (fun (ts':List Tr) (vt:Value) (W:World) (h:OneSt A R Z w 51 w.heap.size ⟨key,spot,ws,ts'⟩ ⟨tk,tx,tn,tp⟩ (.slice aw ws.length cw) vt W)=>h.fill)
  simp only at KEEPS FILL
  have h0:=HS.out 53 53 129
  obtain ⟨wa,hwa⟩:∃ wa,(((w.alloc (.cells #[.string key,.int .i64 spot,.slice aw ws.length cw,.slice at_ ts.length ct] 53)).alloc (.cells #[.string ⟨#[]⟩,.int .i64 0,.slice none 0 0,.slice none 0 0] 53)).alloc (.cells #[.int .i64 tk,.string tx,.int .i64 tn,.int .i64 tp] 129))=wa:=⟨_,rfl⟩
  rw [hwa] at h0
  have H0:=Lib.hid h0
  clear h0
  go_enter Tryz.func86,Tryz.ntmps86
  go_wp2_with fail
  (try rw [hwa])
  refine (HT.out _ H0.out.bel).mono ?_;rintro e w1 ⟨⟨⟨kd,s,nn,pp,xs⟩,ya,yc⟩,rfl,hyt,hm,hb1⟩
  cases hyt
  unfold Rv.val
  simp only [Tr.kind,Tr.text,Tr.n,Tr.spot,Tr.args]
  have hb2:Below w1.heap.size w1 (w1.alloc (.cells #[.int .i64 kd,.string s,.int .i64 nn,.int .i64 pp,.slice ya xs.length yc] 51)):=(Below.refl _ _).alloc (Nat.le_refl _) _
  have hb3:Below w1.heap.size w1 ((w1.alloc (.cells #[.int .i64 kd,.string s,.int .i64 nn,.int .i64 pp,.slice ya xs.length yc] 51)).alloc (.cells #[.int .i64 kd,.string s,.int .i64 nn,.int .i64 pp,.slice ya xs.length yc] 51)):=hb2.alloc (by simp) _
  have hlw:=H0.out.lt
  have hlr:=H0.out.rows.lt
  have hy:=hm.liveA hb1.size (P:=rowsZ (zP Z w.heap.size) (.slice aw ws.length cw) (.slice at_ ts.length ct)) (base:=A.heap.size) H0.out.bel.size (fun k hk=>by
    rcases hk with hk | hk | hk
    · exact (hlr k hk).2
    · have:=H0.out.zlt k hk;omega
    · have:=hk.2;omega)
  have h1:=H0.out.below hb1
  have HY:=Lib.hid (hy.below hb3)
  have H2:=Lib.hid (h1.below hb2)
  have H3:=Lib.hid (h1.below hb3)
  have hsz1:=h1.bel.size
  obtain ⟨us,hut,hul,hown⟩:=h1.rows.trs
  have HUT:=Lib.hid hut
  have HUL:=Lib.hid (fun y hy=>(hul y hy).below hb3)
  clear hut hul hb1 hb2 hb3 hlr h1 hy hm m0 m1 m2 m3 hwa
  cases b2 with
  | false =>
    replace HOP:=Lib.hid (HOP.out.trans (if_neg (by decide)))
    obtain ⟨_,k0,k1,k2,k3,k4,k5,k6,k7,k8,k9,k10,k11,k12,k13⟩:=KEEPS.out _ _ _ H2.out
    obtain ⟨y0,y1,y2,y3,⟨q0,q1,q2,q3,_,_,_,_⟩⟩:=H2.out.res
    have HE:=Lib.hid (FILL.out _ _ _ H2.out)
    go_wp2_with fail
    obtain ⟨hbel,⟨r0,r1,r2,r3,rf0,rf1,rf2,rf3⟩,hrw,hkp,hri⟩:=HE.out
    refine bodyPost_ret (v:=.tuple #[.agg #[.string key,.int .i64 spot,.slice aw ws.length cw,.slice at_ ts.length ct],.int .i64 (n2:Int),.bool false]) (by simp [results,Tryz.results86,go_sem,r0,r1,r2,r3]) rfl ?_
    unfold OnePost
    rw [HOP.out]
    exact ⟨_,_,rfl,hrw,hbel,hkp,hri,Nat.le_of_lt (Nat.lt_of_succ_lt (lt_of_cellR r0))⟩
  | true =>
    replace HOP:=Lib.hid (HOP.out.trans (if_pos rfl))
    obtain ⟨_,k0,k1,k2,k3,k4,k5,k6,k7,k8,k9,k10,k11,k12,k13⟩:=KEEPS.out _ _ _ H2.out
    go_wp2_with (at_builtin;refine wpList_append_own_at _ rfl _ _ 46 rfl A.heap.size 51 i0 (.agg #[.int .i64 0,.string ⟨#[]⟩,.int .i64 0,.int .i64 0,.slice none 0 0]) 5 64 Tryz.underlying46 hti hz0 hz1 hz2 rfl (by decide) _ ts.length _ rfl ((hown.alloc _).alloc _) ⟨w1.heap.size + 1,0,none⟩ 1 1 [.int .i64 kd,.string s,.int .i64 nn,.int .i64 pp,.slice ya xs.length yc] rfl rfl ?c1 ?c2 ?c3 ?c4 ?c5 ?_)
    (try case c1=>exact new_rowR _ _ (by simp) _ _ _ _ _ _)
    (try case c2=>first | exact rv_one ⟨.mk kd s nn pp xs,ya,yc⟩ | exact ⟨rfl,rfl,rfl,rfl,rfl⟩)
    case c3=>unfold maxLen;omega
    case c4=>omega
    case c5=>first | omega | (simp;omega)
    intro v' w3 hown' hgrow _ hat
    obtain ⟨a3,c3,rfl⟩:=own_slice hown'
    have hN:=H3.out.terms (news:=[⟨.mk kd s nn pp xs,ya,yc⟩]) HUT.out HUL.out (fun y hy=>by rw [List.mem_singleton.1 hy];exact HY.out) rfl hown' hgrow (by simpa using hat)
    obtain ⟨p0,p1,p2,p3,pf0,pf1,pf2,pf3⟩:=H3.out.argGrown (fun k e=>.inr e) hgrow
    simp only [List.map_cons,List.map_nil] at hN
    have HN:=Lib.hid hN
    clear hN hown' hgrow hat hown k0 k1 k2 k3 k4 k5 k6 k7 k8 k9 k10 k11 k12 k13
    obtain ⟨w4,hw4⟩:∃ w4,w3.setCell ⟨w.heap.size,3,none⟩ (.slice a3 (ts.length + 1) c3)=w4:=⟨_,rfl⟩
    rw [hw4] at HN
    obtain ⟨_,k0,k1,k2,k3,k4,k5,k6,k7,k8,k9,k10,k11,k12,k13⟩:=KEEPS.out _ _ _ HN.out
    obtain ⟨y0,y1,y2,y3,⟨q0,q1,q2,q3,_,_,_,_⟩⟩:=HN.out.res
    have HE:=Lib.hid (FILL.out _ _ _ HN.out)
    go_wp2_with fail
    (try rw [hw4])
    (try go_wp2_with fail)
    obtain ⟨hbel,⟨r0,r1,r2,r3,rf0,rf1,rf2,rf3⟩,hrw,hkp,hri⟩:=HE.out
    refine bodyPost_ret (v:=.tuple #[.agg #[.string key,.int .i64 spot,.slice aw ws.length cw,.slice a3 (ts.length + 1) c3],.int .i64 (n2:Int),.bool true]) (by simp [results,Tryz.results86,go_sem,r0,r1,r2,r3]) rfl ?_
    unfold OnePost
    rw [HOP.out]
    exact ⟨_,_,rfl,hrw,hbel,hkp,hri,Nat.le_of_lt (Nat.lt_of_succ_lt (lt_of_cellR r0))⟩
end Go.Proofs.YtjcleokfpohpdaaGreatDoor
namespace Go.Proofs.YtjcleokfpohpdaaGreatDoor
open Go.RowKit
theorem own_reads {w:World} {base:Nat} {e:TypeId} {size:Nat} {oa:Option Addr} {n c:Nat} {xs:List Value} (h:w.ownsRow base e size (.slice oa n c) n xs):(oa=none→n=0)∧∀ ad,oa=some ad→∀ j u,xs[j]? = some u→w.cell? (ad.add j)=some u:=by
  obtain ⟨hl,⟨hv,h0⟩ | ⟨g,cap,cur,hv,hg1,hgc,hgn,hgm,hgs,hgt⟩⟩:=h
  · cases hv
    exact ⟨(fun _=>rfl),(fun ad e=>by cases e)⟩
  · cases hv
    refine ⟨(fun e=>by cases e),fun ad e q x hq=>?_⟩
    cases e
    have hql:q < xs.length:=(List.getElem?_eq_some_iff.1 hq).1
    have e:((⟨g,0,none⟩:Addr).add q)=⟨g,q,none⟩:=by
      unfold Addr.add;split
      · next h=>subst h;rfl
      · simp
    rw [e,cell_of_row w g q cur _ (0,0) hgc,← hq,← hgt,List.getElem?_take,if_pos (by omega)]
    simp
set_option maxRecDepth 100000 in
set_option maxHeartbeats 1000000 in
theorem rone_list (v:Value) (L:List Tok) (A:World) (hv:Toks A v L) (x:It) (vw vt:Value) (hO:∀ i,TokOk (tkD L i)) (hE:Ended L) (hl1:x.trees.length≤1000000) (i:Nat) (hlen:L.length≤100000) (hi:i < L.length) (w:World) (hA:Below A.heap.size A w)
    (R:Nat→Prop) (hR:∀ k,rowsP vw vt k→R k) (Z:Nat→Prop) (hZ:∀ k,Z k→k < w.heap.size) (hr:RowsI w Z 51 A.heap.size vw x.words vt x.trees) :
    Calls Tryz.prog 86 #[itVal x vw vt,v,.int .i64 i,.int .u8 108] w (OnePost A R Z w x L i 108):=by
  obtain ⟨i0,hti,hz0,hz1,hz2⟩:=info_parts treeInfo
  obtain ⟨⟨aw,cw,rfl⟩,at_,ct,rfl⟩:=hr.slices
  have HT:=Lib.hid (fun (W:World) (h:Below A.heap.size A W)=>rterms_any v L hE hO hlen i sSemi 0 hi (by decide) W (hv.below h))
  unfold TermsGPost at HT
  obtain ⟨a,c,rfl,hl,h⟩:=hv
  rcases h with h | ⟨b,off,rfl,hlt,hc⟩
  · subst h;cases hi
  obtain ⟨t,ht⟩:∃ t,tkD L i=t:=⟨_,rfl⟩
  have hti2:L[i]=t:=by rw [← ht,tkD_at hi]
  have hci:=hc i hi
  rw [hti2] at hci
  have HC:=Lib.hid (fun (W:World) (h:Below A.heap.size A W)=>hci.below h hlt)
  have HS:=Lib.hid (fun e1 e2 e3=>OneSt.start (e1:=e1) (e2:=e2) (e3:=e3) t hA hr hZ hR)
  have HOP:=Lib.hid (show oneP x L i 108=if isS t sDot=true then (x,i,true) else ({ x with trees:=x.trees ++ (termsP L i sSemi 0).1 },(termsP L i sSemi 0).2.1,(termsP L i sSemi 0).2.2) by unfold oneP;rw [if_neg (by decide),if_neg (by decide),if_neg (by decide),if_pos rfl,ht])
  have IS:=Lib.hid (fun (W:World)=>ris_any t sDot W)
  have hn2:=termsP_in hE sSemi 0 hi
  obtain ⟨ys,hy0⟩:∃ ys,(termsP L i sSemi 0).1=ys:=⟨_,rfl⟩
  obtain ⟨n2,hn2e⟩:∃ n2,(termsP L i sSemi 0).2.1=n2:=⟨_,rfl⟩
  obtain ⟨b2,hb2e⟩:∃ b2,(termsP L i sSemi 0).2.2=b2:=⟨_,rfl⟩
  rw [hy0,hn2e,hb2e] at HT HOP
  rw [hn2e] at hn2
  clear hy0 hn2e hb2e
  have HA:=Lib.hid hA
  have hsz:=hA.size
  clear ht hti2 hc hci hr hA hR hZ
  obtain ⟨tk,tx,tn,tp⟩:=t
  obtain ⟨key,spot,ws,ts⟩:=x
  unfold tokVal at IS
  unfold itVal
  simp only at HS HOP IS hl1
  have hk1:(i:Int) < (L.length:Int):=by omega
  have hk0:(0:Int)≤(i:Int):=by omega
  obtain ⟨m0,m1,m2,m3⟩:=HC.out _ ((HA.out.alloc hsz (.cells #[.string key,.int .i64 spot,.slice aw ws.length cw,.slice at_ ts.length ct] 53)).alloc (by simp;omega) (.cells #[.string ⟨#[]⟩,.int .i64 0,.slice none 0 0,.slice none 0 0] 53))
  simp only at m0 m1 m2 m3
  have KEEPS:=Lib.hid (fun (ts':List Tr) (vt:Value) (W:World) (h:OneSt A R Z w 51 w.heap.size ⟨key,spot,ws,ts'⟩ ⟨tk,tx,tn,tp⟩ (.slice aw ws.length cw) vt W)=>h.cells)
  have FILL:=Lib.hid (fun (ts':List Tr) (vt:Value) (W:World) (h:OneSt A R Z w 51 w.heap.size ⟨key,spot,ws,ts'⟩ ⟨tk,tx,tn,tp⟩ (.slice aw ws.length cw) vt W)=>h.fill)
  simp only at KEEPS FILL
  have h0:=HS.out 53 53 129
  obtain ⟨wa,hwa⟩:∃ wa,(((w.alloc (.cells #[.string key,.int .i64 spot,.slice aw ws.length cw,.slice at_ ts.length ct] 53)).alloc (.cells #[.string ⟨#[]⟩,.int .i64 0,.slice none 0 0,.slice none 0 0] 53)).alloc (.cells #[.int .i64 tk,.string tx,.int .i64 tn,.int .i64 tp] 129))=wa:=⟨_,rfl⟩
  rw [hwa] at h0
  have H0:=Lib.hid h0
  clear h0
  obtain ⟨_,k0,k1,k2,k3,k4,k5,k6,k7,k8,k9,k10,k11,k12,k13⟩:=KEEPS.out _ _ _ H0.out
  go_enter Tryz.func86,Tryz.ntmps86
  go_wp2_with fail
  (try rw [hwa])
  refine (IS.out _).mono ?_;rintro e wb ⟨rfl,hbb⟩
  have H1:=Lib.hid (H0.out.below hbb)
  clear hbb hwa m0 m1 m2 m3 k0 k1 k2 k3 k4 k5 k6 k7 k8 k9 k10 k11 k12 k13
  cases hs:isS ⟨tk,tx,tn,tp⟩ sDot with
  | true =>
    replace HOP:=Lib.hid (HOP.out.trans (if_pos hs))
    clear hs
    obtain ⟨_,k0,k1,k2,k3,k4,k5,k6,k7,k8,k9,k10,k11,k12,k13⟩:=KEEPS.out _ _ _ H1.out
    obtain ⟨y0,y1,y2,y3,⟨q0,q1,q2,q3,_,_,_,_⟩⟩:=H1.out.res
    have HE:=Lib.hid (FILL.out _ _ _ H1.out)
    go_wp2_with fail
    obtain ⟨hbel,⟨r0,r1,r2,r3,rf0,rf1,rf2,rf3⟩,hrw,hkp,hri⟩:=HE.out
    refine bodyPost_ret (v:=.tuple #[.agg #[.string key,.int .i64 spot,.slice aw ws.length cw,.slice at_ ts.length ct],.int .i64 (i:Int),.bool true]) (by simp [results,Tryz.results86,go_sem,r0,r1,r2,r3]) rfl ?_
    unfold OnePost
    rw [HOP.out]
    exact ⟨_,_,rfl,hrw,hbel,hkp,hri,Nat.le_of_lt (Nat.lt_of_succ_lt (lt_of_cellR r0))⟩
  | false =>
    replace HOP:=Lib.hid (HOP.out.trans (if_neg (by rw [hs];decide)))
    clear hs
    go_wp2_with fail
    refine (HT.out _ H1.out.bel).mono ?_;rintro e w1 ⟨vy,rfl,_,hb1,⟨us',hut',hul',hown2⟩,hyl⟩
    obtain ⟨oa,cy,rfl⟩:=own_slice hown2
    obtain ⟨hn0,hnews⟩:=own_reads hown2
    have hlw:=H1.out.lt
    have hlr:=H1.out.rows.lt
    have HY:=Lib.hid (fun y hy=>(hul' y hy).liveA (P:=rowsZ (zP Z w.heap.size) (.slice aw ws.length cw) (.slice at_ ts.length ct)) (base:=A.heap.size) H1.out.bel.size (fun k hk=>by
      rcases hk with hk | hk | hk
      · exact (hlr k hk).2
      · have:=H1.out.zlt k hk;omega
      · have:=hk.2;omega))
    have h2:=H1.out.below hb1
    have H2:=Lib.hid h2
    have hsz1:=h2.bel.size
    obtain ⟨us,hut,hul,hown⟩:=h2.rows.trs
    have HUT:=Lib.hid hut
    have HUL:=Lib.hid hul
    have HUT2:=Lib.hid hut'
    have HL2:=Lib.hid hown2.1
    have HN0:=Lib.hid hn0
    have HNEW:=Lib.hid hnews
    have HONE:=Lib.hid (rowRv_one' us')
    have hul2:us'.length=ys.length:=by rw [← hut',List.length_map]
    clear hut hul hb1 hlr h2 hut' hul' hown2 hn0 hnews
    obtain ⟨_,k0,k1,k2,k3,k4,k5,k6,k7,k8,k9,k10,k11,k12,k13⟩:=KEEPS.out _ _ _ H2.out
    go_wp2_with (at_builtin;refine wpList_append_opt rfl _ _ 46 rfl A.heap.size 51 i0 (.agg #[.int .i64 0,.string ⟨#[]⟩,.int .i64 0,.int .i64 0,.slice none 0 0]) 5 64 Tryz.underlying46 hti hz0 hz1 hz2 rfl (by decide) _ ts.length _ rfl hown oa ys.length cy (rowRv us') rfl HN0.out HL2.out HNEW.out HONE.out ?c3 ?c4 ?c5 ?_)
    case c3=>unfold maxLen;omega
    case c4=>omega
    case c5=>first | omega | (simp;omega)
    intro v' w3 hown' hgrow hat
    obtain ⟨a3,c3,rfl⟩:=own_slice hown'
    have hN:=H2.out.terms (news:=us') HUT.out HUL.out HY.out (by rw [hul2]) hown' hgrow hat
    obtain ⟨p0,p1,p2,p3,pf0,pf1,pf2,pf3⟩:=H2.out.argGrown (fun k e=>.inr e) hgrow
    rw [HUT2.out] at hN
    have HN:=Lib.hid hN
    clear hN hown' hgrow hat hown k0 k1 k2 k3 k4 k5 k6 k7 k8 k9 k10 k11 k12 k13
    obtain ⟨w4,hw4⟩:∃ w4,w3.setCell ⟨w.heap.size,3,none⟩ (.slice a3 (ts.length + ys.length) c3)=w4:=⟨_,rfl⟩
    rw [hw4] at HN
    obtain ⟨_,k0,k1,k2,k3,k4,k5,k6,k7,k8,k9,k10,k11,k12,k13⟩:=KEEPS.out _ _ _ HN.out
    obtain ⟨y0,y1,y2,y3,⟨q0,q1,q2,q3,_,_,_,_⟩⟩:=HN.out.res
    have HE:=Lib.hid (FILL.out _ _ _ HN.out)
    go_wp2_with fail
    (try rw [hw4])
    (try go_wp2_with fail)
    obtain ⟨hbel,⟨r0,r1,r2,r3,rf0,rf1,rf2,rf3⟩,hrw,hkp,hri⟩:=HE.out
    refine bodyPost_ret (v:=.tuple #[.agg #[.string key,.int .i64 spot,.slice aw ws.length cw,.slice a3 (ts.length + ys.length) c3],.int .i64 (n2:Int),.bool b2]) (by simp [results,Tryz.results86,go_sem,r0,r1,r2,r3]) rfl ?_
    unfold OnePost
    rw [HOP.out]
    exact ⟨_,_,rfl,hrw,hbel,hkp,hri,Nat.le_of_lt (Nat.lt_of_succ_lt (lt_of_cellR r0))⟩
end Go.Proofs.YtjcleokfpohpdaaGreatDoor
namespace Go.Proofs.YtjcleokfpohpdaaGreatDoor
open Go.RowKit
theorem conv_sign (w:World) (c:UInt8) :
    (convert 200 9 (.slice (some ⟨w.heap.size,0,none⟩) 1 1)).run Tryz.prog (w.alloc (.cells #[.int .u8 (c.toNat:Int)] 5))=.ok (.string ⟨#[c]⟩) (w.alloc (.cells #[.int .u8 (c.toNat:Int)] 5)) :=
  run_convert_bytes_back (P:=Tryz.prog) (w.alloc (.cells #[.int .u8 (c.toNat:Int)] 5)) 200 9 5 ⟨w.heap.size,0,none⟩ 1 [c] Tryz.underlying200 Tryz.underlying5 Tryz.underlying9
    (fun j hj=>by
      have:j=0:=by simp at hj;omega
      subst this
      exact World.cell?_alloc_mark w #[.int .u8 (c.toNat:Int)] 5 (0,0) 0)
set_option maxRecDepth 100000 in
set_option maxHeartbeats 1000000 in
theorem rone_sign (v:Value) (L:List Tok) (A:World) (hv:Toks A v L) (x:It) (vw vt:Value) (c:UInt8) (g1:c≠119) (g2:c≠110) (g3:c≠116) (g4:c≠108) (i:Nat) (hlen:L.length≤100000) (hi:i < L.length) (w:World) (hA:Below A.heap.size A w)
    (R:Nat→Prop) (hR:∀ k,rowsP vw vt k→R k) (Z:Nat→Prop) (hZ:∀ k,Z k→k < w.heap.size) (hr:RowsI w Z 51 A.heap.size vw x.words vt x.trees) :
    Calls Tryz.prog 86 #[itVal x vw vt,v,.int .i64 i,.int .u8 (c.toNat:Int)] w (OnePost A R Z w x L i c):=by
  obtain ⟨⟨aw,cw,rfl⟩,at_,ct,rfl⟩:=hr.slices
  obtain ⟨a,cv,rfl,hl,h⟩:=hv
  rcases h with h | ⟨b,off,rfl,hlt,hc⟩
  · subst h;cases hi
  obtain ⟨t,ht⟩:∃ t,tkD L i=t:=⟨_,rfl⟩
  have hti2:L[i]=t:=by rw [← ht,tkD_at hi]
  have hci:=hc i hi
  rw [hti2] at hci
  have HC:=Lib.hid (fun (W:World) (h:Below A.heap.size A W)=>hci.below h hlt)
  have HS:=Lib.hid (fun e1 e2 e3=>OneSt.start (e1:=e1) (e2:=e2) (e3:=e3) t hA hr hZ hR)
  have HOP:=Lib.hid (show oneP x L i c=if isS t ⟨#[c]⟩=true then (x,i + 1,true) else (x,i,false) by unfold oneP;rw [if_neg g1,if_neg g2,if_neg g3,if_neg g4,ht])
  have IS:=Lib.hid (fun (W:World)=>ris_any t ⟨#[c]⟩ W)
  have hcn:∀ n:Nat,n < 256→c≠UInt8.ofNat n→((c.toNat:Int)==(n:Int))=false:=fun n hn h=>by
    rw [beq_eq_false_iff_ne]
    intro e
    exact h (by rw [← show c.toNat=n from by omega];simp)
  have d1:=hcn 119 (by decide) g1
  have d2:=hcn 110 (by decide) g2
  have d3:=hcn 116 (by decide) g3
  have d4:=hcn 108 (by decide) g4
  have ST:=Lib.hid (fun (ok:Bool) (W:World)=>rstep_any i ok (by omega) W)
  have HA:=Lib.hid hA
  have hsz:=hA.size
  clear hcn ht hti2 hc hci hr hA hR hZ
  obtain ⟨tk,tx,tn,tp⟩:=t
  obtain ⟨key,spot,ws,ts⟩:=x
  unfold tokVal at IS
  unfold itVal
  simp only at HS HOP IS d1 d2 d3 d4
  have hk1:(i:Int) < (L.length:Int):=by omega
  have hk0:(0:Int)≤(i:Int):=by omega
  obtain ⟨m0,m1,m2,m3⟩:=HC.out _ ((HA.out.alloc hsz (.cells #[.string key,.int .i64 spot,.slice aw ws.length cw,.slice at_ ts.length ct] 53)).alloc (by simp;omega) (.cells #[.string ⟨#[]⟩,.int .i64 0,.slice none 0 0,.slice none 0 0] 53))
  simp only at m0 m1 m2 m3
  have KEEPS:=Lib.hid (fun (W:World) (h:OneSt A R Z w 51 w.heap.size ⟨key,spot,ws,ts⟩ ⟨tk,tx,tn,tp⟩ (.slice aw ws.length cw) (.slice at_ ts.length ct) W)=>h.cells)
  have FILLS:=Lib.hid (fun (z0 z1 z2 z3:Value) (W:World) (h:OneSt A R Z w 51 w.heap.size ⟨key,spot,ws,ts⟩ ⟨tk,tx,tn,tp⟩ (.slice aw ws.length cw) (.slice at_ ts.length ct) W)=>h.filled z0 z1 z2 z3)
  have FILL:=Lib.hid (fun (W:World) (h:OneSt A R Z w 51 w.heap.size ⟨key,spot,ws,ts⟩ ⟨tk,tx,tn,tp⟩ (.slice aw ws.length cw) (.slice at_ ts.length ct) W)=>h.fill)
  simp only at KEEPS FILLS FILL
  have h0:=HS.out 53 53 129
  obtain ⟨wa,hwa⟩:∃ wa,(((w.alloc (.cells #[.string key,.int .i64 spot,.slice aw ws.length cw,.slice at_ ts.length ct] 53)).alloc (.cells #[.string ⟨#[]⟩,.int .i64 0,.slice none 0 0,.slice none 0 0] 53)).alloc (.cells #[.int .i64 tk,.string tx,.int .i64 tn,.int .i64 tp] 129))=wa:=⟨_,rfl⟩
  rw [hwa] at h0
  obtain ⟨_,k0,k1,k2,k3,k4,k5,k6,k7,k8,k9,k10,k11,k12,k13⟩:=KEEPS.out _ h0
  have hcv:=conv_sign wa c
  go_enter Tryz.func86,Tryz.ntmps86
  go_wp2_with fail
  refine (IS.out _).mono ?_;rintro e wb ⟨rfl,hbb⟩
  have h1:=(h0.below ((Below.refl wa.heap.size wa).alloc (Nat.le_refl _) (.cells #[.int .u8 (c.toNat:Int)] 5))).below hbb
  have h1d:=h1.below (Below.refl _ _).drew
  clear hcv hbb hwa h0 h1 k0 k1 k2 k3 k4 k5 k6 k7 k8 k9 k10 k11 k12 k13
  cases hs:isS ⟨tk,tx,tn,tp⟩ ⟨#[c]⟩ with
  | false =>
    replace HOP:=Lib.hid (HOP.out.trans (if_neg (by rw [hs];decide)))
    clear hs
    have ST2:=Lib.hid (fun (W:World) (h:OneSt A R Z w 51 w.heap.size ⟨key,spot,ws,ts⟩ ⟨tk,tx,tn,tp⟩ (.slice aw ws.length cw) (.slice at_ ts.length ct) W)=>(ST.out false W).mono fun e w' hh=>(show e=.returned (.int .i64 i)∧OneSt A R Z w 51 w.heap.size ⟨key,spot,ws,ts⟩ ⟨tk,tx,tn,tp⟩ (.slice aw ws.length cw) (.slice at_ ts.length ct) w' from ⟨hh.1,hh.2 ▸ h⟩))
    go_wp2_with fail
    go_region_held3 (fun W=>OneSt A R Z w 51 w.heap.size ⟨key,spot,ws,ts⟩ ⟨tk,tx,tn,tp⟩ (.slice aw ws.length cw) (.slice at_ ts.length ct) W ∧
      W.cell? ⟨w.heap.size,0,none⟩=some (.string key)∧W.cell? ⟨w.heap.size,1,none⟩=some (.int .i64 spot)∧W.cell? ⟨w.heap.size,2,none⟩=some (.slice aw ws.length cw)∧W.cell? ⟨w.heap.size,3,none⟩=some (.slice at_ ts.length ct) ∧
      W.cell? ⟨w.heap.size + 1 + 1,0,none⟩=some (.int .i64 tk)∧W.cell? ⟨w.heap.size + 1 + 1,1,none⟩=some (.string tx)∧W.cell? ⟨w.heap.size + 1 + 1,2,none⟩=some (.int .i64 tn)∧W.cell? ⟨w.heap.size + 1 + 1,3,none⟩=some (.int .i64 tp) ∧
      W.frozen? ⟨w.heap.size + 1,0,none⟩=false∧W.frozen? ⟨w.heap.size + 1,1,none⟩=false∧W.frozen? ⟨w.heap.size + 1,2,none⟩=false∧W.frozen? ⟨w.heap.size + 1,3,none⟩=false∧W.frozen? ⟨w.heap.size,2,none⟩=false∧W.frozen? ⟨w.heap.size,3,none⟩=false)
      (first
        | exact KEEPS.out _ (by assumption)
        | exact KEEPS.out _ (FILLS.out _ _ _ _ _ (by assumption)))
      ((go_at_call 141;refine (ST2.out _ (by assumption)).mono ?_;rintro e w' ⟨rfl,hn⟩;obtain ⟨y0,y1,y2,y3,⟨q0,q1,q2,q3,_,_,_,_⟩⟩:=hn.res))
    have HE:=Lib.hid (FILL.out _ hn)
    go_wp2_with fail
    obtain ⟨hbel,⟨r0,r1,r2,r3,rf0,rf1,rf2,rf3⟩,hrw,hkp,hri⟩:=HE.out
    refine bodyPost_ret (v:=.tuple #[.agg #[.string key,.int .i64 spot,.slice aw ws.length cw,.slice at_ ts.length ct],.int .i64 (i:Int),.bool false]) (by simp [results,Tryz.results86,go_sem,r0,r1,r2,r3]) rfl ?_
    unfold OnePost
    rw [HOP.out]
    exact ⟨_,_,rfl,hrw,hbel,hkp,hri,Nat.le_of_lt (Nat.lt_of_succ_lt (lt_of_cellR r0))⟩
  | true =>
    replace HOP:=Lib.hid (HOP.out.trans (if_pos hs))
    clear hs
    have ST2:=Lib.hid (fun (W:World) (h:OneSt A R Z w 51 w.heap.size ⟨key,spot,ws,ts⟩ ⟨tk,tx,tn,tp⟩ (.slice aw ws.length cw) (.slice at_ ts.length ct) W)=>(ST.out true W).mono fun e w' hh=>(show e=.returned (.int .i64 ((i:Int) + 1))∧OneSt A R Z w 51 w.heap.size ⟨key,spot,ws,ts⟩ ⟨tk,tx,tn,tp⟩ (.slice aw ws.length cw) (.slice at_ ts.length ct) w' from ⟨hh.1,hh.2 ▸ h⟩))
    go_wp2_with fail
    go_region_held3 (fun W=>OneSt A R Z w 51 w.heap.size ⟨key,spot,ws,ts⟩ ⟨tk,tx,tn,tp⟩ (.slice aw ws.length cw) (.slice at_ ts.length ct) W ∧
      W.cell? ⟨w.heap.size,0,none⟩=some (.string key)∧W.cell? ⟨w.heap.size,1,none⟩=some (.int .i64 spot)∧W.cell? ⟨w.heap.size,2,none⟩=some (.slice aw ws.length cw)∧W.cell? ⟨w.heap.size,3,none⟩=some (.slice at_ ts.length ct) ∧
      W.cell? ⟨w.heap.size + 1 + 1,0,none⟩=some (.int .i64 tk)∧W.cell? ⟨w.heap.size + 1 + 1,1,none⟩=some (.string tx)∧W.cell? ⟨w.heap.size + 1 + 1,2,none⟩=some (.int .i64 tn)∧W.cell? ⟨w.heap.size + 1 + 1,3,none⟩=some (.int .i64 tp) ∧
      W.frozen? ⟨w.heap.size + 1,0,none⟩=false∧W.frozen? ⟨w.heap.size + 1,1,none⟩=false∧W.frozen? ⟨w.heap.size + 1,2,none⟩=false∧W.frozen? ⟨w.heap.size + 1,3,none⟩=false∧W.frozen? ⟨w.heap.size,2,none⟩=false∧W.frozen? ⟨w.heap.size,3,none⟩=false)
      (first
        | exact KEEPS.out _ (by assumption)
        | exact KEEPS.out _ (FILLS.out _ _ _ _ _ (by assumption)))
      ((go_at_call 141;refine (ST2.out _ (by assumption)).mono ?_;rintro e w' ⟨rfl,hn⟩;obtain ⟨y0,y1,y2,y3,⟨q0,q1,q2,q3,_,_,_,_⟩⟩:=hn.res))
    have HE:=Lib.hid (FILL.out _ hn)
    go_wp2_with fail
    obtain ⟨hbel,⟨r0,r1,r2,r3,rf0,rf1,rf2,rf3⟩,hrw,hkp,hri⟩:=HE.out
    refine bodyPost_ret (v:=.tuple #[.agg #[.string key,.int .i64 spot,.slice aw ws.length cw,.slice at_ ts.length ct],.int .i64 ((i:Int) + 1),.bool true]) (by simp [results,Tryz.results86,go_sem,r0,r1,r2,r3]) rfl ?_
    unfold OnePost
    rw [HOP.out]
    exact ⟨_,_,rfl,hrw,hbel,hkp,hri,Nat.le_of_lt (Nat.lt_of_succ_lt (lt_of_cellR r0))⟩
end Go.Proofs.YtjcleokfpohpdaaGreatDoor
