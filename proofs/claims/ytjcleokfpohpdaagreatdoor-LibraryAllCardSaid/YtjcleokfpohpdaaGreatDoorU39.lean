/-
  A text's items, by the reference of layer 11: Parse.
  What a call leaves that makes a term. No function of the program.
  Terms that are made: Of of the reference of layer 3.
-/
import Derived.Test.YtjcleokfpohpdaaGreatDoorU37
import Derived.Test.YtjcleokfpohpdaaGreatDoorU07
import Derived.Test.YtjcleokfpohpdaaGreatDoorU38
import Derived.Test.YtjcleokfpohpdaaGreatDoorU08
import Derived.Test.YtjcleokfpohpdaaGreatDoorU01
namespace Go.Proofs.YtjcleokfpohpdaaGreatDoor
open Go.RowKit
theorem RowsI.over {W W':World} {Z:Nat→Prop} {e:TypeId} {base:Nat} {vw vt:Value} {ws ts:List Tr} (h:RowsI W Z e base vw ws vt ts) (hs:W.heap.size≤W'.heap.size) (hk:∀ k,base≤k→W'.heap[k]? = W.heap[k]?):RowsI W' Z e base vw ws vt ts:=by
  have hlt:=h.lt
  obtain ⟨⟨vs,h1,h2,h3⟩,⟨us,k1,k2,k3⟩,ha,ho⟩:=h
  have hK:∀ x:Rv,LiveA W (rowsZ Z vw vt) base x→LiveA W' (rowsZ Z vw vt) base x:=fun x hx=>by
    obtain ⟨lo,hi,q1,q2,q3,q4,q5⟩:=hx
    exact ⟨lo,hi,q1,q2,Nat.le_trans q3 hs,q4,fun W2 r1 r2=>q5 W2 r1 fun k j1 j2=>(r2 k j1 j2).trans (hk k (by omega))⟩
  exact ⟨⟨vs,h1,fun x hx=>hK x (h2 x hx),own_at h3 fun g q=>hk g (hlt g (.inl q)).1⟩,⟨us,k1,fun x hx=>hK x (k2 x hx),own_at k3 fun g q=>hk g (hlt g (.inr q)).1⟩,ha,ho⟩
theorem itemInfo:(Tryz.prog.info? 53).map (fun i=>(i.zero,i.size,i.bytes))=some (some (.agg #[.string ⟨#[]⟩,.int .i64 0,.slice none 0 0,.slice none 0 0]),4,72):=by kernel_rfl
theorem oneP_key (x:It) (L:List Tok) (i:Nat) (c:UInt8):(oneP x L i c).1.key=x.key∧(oneP x L i c).1.spot=x.spot:=by
  unfold oneP
  repeat' split
  all_goals exact ⟨rfl,rfl⟩
theorem termsF_len:∀ (f:Nat) (L:List Tok) (i:Nat) (sg:ByteArray) (op:Nat),(termsF f L i sg op).1.length≤f
  | 0,L,i,sg,op=>by rw [termsF];exact Nat.le_refl _
  | f + 1,L,i,sg,op=>by
    rw [termsF]
    have:=termsF_len f L ((termF f L i op).2.1 + 1) sg op
    repeat' split
    · exact Nat.zero_le _
    · simp
    · simp only [List.length_cons];omega
theorem oneP_len (x:It) (L:List Tok) (i:Nat) (c:UInt8):(oneP x L i c).1.words.length≤x.words.length + 1∧(oneP x L i c).1.trees.length≤x.trees.length + (2 * L.length + 4):=by
  have h:(termsP L i sSemi 0).1.length≤2 * L.length + 4:=by
    unfold termsP
    exact Nat.le_trans (termsF_len _ _ _ _ _) (by omega)
  unfold oneP
  repeat' split
  all_goals (simp only [List.length_append,List.length_singleton];exact ⟨by omega,by omega⟩)
theorem shapes_len (k:ByteArray):(shapesOf k).length≤4:=by
  unfold shapesOf
  repeat' split
  all_goals decide
set_option maxRecDepth 100000 in
set_option maxHeartbeats 1000000 in
theorem rparse_any (s:ByteArray) (hs:s.size≤1000000) (w:World) :
    Calls Tryz.prog 48 #[.string s] w (ParsePost s w):=by
  obtain ⟨i0,hti0,hq0,hq1,hq2⟩:=info_parts itemInfo
  have SC:=Lib.hid (fun (W:World)=>rscan_any s hs W)
  unfold ScanPost at SC
  by_cases h0:outErr s=0
  · obtain ⟨h8,ts,hts⟩:=scan_of h0
    obtain ⟨o1,o2,o3⟩:=out_good h8 hts
    rw [o1,o2,o3] at SC
    have HPS:=Lib.hid (parseS_of h8 hts)
    have hT:=textToks_of hts
    have HOK:=Lib.hid (fun i=>tokOk_of h8 hts i)
    have hlen:=(scanS_small hts).2
    have hE:=hT.ended
    have hpos:=hT.pos
    clear h0 o1 o2 o3 hts hT
    go_enter Tryz.func48,Tryz.ntmps48
    go_wp2_with fail
    refine (SC.out _).mono ?_;rintro e w1 ⟨v,rfl,hv,hb1⟩
    have hp:=pair_new w1 (.int .i64 0) (.int .i64 0) 34
    obtain ⟨p0,p1,_,_⟩:=hp
    have HV:=Lib.hid hv
    have HW1:=Lib.hid hb1
    have HB1:=Lib.hid ((Below.refl w1.heap.size w1).alloc (Nat.le_refl _) (.cells #[.int .i64 0,.int .i64 0] 34))
    obtain ⟨a,c,rfl,hl,hv⟩:=hv
    rcases hv with hv | ⟨b,off,rfl,hlt,hc⟩
    · subst hv;exact absurd hpos (by decide)
    have HC:=Lib.hid (fun (j:Nat) (hj:j < ts.length) (W:World) (h:Below w1.heap.size w1 W)=>(hc j hj).below h hlt)
    clear hc hb1
    go_wp2_with fail
    go_loopw [7,8] (fun o i wr=>∃ (k:Nat) (acc:List It),i=.int .i64 k∧k < ts.length∧acc.length≤k∧RowIt wr 53 w1.heap.size o acc∧Hid (itemsP ts 0=joinI acc (itemsP ts k))∧Below w1.heap.size w1 wr) (fun _ i _=>ts.length - (intOf i).toNat)
    case atStart=>exact ⟨0,[],rfl,by omega,Nat.zero_le _,rowIt_nil _ _ _,Lib.hid (by cases itemsP ts 0<;>rfl),HB1.out⟩
    case round =>
      obtain ⟨k,acc,rfl,hk,hak,hrow,HP,hb⟩:=hrel
      have HROW:=Lib.hid hrow
      have HB:=Lib.hid hb
      have hat:=itemsP_at hE k
      obtain ⟨t,ht⟩:∃ t,tkD ts k=t:=⟨_,rfl⟩
      have hti:ts[k]=t:=by rw [← ht,tkD_at hk]
      have hci:=HC.out k hk wr hb
      rw [hti] at hci
      obtain ⟨m0,m1,m2,m3⟩:=hci
      have hk1:(k:Int) < (ts.length:Int):=by omega
      have hk0:(0:Int)≤(k:Int):=by omega
      have WK:=Lib.hid (fun (W:World)=>rwordk_any t W)
      have hok:=HOK.out k
      have hEk:=hE k
      have HTK:=Lib.hid (show (tkD ts k).place=t.place by rw [ht])
      rw [ht] at hat hok hEk
      clear ht hrow hb
      obtain ⟨tk,tx,tn,tp⟩:=t
      unfold tokVal at WK
      simp only at m0 m1 m2 m3 WK hat hEk HTK
      have HTI:=Lib.hid hti
      clear hti
      by_cases z:tk=0
      · subst z
        have HF:=Lib.hid (show parseS s=(0,0,acc) by rw [HPS.out,HP.out,hat,if_pos rfl];show (0,0,acc ++ [])=_;rw [List.append_nil])
        have hEND:=HROW.out.its (by omega)
        clear hat
        go_wp2_with fail
        go_ret3
        unfold ParsePost
        rw [HF.out]
        exact ⟨_,rfl,hEND,HW1.out.trans (HB.out.mono HW1.out.size)⟩
      have hz:(tk != 0)=true:=by simpa using z
      rw [if_neg z] at hat
      by_cases z1:tk=1
      · subst z1
        have hz1:((1:Int) != 1)=false:=rfl
        cases hwk:wordK ⟨1,tx,tn,tp⟩ with
        | true =>
          rw [hwk] at WK
          have HF:=Lib.hid (show parseS s=(2,tp,[]) by rw [HPS.out,HP.out,hat,if_pos (.inr hwk)];show (2,(tkD ts k).place,[])=_;rw [HTK.out])
          clear hat hwk
          go_wp2_with fail
          refine (WK.out _).mono ?_;rintro e w2 ⟨rfl,hb2⟩
          have HB2:=Lib.hid (below_next HB.out hb2)
          obtain ⟨m0,m1,m2,m3⟩:=HC.out k hk w2 HB2.out
          rw [HTI.out] at m3
          simp only at m3
          go_wp2_with fail
          go_region
          go_wp2_with fail
          go_ret3
          unfold ParsePost
          rw [HF.out]
          exact ⟨_,rfl,Its.none_ _ _ _,below_drewN (HW1.out.trans (HB2.out.mono HW1.out.size)) _⟩
        | false =>
          rw [hwk] at WK
          rw [if_neg (by rw [hwk];decide)] at hat
          clear hwk
          have HAT:=Lib.hid hat
          clear hat
          go_wp2_with fail
          refine (WK.out _).mono ?_;rintro e w2 ⟨rfl,hb2⟩
          have HB2:=Lib.hid (below_next HB.out hb2)
          have HROW2:=Lib.hid (HROW.out.below hb2)
          obtain ⟨m0,m1,m2,m3⟩:=HC.out k hk w2 HB2.out
          rw [HTI.out] at m0 m1 m2 m3
          simp only at m0 m1 m2 m3
          obtain ⟨_,j1,_,j3⟩:=HC.out k hk _ (HB2.out.alloc HB2.out.size (.cells #[.string ⟨#[]⟩,.int .i64 0,.slice none 0 0,.slice none 0 0] 53))
          rw [HTI.out] at j1 j3
          simp only at j1 j3
          clear hb2
          go_wp2_with fail
          go_region
          have hg0:=HB2.out.size
          have hbx:=(box_new w2 (.string tx) (.int .i64 tp) (.slice none 0 0) (.slice none 0 0) 53).below (B:=w2.heap.size + 1) ((Below.refl _ _).drew) (Nat.lt_succ_self _)
          have hsz3:(w2.alloc (.cells #[.string tx,.int .i64 tp,.slice none 0 0,.slice none 0 0] 53)).drew.heap.size=w2.heap.size + 1:=by simp
          have hb3:Below w2.heap.size w2 (w2.alloc (.cells #[.string tx,.int .i64 tp,.slice none 0 0,.slice none 0 0] 53)).drew:=((Below.refl _ _).alloc (Nat.le_refl _) _).drew
          obtain ⟨w3,hw3⟩:∃ w3,(w2.alloc (.cells #[.string tx,.int .i64 tp,.slice none 0 0,.slice none 0 0] 53)).drew=w3:=⟨_,rfl⟩
          rw [hw3] at hbx hsz3 hb3 ⊢
          clear hw3 m0 m1 m2 m3 j1 j3
          have HB3:=Lib.hid hb3
          have HBX:=Lib.hid hbx
          have SHP:=Lib.hid (fun (W:World)=>rshapes_any tx W)
          have hsl:=shapes_len tx
          have hsd:(shapeB tx).data.toList=shapesOf tx:=by unfold shapeB;simp
          have hss:(shapeB tx).size=(shapesOf tx).length:=by unfold shapeB;simp [ByteArray.size]
          obtain ⟨sb,hsb⟩:∃ sb,shapeB tx=sb:=⟨_,rfl⟩
          rw [hsb] at hsd hss SHP
          have HSD:=Lib.hid hsd
          have HDL:=Lib.hid (show sb.data.toList.length=sb.size from by rw [Array.length_toList];rfl)
          have hi1:k + 1 < ts.length:=hEk (by decide)
          have hss4:sb.size≤4:=by omega
          obtain ⟨x0,x1,x2,x3,xf0,xf1,xf2,xf3⟩:=hbx
          clear hsb hsd hss hsl hb3
          go_wp2_with fail
          refine (SHP.out _).mono ?_;rintro e w4 ⟨rfl,rfl⟩
          go_wp2_with fail
          clear x0 x1 x2 x3 xf0 xf1 xf2 xf3
          go_loopw [8,11] (fun ii kk wi=>∃ (n m:Nat) (ws ls:List Tr) (vw vt:Value),ii=.int .i64 n∧kk=.int .i64 m∧m≤sb.size∧k < n∧n < ts.length∧ws.length≤m∧ls.length≤m * 100000 ∧
            Hid (goP ts (shapesOf tx) ⟨tx,tp,[],[]⟩ (k + 1)=goP ts (sb.data.toList.drop m) ⟨tx,tp,ws,ls⟩ n)∧Box wi w2.heap.size (.string tx) (.int .i64 tp) vw vt∧RowsI wi (fun _=>False) 51 (w2.heap.size + 1) vw ws vt ls∧Below w2.heap.size w2 wi∧w2.heap.size + 1≤wi.heap.size) (fun _ kk _=>sb.size - (intOf kk).toNat)
          case atStart=>exact ⟨k + 1,0,[],[],_,_,by go_num,rfl,Nat.zero_le _,by omega,hi1,Nat.zero_le _,Nat.zero_le _,Lib.hid (by rw [HSD.out];rfl),HBX.out,rowsI_nil _ _ _ _,HB3.out,by omega⟩
          case round =>
            obtain ⟨n,m,ws,ls,vw,vt,rfl,rfl,hm,hkn,hn,hwl,hll,HG,hbx,hri,hb3,hs3⟩:=hrel
            obtain ⟨⟨aw,cw,rfl⟩,at_,ct,rfl⟩:=hri.slices
            by_cases hml:m < sb.size
            · have hmc:(m:Int) < (sb.size:Int):=by omega
              have hm0:(0:Int)≤(m:Int):=by omega
              have hgo:goP ts (sb.data.toList.drop m) ⟨tx,tp,ws,ls⟩ n=if (oneP ⟨tx,tp,ws,ls⟩ ts n sb[m]).2.2=false then (⟨tx,tp,ws,ls⟩,(oneP ⟨tx,tp,ws,ls⟩ ts n sb[m]).2.1,false) else goP ts (sb.data.toList.drop (m + 1)) (oneP ⟨tx,tp,ws,ls⟩ ts n sb[m]).1 (oneP ⟨tx,tp,ws,ls⟩ ts n sb[m]).2.1:=by
                rw [drop_cons sb hml,goP]
              have hin:=oneP_in hE ⟨tx,tp,ws,ls⟩ sb[m] hn
              have hle:=oneP_le ts ⟨tx,tp,ws,ls⟩ n sb[m]
              have hlen1:=oneP_len ⟨tx,tp,ws,ls⟩ ts n sb[m]
              have hkey:=oneP_key ⟨tx,tp,ws,ls⟩ ts n sb[m]
              have hrl:=hri.lt
              have hg9:w2.heap.size < wr.heap.size:=by omega
              have ONE:=fun (Z:Nat→Prop) (W:World) (hZ:∀ k,Z k→k < W.heap.size) (q1:w2.heap.size + 1≤W.heap.size) (q2:Below w1.heap.size w1 W) (q3:RowsI W Z 51 (w2.heap.size + 1) (.slice aw ws.length cw) ws (.slice at_ ls.length ct) ls) =>
                rone_at _ ts w1 HV.out hE HOK.out (by omega) ⟨tx,tp,ws,ls⟩ (.slice aw ws.length cw) (.slice at_ ls.length ct) sb[m] (by show ws.length≤100000;omega) (by show ls.length≤1000000;omega) n hn (w2.heap.size + 1) (by omega) W q1 q2 Z hZ q3
              unfold OneAt itVal at ONE
              obtain ⟨⟨key',spot',ws',ls'⟩,hx'⟩:∃ x',(oneP ⟨tx,tp,ws,ls⟩ ts n sb[m]).1=x':=⟨_,rfl⟩
              obtain ⟨n',hn'⟩:∃ n',(oneP ⟨tx,tp,ws,ls⟩ ts n sb[m]).2.1=n':=⟨_,rfl⟩
              obtain ⟨b',hb'⟩:∃ b',(oneP ⟨tx,tp,ws,ls⟩ ts n sb[m]).2.2=b':=⟨_,rfl⟩
              rw [hx'] at hkey
              have hke1:tx=key':=hkey.1.symm
              have hke2:tp=spot':=hkey.2.symm
              subst hke1 hke2
              clear hkey
              rw [hx',hn',hb'] at ONE hgo
              rw [hx'] at hlen1
              rw [hn'] at hin hle
              simp only at ONE hlen1
              have hb1w:=HB2.out.trans (hb3.mono HB2.out.size)
              have hbd:Below wr.heap.size wr wr.drew:=(Below.refl _ _).drew
              have hba:Below wr.heap.size wr (wr.alloc (.cells #[.string ⟨#[]⟩,.int .i64 0,.slice none 0 0,.slice none 0 0] 53)).drew:=((Below.refl _ _).alloc (Nat.le_refl _) _).drew
              have hbxd:=hbx.below hbd hg9
              have hbxa:=hbx.below hba hg9
              have ONEd:=Lib.hid ((ONE (fun _=>False) wr.drew (fun k h=>h.elim) (by rw [show wr.drew.heap.size=wr.heap.size from rfl];exact hs3) (below_next hb1w hbd) (hri.below hbd)).mono fun e w' hh=>(show ∃ aw' cw' at' ct',e=.returned (.tuple #[.agg #[.string tx,.int .i64 tp,.slice aw' ws'.length cw',.slice at' ls'.length ct'],.int .i64 n',.bool b'])∧RowsI w' (fun _=>False) 51 (w2.heap.size + 1) (.slice aw' ws'.length cw') ws' (.slice at' ls'.length ct') ls'∧Below (w2.heap.size + 1) wr w'∧Box w' w2.heap.size (.string tx) (.int .i64 tp) (.slice aw ws.length cw) (.slice at_ ls.length ct) from by
                obtain ⟨vw',vt',e1,r1,r2,r3,_⟩:=hh
                obtain ⟨⟨aw',cw',rfl⟩,at',ct',rfl⟩:=r1.slices
                exact ⟨aw',cw',at',ct',e1,r1,((Below.refl _ _).drew).trans r2,hbxd.stays (r2.block _ (Nat.lt_succ_self _))⟩))
              have ONEa:=Lib.hid ((ONE (fun k=>k=wr.heap.size) (wr.alloc (.cells #[.string ⟨#[]⟩,.int .i64 0,.slice none 0 0,.slice none 0 0] 53)).drew (fun k e=>by rw [e];simp) (by have:=hba.size;omega) (below_next hb1w hba) ((hri.beside (Z':=fun k=>k=wr.heap.size) fun k e=>.inr (by omega)).below hba)).mono fun e w' hh=>(show ∃ aw' cw' at' ct',e=.returned (.tuple #[.agg #[.string tx,.int .i64 tp,.slice aw' ws'.length cw',.slice at' ls'.length ct'],.int .i64 n',.bool b'])∧RowsI w' (fun k=>k=wr.heap.size) 51 (w2.heap.size + 1) (.slice aw' ws'.length cw') ws' (.slice at' ls'.length ct') ls'∧Below (w2.heap.size + 1) wr w'∧Box w' w2.heap.size (.string tx) (.int .i64 tp) (.slice aw ws.length cw) (.slice at_ ls.length ct)∧Box w' wr.heap.size (.string ⟨#[]⟩) (.int .i64 0) (.slice none 0 0) (.slice none 0 0) from by
                obtain ⟨vw',vt',e1,r1,r2,r3,_⟩:=hh
                obtain ⟨⟨aw',cw',rfl⟩,at',ct',rfl⟩:=r1.slices
                have hz:=(box_new wr (.string ⟨#[]⟩) (.int .i64 0) (.slice none 0 0) (.slice none 0 0) 53).below (B:=wr.heap.size + 1) ((Below.refl _ _).drew) (Nat.lt_succ_self _)
                exact ⟨aw',cw',at',ct',e1,r1,(hba.mono hs3).trans r2,hbxa.stays (r2.block _ (Nat.lt_succ_self _)),hz.stays (r3 _ (lt_of_cellR hz.c0) fun e=>by have:=(hrl _ e).2;omega)⟩))
              have KEEP:=Lib.hid (fun (W:World) (h:Box W w2.heap.size (.string tx) (.int .i64 tp) (.slice aw ws.length cw) (.slice at_ ls.length ct))=>(show W.cell? ⟨w2.heap.size,0,none⟩=some (.string tx)∧W.cell? ⟨w2.heap.size,1,none⟩=some (.int .i64 tp)∧W.cell? ⟨w2.heap.size,2,none⟩=some (.slice aw ws.length cw)∧W.cell? ⟨w2.heap.size,3,none⟩=some (.slice at_ ls.length ct) from ⟨h.c0,h.c1,h.c2,h.c3⟩))
              have KAL:=Lib.hid (fun (W:World) (o:Obj) (h:Box W w2.heap.size (.string tx) (.int .i64 tp) (.slice aw ws.length cw) (.slice at_ ls.length ct))=>h.below ((Below.refl W.heap.size W).alloc (Nat.le_refl _) o) (lt_of_cellR h.c0))
              have KST:=Lib.hid (fun (W:World) (g:Nat) (z0 z1 z2 z3:Value) (hg:w2.heap.size≠g) (h:Box W w2.heap.size (.string tx) (.int .i64 tp) (.slice aw ws.length cw) (.slice at_ ls.length ct))=>(show Box ((((W.setCell ⟨g,0,none⟩ z0).setCell ⟨g,1,none⟩ z1).setCell ⟨g,2,none⟩ z2).setCell ⟨g,3,none⟩ z3) w2.heap.size (.string tx) (.int .i64 tp) (.slice aw ws.length cw) (.slice at_ ls.length ct) from
                h.stays (by rw [Below.heap_setCell _ _ _ _ hg,Below.heap_setCell _ _ _ _ hg,Below.heap_setCell _ _ _ _ hg,Below.heap_setCell _ _ _ _ hg])))
              have HGO:=Lib.hid hgo
              have HB1W:=Lib.hid hb1w
              have HBX:=Lib.hid hbx
              clear hx' hn' hb' hgo ONE hbd hba hb1w hrl hri hbx
              go_wp2_with fail
              go_region_held3 (fun W=>W.cell? ⟨w2.heap.size,0,none⟩=some (.string tx)∧W.cell? ⟨w2.heap.size,1,none⟩=some (.int .i64 tp)∧W.cell? ⟨w2.heap.size,2,none⟩=some (.slice aw ws.length cw)∧W.cell? ⟨w2.heap.size,3,none⟩=some (.slice at_ ls.length ct))
                (first
                  | exact KEEP.out _ (by assumption)
                  | exact KEEP.out _ (KAL.out _ _ (by assumption))
                  | exact KEEP.out _ (KST.out _ _ _ _ _ _ (by omega) (by assumption))
                  | exact KEEP.out _ (KST.out _ _ _ _ _ _ (by omega) (KAL.out _ _ (by assumption))))
                ((first
                  | (go_at_call 86;refine ONEd.out.mono ?_;rintro e w' ⟨aw',cw',at',ct',rfl,hr',hb',hx'⟩;have hlx:=lt_of_cellR hx'.c0)
                  | (go_at_call 86;refine ONEa.out.mono ?_;rintro e w' ⟨aw',cw',at',ct',rfl,hr',hb',hx',hy'⟩;have hlx:=lt_of_cellR hx'.c0;obtain ⟨j0,j1,j2,j3,jf0,jf1,jf2,jf3⟩:=id hy')))
              all_goals (first
                | (have hy6:=box_new w' (.string tx) (.int .i64 tp) (.slice aw' ws'.length cw') (.slice at' ls'.length ct') 53
                   have hx6:=KAL.out w' (.cells #[.string tx,.int .i64 tp,.slice aw' ws'.length cw',.slice at' ls'.length ct'] 53) hx'
                   have hr6:=hr'.below ((Below.refl w'.heap.size w').alloc (Nat.le_refl _) (.cells #[.string tx,.int .i64 tp,.slice aw' ws'.length cw',.slice at' ls'.length ct'] 53))
                   have hb6:=hb'.alloc (by omega) (.cells #[.string tx,.int .i64 tp,.slice aw' ws'.length cw',.slice at' ls'.length ct'] 53)
                   obtain ⟨w6,hw6⟩:∃ w6,w'.alloc (.cells #[.string tx,.int .i64 tp,.slice aw' ws'.length cw',.slice at' ls'.length ct'] 53)=w6:=⟨_,rfl⟩
                   rw [hw6] at hy6 hx6 hr6 hb6 ⊢
                   clear hw6
                   have hgo12:w2.heap.size + 1≤w'.heap.size:=by omega
                   obtain ⟨g12,hg12⟩:∃ g,w'.heap.size=g:=⟨_,rfl⟩
                   rw [hg12] at hy6 hgo12 ⊢)
                | (have hy6:=hy'.fill (.string tx) (.int .i64 tp) (.slice aw' ws'.length cw') (.slice at' ls'.length ct')
                   have hx6:=KST.out w' wr.heap.size (.string tx) (.int .i64 tp) (.slice aw' ws'.length cw') (.slice at' ls'.length ct') (by omega) hx'
                   have hr6:=(hr'.aside (W':=((((w'.setCell ⟨wr.heap.size,0,none⟩ (.string tx)).setCell ⟨wr.heap.size,1,none⟩ (.int .i64 tp)).setCell ⟨wr.heap.size,2,none⟩ (.slice aw' ws'.length cw')).setCell ⟨wr.heap.size,3,none⟩ (.slice at' ls'.length ct'))) (by simp) (fun k hk=>by
                     have hk':k≠wr.heap.size:=hk
                     rw [Below.heap_setCell _ _ _ _ hk',Below.heap_setCell _ _ _ _ hk',Below.heap_setCell _ _ _ _ hk',Below.heap_setCell _ _ _ _ hk'])).beside (Z':=fun _=>False) (fun k h=>h.elim)
                   have hb6:=(((hb'.setCell (p:=⟨wr.heap.size,0,none⟩) hs3 (.string tx)).setCell (p:=⟨wr.heap.size,1,none⟩) hs3 (.int .i64 tp)).setCell (p:=⟨wr.heap.size,2,none⟩) hs3 (.slice aw' ws'.length cw')).setCell (p:=⟨wr.heap.size,3,none⟩) hs3 (.slice at' ls'.length ct')
                   obtain ⟨w6,hw6⟩:∃ w6,((((w'.setCell ⟨wr.heap.size,0,none⟩ (.string tx)).setCell ⟨wr.heap.size,1,none⟩ (.int .i64 tp)).setCell ⟨wr.heap.size,2,none⟩ (.slice aw' ws'.length cw')).setCell ⟨wr.heap.size,3,none⟩ (.slice at' ls'.length ct'))=w6:=⟨_,rfl⟩
                   rw [hw6] at hy6 hx6 hr6 hb6 ⊢
                   clear hw6
                   have hgo12:w2.heap.size + 1≤wr.heap.size:=hs3
                   obtain ⟨g12,hg12⟩:∃ g,wr.heap.size=g:=⟨_,rfl⟩
                   rw [hg12] at hy6 hgo12 ⊢))
              all_goals (
                have HR6:=Lib.hid hr6
                have hb61:=HB1W.out.trans (hb6.mono (by omega))
                have HB61:=Lib.hid hb61
                have HB62:=Lib.hid (hb3.trans (hb6.mono (Nat.le_succ _)))
                have HX6:=Lib.hid hx6
                have hsz6:w2.heap.size + 1≤w6.heap.size:=by have:=hb6.size;omega
                have htn:=HC.out n' hin w6 hb61
                obtain ⟨t0,t1,t2,t3⟩:=htn
                have hn1c:(n':Int) < (ts.length:Int):=by omega
                have hn0c:(0:Int)≤(n':Int):=by omega
                obtain ⟨y0,y1,y2,y3,_,_,_,_⟩:=hy6
                obtain ⟨x0,x1,x2,x3,xf0,xf1,xf2,xf3⟩:=hx6
                clear hr6 hb6 hb61 hr' hb' hx'
                cases b' with
                | false =>
                  have HF:=Lib.hid (show parseS s=(2,ts[n'].place,[]) by
                    have hgoF:goP ts (shapesOf tx) ⟨tx,tp,[],[]⟩ (k + 1)=(⟨tx,tp,ws,ls⟩,n',false):=by rw [HG.out,HGO.out,if_pos rfl]
                    rw [HPS.out,HP.out,HAT.out,hgoF,if_pos rfl]
                    show (2,(tkD ts n').place,[])=_
                    rw [tkD_at hin])
                  go_wp2_with fail
                  go_region
                  go_wp2_with fail
                  go_ret3
                  unfold ParsePost
                  rw [HF.out]
                  exact ⟨_,rfl,Its.none_ _ _ _,below_drewN (HW1.out.trans (HB61.out.mono HW1.out.size)) _⟩
                | true =>
                  have HG7:=Lib.hid (show goP ts (shapesOf tx) ⟨tx,tp,[],[]⟩ (k + 1)=goP ts (sb.data.toList.drop (m + 1)) ⟨tx,tp,ws',ls'⟩ n' by rw [HG.out,HGO.out,if_neg (show ¬ (true=false) by decide)])
                  have HX7:=Lib.hid (HX6.out.fill (.string tx) (.int .i64 tp) (.slice aw' ws'.length cw') (.slice at' ls'.length ct'))
                  have HR7:=Lib.hid (HR6.out.over (W':=((((w6.setCell ⟨w2.heap.size,0,none⟩ (.string tx)).setCell ⟨w2.heap.size,1,none⟩ (.int .i64 tp)).setCell ⟨w2.heap.size,2,none⟩ (.slice aw' ws'.length cw')).setCell ⟨w2.heap.size,3,none⟩ (.slice at' ls'.length ct'))) (by simp) fun k hk=>by
                    have hk':k≠w2.heap.size:=by omega
                    rw [Below.heap_setCell _ _ _ _ hk',Below.heap_setCell _ _ _ _ hk',Below.heap_setCell _ _ _ _ hk',Below.heap_setCell _ _ _ _ hk'])
                  have HB7:=Lib.hid ((((HB62.out.setCell (p:=⟨w2.heap.size,0,none⟩) (Nat.le_refl _) (.string tx)).setCell (p:=⟨w2.heap.size,1,none⟩) (Nat.le_refl _) (.int .i64 tp)).setCell (p:=⟨w2.heap.size,2,none⟩) (Nat.le_refl _) (.slice aw' ws'.length cw')).setCell (p:=⟨w2.heap.size,3,none⟩) (Nat.le_refl _) (.slice at' ls'.length ct'))
                  go_wp2_with fail
                  go_roundw
                  case rel=>exact ⟨n',m + 1,ws',ls',_,_,rfl,by go_num,by omega,by omega,hin,by omega,by omega,Lib.hid HG7.out,HX7.out,HR7.out,HB7.out,by simp;omega⟩
                  case measure=>simp [intOf];omega)
            · obtain rfl:m=sb.size:=by omega
              have hgo:goP ts (shapesOf tx) ⟨tx,tp,[],[]⟩ (k + 1)=(⟨tx,tp,ws,ls⟩,n,true):=by
                rw [HG.out,List.drop_eq_nil_of_le (by rw [HDL.out];exact Nat.le_refl _),goP]
              have HIT:=Lib.hid (show itemsP ts 0=joinI (acc ++ [⟨tx,tp,ws,ls⟩]) (itemsP ts n) by
                rw [HP.out,HAT.out,hgo,if_neg (show ¬ (true=false) by decide),joinI_join])
              clear hgo
              have hrow:=HROW2.out.below hb3
              obtain ⟨vs,hvt,hvl,hown⟩:=hrow
              obtain ⟨_,_,_,hown0⟩:=HROW2.out
              have hlive:LiveIt wr u7.ownBlock w1.heap.size ⟨⟨tx,tp,ws,ls⟩,.slice aw ws.length cw,.slice at_ ls.length ct⟩ :=
                ⟨w2.heap.size + 1,wr.heap.size,by omega,hs3,Nat.le_refl _,(fun q hq=>.inl (by have:=own_row_lt hown0 q hq;omega)),fun W' q1 q2=>by
                  obtain ⟨r1,r2⟩:=hri.made (by omega) (by omega) W' q1 q2
                  have hok':=hok.len
                  exact ⟨r1,r2,hok'⟩⟩
              have hW:Below wr.heap.size wr (wr.alloc (.cells #[.string tx,.int .i64 tp,.slice aw ws.length cw,.slice at_ ls.length ct] 53)):=(Below.refl _ _).alloc (Nat.le_refl _) _
              have HLV:=Lib.hid (hlive.below hW)
              have HVL:=Lib.hid (fun y hy=>(hvl y hy).below hW)
              have HVT:=Lib.hid hvt
              have hbw:=below_next HB2.out hb3
              have HBW:=Lib.hid ((hb3.alloc hb3.size (.cells #[.string tx,.int .i64 tp,.slice aw ws.length cw,.slice at_ ls.length ct] 53)))
              have hsw:=hbw.size
              obtain ⟨x0,x1,x2,x3,_,_,_,_⟩:=hbx
              clear hvt hvl hlive hW hri hown0 hb3 hbw
              go_wp2_with (at_builtin;refine wpList_append_own_at _ rfl _ _ 42 rfl w1.heap.size 53 i0 (.agg #[.string ⟨#[]⟩,.int .i64 0,.slice none 0 0,.slice none 0 0]) 4 72 Tryz.underlying42 hti0 hq0 hq1 hq2 rfl (by decide) _ acc.length _ rfl (hown.alloc _) ⟨wr.heap.size,0,none⟩ 1 1 [.string tx,.int .i64 tp,.slice aw ws.length cw,.slice at_ ls.length ct] rfl rfl ?c1 ?c2 ?c3 ?c4 ?c5 ?_)
              (try case c1=>exact new_row4 _ _ rfl _ _ _ _ _)
              (try case c2=>first | exact ⟨rfl,rfl,rfl,rfl⟩ | (intro u hu;simp at hu;rcases hu with rfl | rfl | rfl | rfl<;>rfl))
              case c3=>unfold maxLen;omega
              case c4=>omega
              case c5=>first | omega | (simp;omega)
              intro v' w5 hown' hgrow _ hat5
              have hrow5:=RowIt.snoc (y:=⟨⟨tx,tp,ws,ls⟩,.slice aw ws.length cw,.slice at_ ls.length ct⟩) HVT.out HVL.out HLV.out hown' hgrow (by first | exact hat5 | simpa using hat5)
              have hb5:Below w1.heap.size w1 w5:=(HB2.out.trans (HBW.out.mono HB2.out.size)).grown hgrow (by simp;omega) (own_row_ge hown)
              have HROW5:=Lib.hid hrow5
              have HB5:=Lib.hid hb5
              clear hrow5 hb5 hown' hgrow hat5 hown
              go_wp2_with fail
              go_roundw
              case rel=>exact ⟨n,acc ++ [⟨tx,tp,ws,ls⟩],rfl,hn,by rw [List.length_append];simp;omega,HROW5.out,Lib.hid HIT.out,HB5.out⟩
              case measure=>simp [intOf];omega
      · have hz1:(tk != 1)=true:=by simpa using z1
        have HF:=Lib.hid (show parseS s=(2,tp,[]) by rw [HPS.out,HP.out,hat,if_pos (.inl z1)];show (2,(tkD ts k).place,[])=_;rw [HTK.out])
        clear hat
        go_wp2_with fail
        go_region
        go_wp2_with fail
        go_ret3
        unfold ParsePost
        rw [HF.out]
        exact ⟨_,rfl,Its.none_ _ _ _,below_drewN (HW1.out.trans (HB.out.mono HW1.out.size)) _⟩
  · have hpe:=parseS_err h0
    have HPE:=Lib.hid hpe
    obtain ⟨er,her⟩:∃ er,outErr s=er:=⟨_,rfl⟩
    obtain ⟨ea,hea⟩:∃ ea,outAt s=ea:=⟨_,rfl⟩
    rw [her,hea] at SC HPE
    rw [her] at h0
    have hn:(er != 0)=true:=by simpa using h0
    clear hpe her hea h0
    go_enter Tryz.func48,Tryz.ntmps48
    go_wp2_with fail
    refine (SC.out _).mono ?_;rintro e w1 ⟨v,rfl,_,hb1⟩
    have hp:=pair_new w1 (.int .i64 er) (.int .i64 ea) 34
    obtain ⟨p0,p1,_,_⟩:=hp
    have HB:=Lib.hid (hb1.alloc hb1.size (.cells #[.int .i64 er,.int .i64 ea] 34))
    go_wp2_with fail
    go_region
    go_wp2_with fail
    go_ret3
    unfold ParsePost
    rw [HPE.out]
    exact ⟨_,rfl,Its.none_ _ _ _,below_drewN HB.out _⟩
end Go.Proofs.YtjcleokfpohpdaaGreatDoor
namespace Go.Proofs.YtjcleokfpohpdaaGreatDoor
open Go.RowKit
def MadePost (u:Tm) (w0 w:World) (e:Ending) (w':World):Prop:=∃ z:Tv,e=.returned z.val∧z.t=u∧Fresh w0 w w' z∧Below w.heap.size w w'
theorem made_box {w0 w wz wr w5:World} {a:Option Addr} {c n:Nat} {vs:List Tv} {k:Int} {s:ByteArray} {nn:Int} {ts:List Tm} (hn:ts.length=n) (hvt:vs.map Tv.t=ts) (hfit:Fit k s nn) (hlen:n≤9223372036854775807)
    (hown:wr.ownsRow wz.heap.size 70 4 (.slice a n c) n (rowTv vs)) (hvb:∀ z ∈ vs,Beside w0 wz wr (.slice a n c) z) (hwz:Below w.heap.size w wz) (hbw:Below wz.heap.size wz wr) (hb5:Below wr.heap.size wr w5)
    {g:Nat} (hg:w.heap.size≤g) (hg2:g < wz.heap.size) (u0 u1 u2 u3:Value) :
    MadePost (.mk k s nn ts) w0 w (.returned (.agg #[.int .i64 k,.string s,.int .i64 nn,.slice a n c])) ((((w5.setCell ⟨g,0,none⟩ u0).setCell ⟨g,1,none⟩ u1).setCell ⟨g,2,none⟩ u2).setCell ⟨g,3,none⟩ u3):=by
  have hbe:=below_next hbw hb5
  refine ⟨⟨.mk k s nn ts,a,c⟩,by simp [Tv.val,Tm.kind,Tm.name,Tm.n,Tm.args,hn],rfl,?_,below_sets (hwz.trans (hbe.mono hwz.size)) hg _ _ _ _⟩
  have h5:=own_below hown hb5
  have h8:=own_setCell (own_setCell (own_setCell (own_setCell h5 (p:=⟨g,0,none⟩) hg2 u0) (p:=⟨g,1,none⟩) hg2 u1) (p:=⟨g,2,none⟩) hg2 u2) (p:=⟨g,3,none⟩) hg2 u3
  refine fresh_row (vs:=vs) (n:=n) (own_lower h8 hwz.size) hn hvt hfit hlen (fun W hWb hWs hWa v hv=>?_)
  have hkk:∀ k,k≠g→((((w5.setCell ⟨g,0,none⟩ u0).setCell ⟨g,1,none⟩ u1).setCell ⟨g,2,none⟩ u2).setCell ⟨g,3,none⟩ u3).heap[k]? = w5.heap[k]? := fun k hkR=>by
    rw [Below.heap_setCell _ _ _ _ hkR,Below.heap_setCell _ _ _ _ hkR,Below.heap_setCell _ _ _ _ hkR,Below.heap_setCell _ _ _ _ hkR]
  have hz:=hwz.size
  have hsz5:=hb5.size
  refine hvb v hv W hWb (by simp at hWs;omega) (fun k k1 k2 _=>?_)
  rw [hWa k (by omega) (by simp;omega),hkk k (by omega)]
  exact hb5.block k k2
end Go.Proofs.YtjcleokfpohpdaaGreatDoor
namespace Go.Proofs.YtjcleokfpohpdaaGreatDoor
open Go.RowKit
set_option maxHeartbeats 400000 in
theorem of_any (k:Int) (s:ByteArray) (n:Int) (a:Option Addr) (l c:Nat) (w:World) :
    Calls Tryz.prog 115 #[.int .i64 k,.string s,.int .i64 n,.slice a l c] w fun e w'=>e=.returned (.agg #[.int .i64 k,.string s,.int .i64 n,.slice a l c])∧Below w.heap.size w w':=by
  go_enter Tryz.func115,Tryz.ntmps115
  go_wp2_with fail
  exact bodyPost_ret (v:=.agg #[.int .i64 k,.string s,.int .i64 n,.slice a l c]) (by simp [results,Tryz.results115,go_sem]) rfl ⟨rfl,(Below.refl _ _).alloc (Nat.le_refl _) _⟩
end Go.Proofs.YtjcleokfpohpdaaGreatDoor
