/-
  The term that begins at a token, by the reference of layer 11: Term, where Terms is as it should be.
  Two rows of trees that grow beside each other: an item's words and its terms. No function of the program.
  Terms as they are shown are spelt out of the tokens that they were read of. No function of the program.
  Items read of tokens, and shown: there and back. No function of the program.
-/
import Derived.Test.YtjcleokfpohpdaaGreatDoorU05
import Derived.Test.YtjcleokfpohpdaaGreatDoorU02
import Derived.OwnWalk
import Derived.Test.YtjcleokfpohpdaaGreatDoorU04
namespace Go.Proofs.YtjcleokfpohpdaaGreatDoor
open Go.RowKit
structure TokOk (t:Tok):Prop where
  nlo : -9223372036854775808≤t.n
  nhi:t.n≤9223372036854775807
  plo : -9223372036854775808≤t.place
  phi:t.place≤9223372036854775807
  len:t.text.size≤9223372036854775807
def TermGPost (L:List Tok) (i op:Nat) (w:World) (e:Ending) (w':World):Prop :=
  ∃ y:Rv,e=.returned (.tuple #[y.val,.int .i64 (termP L i op).2.1,.bool (termP L i op).2.2])∧y.t=(termP L i op).1∧MadeR w w' y∧Below w.heap.size w w'
def TermsGPost (L:List Tok) (i:Nat) (sg:ByteArray) (op:Nat) (w:World) (e:Ending) (w':World):Prop :=
  ∃ v,e=.returned (.tuple #[v,.int .i64 (termsP L i sg op).2.1,.bool (termsP L i sg op).2.2])∧MadeRs w w' v (termsP L i sg op).1∧Below w.heap.size w w'∧RowR w' 51 w.heap.size v (termsP L i sg op).1∧(termsP L i sg op).1.length≤1000000
theorem leafK_bd (t:Tok):0≤leafK t∧leafK t≤4:=by unfold leafK;repeat' split;all_goals omega
theorem rv_plain {k:Int} {s:ByteArray} {n p:Int} (h:FitR k s n p) (w w':World):MadeR w w' ⟨.mk k s n p [],none,0⟩:=fun _ _ _=>⟨h,by show (0:Nat)≤_∧(0:Nat)≤0;omega,.inl rfl⟩
theorem rv_args {w w3 w4 U:World} {k:Int} {s:ByteArray} {n p:Int} {xs:List Tr} {a:Option Addr} {m c:Nat} (h:FitR k s n p) (hm:MadeRs w3 w4 (.slice a m c) xs) (h1:w.heap.size≤w3.heap.size) (h2:w4.heap.size≤U.heap.size) (h3:∀ j,w3.heap.size≤j→j < w4.heap.size→U.heap[j]? = w4.heap[j]?) :
    MadeR w U ⟨.mk k s n p xs,a,c⟩:=fun W g1 g2=>by
  obtain ⟨a',c',e,ha⟩:=hm W (Nat.le_trans h2 g1) fun j j1 j2=>(g2 j (Nat.le_trans h1 j1) (Nat.lt_of_lt_of_le j2 h2)).trans (h3 j j1 j2)
  cases e
  exact ⟨h,ha⟩
theorem sets5_heap (w:World) (g:Nat) (y0 y1 y2 y3 y4:Value):∀ b,b≠g→(((((w.setCell ⟨g,0,none⟩ y0).setCell ⟨g,1,none⟩ y1).setCell ⟨g,2,none⟩ y2).setCell ⟨g,3,none⟩ y3).setCell ⟨g,4,none⟩ y4).heap[b]? = w.heap[b]? := fun b h=>by
  rw [Below.heap_setCell _ _ _ _ h,Below.heap_setCell _ _ _ _ h,Below.heap_setCell _ _ _ _ h,Below.heap_setCell _ _ _ _ h,Below.heap_setCell _ _ _ _ h]
theorem Box5.set4 {w:World} {g:Nat} {x0 x1 x2 x3 x4:Value} (h:Box5 w g x0 x1 x2 x3 x4) (y4:Value):Box5 (w.setCell ⟨g,4,none⟩ y4) g x0 x1 x2 x3 y4 where
  c0:=by rw [cell_off5 g 4 0 (by decide)];exact h.c0
  c1:=by rw [cell_off5 g 4 1 (by decide)];exact h.c1
  c2:=by rw [cell_off5 g 4 2 (by decide)];exact h.c2
  c3:=by rw [cell_off5 g 4 3 (by decide)];exact h.c3
  c4:=World.cell?_setCell_same (u:=x4) _ _ _ h.c4
  f0:=by simp [h.f0]
  f1:=by simp [h.f1]
  f2:=by simp [h.f2]
  f3:=by simp [h.f3]
  f4:=by simp [h.f4]
set_option maxRecDepth 100000 in
set_option maxHeartbeats 8000000 in
theorem rterm_one (v:Value) (L:List Tok) (hE:Ended L) (hO:∀ i,TokOk (tkD L i)) (hlen:L.length≤100000) (i op:Nat) (hi:i < L.length) (hop:op≤1000) (w:World) (hv:Toks w v L)
    (hT:∀ (j:Nat) (W:World),op < 40→i < j→j < L.length→Toks W v L→Calls Tryz.prog 111 #[v,.int .i64 j,.string sComma,.int .i64 ((op:Int) + 1)] W (TermsGPost L j sComma (op + 1) W)) :
    Calls Tryz.prog 59 #[v,.int .i64 i,.int .i64 op] w (TermGPost L i op w):=by
  have HVB:=Lib.hid (fun (W:World) (h:Below w.heap.size w W)=>hv.below h)
  obtain ⟨a,c,rfl,hl,h⟩:=hv
  rcases h with h | ⟨b,off,rfl,hlt,hc⟩
  · subst h;cases hi
  obtain ⟨t,ht⟩:∃ t,tkD L i=t:=⟨_,rfl⟩
  have hok:=hO i
  have HL1:=Lib.hid (fun h=>termP_leaf (L:=L) (i:=i) (op:=op) h)
  have HL2:=Lib.hid (fun h1 h2=>termP_none (L:=L) (i:=i) (op:=op) h1 h2)
  have HL3:=Lib.hid (fun h1 h2 h3=>termP_const (L:=L) (i:=i) (op:=op) h1 h2 h3)
  have HL4:=Lib.hid (fun h1 h2 h3 h4=>termP_deep (L:=L) (i:=i) (op:=op) h1 h2 h3 h4)
  have HL5:=Lib.hid (fun h1 h2 h3 h4=>termP_args (L:=L) (i:=i) (op:=op) h1 h2 h3 h4)
  have HIN:=Lib.hid (fun h=>hE i h)
  rw [ht] at hok HL1 HL2 HL3 HL4 HL5 HIN
  have hti:L[i]=t:=by rw [← ht,tkD_at hi]
  have hci:=hc i hi
  rw [hti] at hci
  obtain ⟨m0,m1,m2,m3⟩:=hci
  have hk1:(i:Int) < (L.length:Int):=by omega
  have hk0:(0:Int)≤(i:Int):=by omega
  have HC:=Lib.hid (fun (j:Nat) (hj:j < L.length) (W:World) (h:Below w.heap.size w W)=>(hc j hj).below h hlt)
  have WK:=Lib.hid (fun (W:World)=>rwordk_any t W)
  have hkb:=leafK_bd t
  clear ht hti hc
  obtain ⟨tk,tx,tn,tp⟩:=t
  obtain ⟨ok1,ok2,ok3,ok4,ok5⟩:=hok
  unfold tokVal at WK
  simp only at m0 m1 m2 m3 WK ok1 ok2 ok3 ok4 ok5 HL1 HL2 HL3 HL4 HL5 HIN
  obtain ⟨lk,hlk⟩:∃ lk,leafK ⟨tk,tx,tn,tp⟩=lk:=⟨_,rfl⟩
  rw [hlk] at hkb HL1 HL2 HL3 HL4 HL5
  obtain ⟨wa,hwa⟩:∃ wa,wa=(w.alloc (.cells #[.int .i64 0,.string ⟨#[]⟩,.int .i64 0,.int .i64 0,.slice none 0 0] 51)).alloc (.cells #[.int .i64 tk,.string tx,.int .i64 tn,.int .i64 tp] 129):=⟨_,rfl⟩
  go_enter Tryz.func59,Tryz.ntmps59
  go_wp2_with fail
  rw [← hwa]
  have bt:=box_new (w.alloc (.cells #[.int .i64 0,.string ⟨#[]⟩,.int .i64 0,.int .i64 0,.slice none 0 0] 51)) (.int .i64 tk) (.string tx) (.int .i64 tn) (.int .i64 tp) 129
  have br:=(box5_new w (.int .i64 0) (.string ⟨#[]⟩) (.int .i64 0) (.int .i64 0) (.slice none 0 0) 51).below ((Below.refl _ _).alloc (Nat.le_refl _) (.cells #[.int .i64 tk,.string tx,.int .i64 tn,.int .i64 tp] 129)) (by simp)
  have hb0:Below w.heap.size w wa:=by rw [hwa];exact ((Below.refl _ _).alloc (Nat.le_refl _) _).alloc (by simp) _
  rw [← hwa] at bt br
  rw [show (w.alloc (.cells #[.int .i64 0,.string ⟨#[]⟩,.int .i64 0,.int .i64 0,.slice none 0 0] 51)).heap.size=w.heap.size + 1 from by simp] at bt
  have hwz:wa.heap.size=w.heap.size + 2:=by rw [hwa];simp
  have hlt2:w.heap.size + 1 < wa.heap.size:=by omega
  have KEEP:=Lib.hid (fun (W:World) (h:Below wa.heap.size wa W)=>(show W.cell? ⟨w.heap.size + 1,0,none⟩=some (.int .i64 tk)∧W.cell? ⟨w.heap.size + 1,1,none⟩=some (.string tx)∧W.cell? ⟨w.heap.size + 1,2,none⟩=some (.int .i64 tn)∧W.cell? ⟨w.heap.size + 1,3,none⟩=some (.int .i64 tp) from
    ⟨(bt.below h hlt2).c0,(bt.below h hlt2).c1,(bt.below h hlt2).c2,(bt.below h hlt2).c3⟩))
  have HBR:=Lib.hid (fun (W:World) (h:Below wa.heap.size wa W)=>br.below h (show w.heap.size < wa.heap.size by omega))
  have HB0:=Lib.hid hb0
  refine leaf_region _ wa (w.heap.size + 1) tk tx tn tp lk _ _ _ _ _ _ _ _ _ _ _ _ _ hlk KEEP (fun _ _ _ _ _ h=>h) ?_
  intro V g hBV hg hx
  have HX:=Lib.hid hx
  have HBV:=Lib.hid hBV
  have HBW:=Lib.hid (hb0.trans (hBV.mono hb0.size))
  have hgV:=lt_of_cellR hx.c0
  have hwV:wa.heap.size≤V.heap.size:=hBV.size
  obtain ⟨x0,x1,x2,x3,x4,xf0,xf1,xf2,xf3,xf4⟩:=hx
  clear hwa bt br hb0 hBV hlk
  by_cases hlk0:lk=0
  · subst hlk0
    have hne:((0:Int) != 0)=false:=rfl
    cases hwk:wordK ⟨tk,tx,tn,tp⟩ with
    | false =>
      rw [hwk] at WK
      have HP:=Lib.hid (HL2.out rfl hwk)
      clear hwk
      obtain ⟨e0,e1,e2,e3⟩:=KEEP.out V HBV.out
      go_wp2_with fail
      refine (WK.out _).mono ?_;rintro e V1 ⟨rfl,hb1⟩
      have HBV1:=Lib.hid (below_next HBV.out hb1)
      have HBW1:=Lib.hid (below_next HBW.out hb1)
      obtain ⟨x0,x1,x2,x3,x4,xf0,xf1,xf2,xf3,xf4⟩:=HX.out.below hb1 hgV
      have HR:=Lib.hid (HBR.out V1 HBV1.out)
      have HR2:=Lib.hid (HR.out.sets (.int .i64 0) (.string tx) (.int .i64 tn) (.int .i64 tp) (.slice none 0 0))
      have HBE:=Lib.hid (below_sets5 HBW1.out (Nat.le_refl _) (.int .i64 0) (.string tx) (.int .i64 tn) (.int .i64 tp) (.slice none 0 0))
      have hFit:FitR 0 tx tn tp:=⟨by omega,by omega,ok1,ok2,ok3,ok4,ok5⟩
      obtain ⟨r0,r1,r2,r3,r4,rf0,rf1,rf2,rf3,rf4⟩:=HR.out
      clear hb1
      go_wp2_with fail
      obtain ⟨r0,r1,r2,r3,r4,rf0,rf1,rf2,rf3,rf4⟩:=HR2.out
      refine bodyPost_ret (v:=.tuple #[.agg #[.int .i64 0,.string tx,.int .i64 tn,.int .i64 tp,.slice none 0 0],.int .i64 i,.bool false]) (by simp [results,Tryz.results59,go_sem,r0,r1,r2,r3,r4]) rfl ?_
      unfold TermGPost
      rw [HP.out]
      exact ⟨⟨.mk 0 tx tn tp [],none,0⟩,rfl,rfl,rv_plain hFit _ _,HBE.out⟩
    | true =>
      rw [hwk] at WK
      have HL3':=Lib.hid (HL3.out rfl hwk)
      have HL4':=Lib.hid (HL4.out rfl hwk)
      have HL5':=Lib.hid (HL5.out rfl hwk)
      have hi1:i + 1 < L.length:=HIN.out (show tk≠0 by rw [show tk=1 from wordK_kind hwk];decide)
      have HIN2:=Lib.hid (fun h=>hE (i + 1) h)
      obtain ⟨u,hu⟩:∃ u,tkD L (i + 1)=u:=⟨_,rfl⟩
      have hui:L[i + 1]=u:=by rw [← hu,tkD_at hi1]
      have HCU:=Lib.hid (fun (W:World) (h:Below w.heap.size w W)=>(show TokAt W b (off + (i + 1) * 4) u by rw [← hui];exact HC.out (i + 1) hi1 W h))
      rw [hu] at HL3' HL4' HL5' HIN2
      have IS:=Lib.hid (fun (W:World)=>ris_any u sOpen W)
      clear hu hui hwk
      obtain ⟨uk,ux,un,up⟩:=u
      unfold tokVal at IS
      simp only at IS
      have hi1c:(i:Int) + 1 < (L.length:Int):=by omega
      have hi10:(0:Int)≤(i:Int) + 1:=by omega
      obtain ⟨e0,e1,e2,e3⟩:=KEEP.out V HBV.out
      have hFit:FitR 5 tx 0 tp:=⟨by omega,by omega,by omega,by omega,ok3,ok4,ok5⟩
      go_wp2_with fail
      refine (WK.out _).mono ?_;rintro e V1 ⟨rfl,hb1⟩
      have HBV1:=Lib.hid (below_next HBV.out hb1)
      have HBW1:=Lib.hid (below_next HBW.out hb1)
      have hx1:=HX.out.below hb1 hgV
      have hgV1:g < V1.heap.size:=Nat.lt_of_lt_of_le hgV hb1.size
      obtain ⟨x0,x1,x2,x3,x4,xf0,xf1,xf2,xf3,xf4⟩:=hx1
      have hB2:Below wa.heap.size wa ((V1.setCell ⟨g,0,none⟩ (.int .i64 5)).setCell ⟨g,2,none⟩ (.int .i64 0)):=(HBV1.out.setCell (p:=⟨g,0,none⟩) hg _).setCell (p:=⟨g,2,none⟩) hg _
      have hW2:Below w.heap.size w ((V1.setCell ⟨g,0,none⟩ (.int .i64 5)).setCell ⟨g,2,none⟩ (.int .i64 0)):=(HBW1.out.setCell (p:=⟨g,0,none⟩) (show w.heap.size≤g by omega) _).setCell (p:=⟨g,2,none⟩) (show w.heap.size≤g by omega) _
      have hX2:Box5 ((V1.setCell ⟨g,0,none⟩ (.int .i64 5)).setCell ⟨g,2,none⟩ (.int .i64 0)) g (.int .i64 5) (.string tx) (.int .i64 0) (.int .i64 tp) (.slice none 0 0):=by
        refine ⟨?_,?_,?_,?_,?_,by simp [xf0],by simp [xf1],by simp [xf2],by simp [xf3],by simp [xf4]⟩
        · rw [cell_off5 g 2 0 (by decide)];exact World.cell?_setCell_same _ _ _ x0
        · rw [cell_off5 g 2 1 (by decide),cell_off5 g 0 1 (by decide)];exact x1
        · refine World.cell?_setCell_same (u:=.int .i64 tn) _ _ _ ?_
          rw [cell_off5 g 0 2 (by decide)];exact x2
        · rw [cell_off5 g 2 3 (by decide),cell_off5 g 0 3 (by decide)];exact x3
        · rw [cell_off5 g 2 4 (by decide),cell_off5 g 0 4 (by decide)];exact x4
      have hgz:((V1.setCell ⟨g,0,none⟩ (.int .i64 5)).setCell ⟨g,2,none⟩ (.int .i64 0)).heap.size=V1.heap.size:=by simp
      clear hb1
      obtain ⟨u0,u1,u2,u3⟩:=HCU.out _ hW2
      have hoff:off + (i + 1) * 4=off + (i * 4 + 4):=by omega
      simp only at u0 u1 u2 u3
      obtain ⟨V2,hV2⟩:∃ V2,((V1.setCell ⟨g,0,none⟩ (.int .i64 5)).setCell ⟨g,2,none⟩ (.int .i64 0))=V2:=⟨_,rfl⟩
      rw [hV2] at hB2 hW2 hX2 hgz u0 u1 u2 u3
      have HB2:=Lib.hid hB2
      have HW2:=Lib.hid hW2
      have HX2:=Lib.hid hX2
      have hg2:g < V2.heap.size:=by omega
      have HV2:=Lib.hid hV2
      clear hB2 hW2 hX2 hgz hoff
      go_wp2_with fail
      refine (IS.out _).mono ?_;rintro e V3 ⟨rfl,hb3⟩
      have HBV3:=Lib.hid (below_next HB2.out hb3)
      have HBW3:=Lib.hid (below_next HW2.out hb3)
      have HX3:=Lib.hid (HX2.out.below hb3 hg2)
      have hgV3:g < V3.heap.size:=Nat.lt_of_lt_of_le hg2 hb3.size
      clear hb3 HV2 hV2 u0 u1 u2 u3
      cases hs:isS ⟨uk,ux,un,up⟩ sOpen with
      | false =>
        rw [hs] at HL3' IS
        have HP:=Lib.hid (HL3'.out rfl)
        have HR:=Lib.hid (HBR.out V3 HBV3.out)
        have HR2:=Lib.hid (HR.out.sets (.int .i64 5) (.string tx) (.int .i64 0) (.int .i64 tp) (.slice none 0 0))
        have HBE:=Lib.hid (below_sets5 HBW3.out (Nat.le_refl _) (.int .i64 5) (.string tx) (.int .i64 0) (.int .i64 tp) (.slice none 0 0))
        obtain ⟨r0,r1,r2,r3,r4,rf0,rf1,rf2,rf3,rf4⟩:=HR.out
        obtain ⟨q0,q1,q2,q3,q4,_,_,_,_,_⟩:=HX3.out
        clear hs
        go_wp2_with fail
        obtain ⟨r0,r1,r2,r3,r4,rf0,rf1,rf2,rf3,rf4⟩:=HR2.out
        refine bodyPost_ret (v:=.tuple #[.agg #[.int .i64 5,.string tx,.int .i64 0,.int .i64 tp,.slice none 0 0],.int .i64 ((i:Int) + 1),.bool true]) (by simp [results,Tryz.results59,go_sem,r0,r1,r2,r3,r4]) rfl ?_
        unfold TermGPost
        rw [HP.out]
        exact ⟨⟨.mk 5 tx 0 tp [],none,0⟩,rfl,rfl,rv_plain hFit _ _,HBE.out⟩
      | true =>
        rw [hs] at HL4' HL5' IS
        have huk:uk=6:=sgn_kind hs
        have hi2:i + 2 < L.length:=HIN2.out (by show uk≠0;rw [huk];decide)
        clear hs huk
        by_cases h40:40≤op
        · have HP:=Lib.hid (HL4'.out rfl h40)
          have h40c:(op:Int)≥40:=by omega
          have HR:=Lib.hid (HBR.out V3 HBV3.out)
          have HR2:=Lib.hid (HR.out.sets (.int .i64 5) (.string tx) (.int .i64 0) (.int .i64 tp) (.slice none 0 0))
          have HBE:=Lib.hid (below_sets5 HBW3.out (Nat.le_refl _) (.int .i64 5) (.string tx) (.int .i64 0) (.int .i64 tp) (.slice none 0 0))
          obtain ⟨r0,r1,r2,r3,r4,rf0,rf1,rf2,rf3,rf4⟩:=HR.out
          obtain ⟨q0,q1,q2,q3,q4,_,_,_,_,_⟩:=HX3.out
          go_wp2_with fail
          obtain ⟨r0,r1,r2,r3,r4,rf0,rf1,rf2,rf3,rf4⟩:=HR2.out
          refine bodyPost_ret (v:=.tuple #[.agg #[.int .i64 5,.string tx,.int .i64 0,.int .i64 tp,.slice none 0 0],.int .i64 ((i:Int) + 1),.bool false]) (by simp [results,Tryz.results59,go_sem,r0,r1,r2,r3,r4]) rfl ?_
          unfold TermGPost
          rw [HP.out]
          exact ⟨⟨.mk 5 tx 0 tp [],none,0⟩,rfl,rfl,rv_plain hFit _ _,HBE.out⟩
        · have HP:=HL5'.out rfl h40
          have h40c:(op:Int) < 40:=by omega
          have hn2:=termsP_in hE sComma (op + 1) hi2
          obtain ⟨ys,hys⟩:∃ ys,(termsP L (i + 2) sComma (op + 1)).1=ys:=⟨_,rfl⟩
          obtain ⟨n2,hn2e⟩:∃ n2,(termsP L (i + 2) sComma (op + 1)).2.1=n2:=⟨_,rfl⟩
          obtain ⟨b2,hb2e⟩:∃ b2,(termsP L (i + 2) sComma (op + 1)).2.2=b2:=⟨_,rfl⟩
          have HT:=Lib.hid (fun (W:World) (h:Below w.heap.size w W)=>hT (i + 2) W (by omega) (by omega) hi2 (HVB.out W h))
          unfold TermsGPost at HT
          rw [hys,hn2e,hb2e] at HT HP
          rw [hn2e] at hn2
          rw [show ((i + 2:Nat):Int)=(i:Int) + 2 from by omega] at HT
          replace HP:=Lib.hid HP
          clear hys hn2e hb2e hT
          go_wp2_with fail
          refine (HT.out _ HBW3.out).mono ?_;rintro e V4 ⟨v,rfl,hm,hb4,_,_⟩
          have HBV4:=Lib.hid (below_next HBV3.out hb4)
          have HBW4:=Lib.hid (below_next HBW3.out hb4)
          have HX4:=Lib.hid (HX3.out.below hb4 hgV3)
          obtain ⟨aY,cY,rfl,hYs⟩:=hm.trs
          have HM:=Lib.hid hm
          have hz34:V3.heap.size≤V4.heap.size:=hb4.size
          clear hYs hm hb4
          obtain ⟨q0,q1,q2,q3,q4,qf0,qf1,qf2,qf3,qf4⟩:=HX4.out
          have HX5:=Lib.hid (HX4.out.set4 (.slice aY ys.length cY))
          have HBV5:=Lib.hid (HBV4.out.setCell (p:=⟨g,4,none⟩) hg (.slice aY ys.length cY))
          have HBW5:=Lib.hid (HBW4.out.setCell (p:=⟨g,4,none⟩) (show w.heap.size≤g by omega) (.slice aY ys.length cY))
          have HK5:=Lib.hid (fun j (h:j≠g)=>Below.heap_setCell V4 ⟨g,4,none⟩ (.slice aY ys.length cY) j h)
          have hz5:(V4.setCell ⟨g,4,none⟩ (.slice aY ys.length cY)).heap.size=V4.heap.size:=by simp
          obtain ⟨V5,hV5⟩:∃ V5,V4.setCell ⟨g,4,none⟩ (.slice aY ys.length cY)=V5:=⟨_,rfl⟩
          rw [hV5] at HX5 HBV5 HBW5 HK5 hz5
          cases b2 with
          | false =>
            have HQ:=Lib.hid (HP.out.trans (if_pos (.inl rfl)))
            have HR:=Lib.hid (HBR.out V5 HBV5.out)
            have HR2:=Lib.hid (HR.out.sets (.int .i64 5) (.string tx) (.int .i64 0) (.int .i64 tp) (.slice aY ys.length cY))
            have HBE:=Lib.hid (below_sets5 HBW5.out (Nat.le_refl _) (.int .i64 5) (.string tx) (.int .i64 0) (.int .i64 tp) (.slice aY ys.length cY))
            have HMK:=Lib.hid (rv_args (U:=((((V5.setCell ⟨w.heap.size,0,none⟩ (.int .i64 5)).setCell ⟨w.heap.size,1,none⟩ (.string tx)).setCell ⟨w.heap.size,2,none⟩ (.int .i64 0)).setCell ⟨w.heap.size,3,none⟩ (.int .i64 tp)).setCell ⟨w.heap.size,4,none⟩ (.slice aY ys.length cY)) hFit HM.out HBW3.out.size (by simp [hz5]) (fun j j1 j2=>by
              have:=HBW3.out.size
              rw [sets5_heap _ _ _ _ _ _ _ j (by omega),HK5.out j (by omega)]))
            obtain ⟨r0,r1,r2,r3,r4,rf0,rf1,rf2,rf3,rf4⟩:=HR.out
            obtain ⟨z0,z1,z2,z3,z4,_,_,_,_,_⟩:=HX5.out
            go_wp2_with fail
            (try rw [hV5])
            obtain ⟨r0,r1,r2,r3,r4,rf0,rf1,rf2,rf3,rf4⟩:=HR2.out
            refine bodyPost_ret (v:=.tuple #[.agg #[.int .i64 5,.string tx,.int .i64 0,.int .i64 tp,.slice aY ys.length cY],.int .i64 (n2:Int),.bool false]) (by simp [results,Tryz.results59,go_sem,r0,r1,r2,r3,r4]) rfl ?_
            unfold TermGPost
            rw [HQ.out]
            exact ⟨⟨.mk 5 tx 0 tp ys,aY,cY⟩,rfl,rfl,HMK.out,HBE.out⟩
          | true =>
            obtain ⟨z,hz⟩:∃ z,tkD L n2=z:=⟨_,rfl⟩
            have hzi:L[n2]=z:=by rw [← hz,tkD_at hn2]
            have HZ:=HC.out n2 hn2 V5 HBW5.out
            rw [hzi] at HZ
            rw [hz] at HP
            have IZ:=Lib.hid (fun (W:World)=>ris_any z sClose W)
            clear hz hzi
            obtain ⟨zk,zx,zn,zp⟩:=z
            unfold tokVal at IZ
            obtain ⟨u0,u1,u2,u3⟩:=HZ
            simp only at u0 u1 u2 u3 IZ
            have hn2c:(n2:Int) < (L.length:Int):=by omega
            have hn20:(0:Int)≤(n2:Int):=by omega
            go_wp2_with fail
            (try rw [hV5])
            (try go_wp2_with fail)
            refine (IZ.out _).mono ?_;rintro e V6 ⟨rfl,hb6⟩
            have HBV6:=Lib.hid (below_next HBV5.out hb6)
            have HBW6:=Lib.hid (below_next HBW5.out hb6)
            have hg5:g < V5.heap.size:=by have:=HBV4.out.size;omega
            have HX6:=Lib.hid (HX5.out.below hb6 hg5)
            have HK6:=Lib.hid (fun j (h:j < V5.heap.size)=>hb6.block j h)
            have hz6:V5.heap.size≤V6.heap.size:=hb6.size
            have HR:=Lib.hid (HBR.out V6 HBV6.out)
            have HR2:=Lib.hid (HR.out.sets (.int .i64 5) (.string tx) (.int .i64 0) (.int .i64 tp) (.slice aY ys.length cY))
            have HBE:=Lib.hid (below_sets5 HBW6.out (Nat.le_refl _) (.int .i64 5) (.string tx) (.int .i64 0) (.int .i64 tp) (.slice aY ys.length cY))
            have HMK:=Lib.hid (rv_args (U:=((((V6.setCell ⟨w.heap.size,0,none⟩ (.int .i64 5)).setCell ⟨w.heap.size,1,none⟩ (.string tx)).setCell ⟨w.heap.size,2,none⟩ (.int .i64 0)).setCell ⟨w.heap.size,3,none⟩ (.int .i64 tp)).setCell ⟨w.heap.size,4,none⟩ (.slice aY ys.length cY)) hFit HM.out HBW3.out.size (by simp;omega) (fun j j1 j2=>by
              have:=HBW3.out.size
              rw [sets5_heap _ _ _ _ _ _ _ j (by omega),HK6.out j (by omega),HK5.out j (by omega)]))
            obtain ⟨r0,r1,r2,r3,r4,rf0,rf1,rf2,rf3,rf4⟩:=HR.out
            obtain ⟨z0,z1,z2,z3,z4,_,_,_,_,_⟩:=HX6.out
            clear hb6 u0 u1 u2 u3
            cases hs2:isS ⟨zk,zx,zn,zp⟩ sClose with
            | false =>
              have HQ:=Lib.hid (HP.out.trans (if_pos (.inr hs2)))
              clear hs2
              go_wp2_with fail
              obtain ⟨r0,r1,r2,r3,r4,rf0,rf1,rf2,rf3,rf4⟩:=HR2.out
              refine bodyPost_ret (v:=.tuple #[.agg #[.int .i64 5,.string tx,.int .i64 0,.int .i64 tp,.slice aY ys.length cY],.int .i64 (n2:Int),.bool false]) (by simp [results,Tryz.results59,go_sem,r0,r1,r2,r3,r4]) rfl ?_
              unfold TermGPost
              rw [HQ.out]
              exact ⟨⟨.mk 5 tx 0 tp ys,aY,cY⟩,rfl,rfl,HMK.out,HBE.out⟩
            | true =>
              have HQ:=Lib.hid (HP.out.trans (if_neg (by rw [hs2];simp)))
              clear hs2
              go_wp2_with fail
              obtain ⟨r0,r1,r2,r3,r4,rf0,rf1,rf2,rf3,rf4⟩:=HR2.out
              refine bodyPost_ret (v:=.tuple #[.agg #[.int .i64 5,.string tx,.int .i64 0,.int .i64 tp,.slice aY ys.length cY],.int .i64 ((n2:Int) + 1),.bool true]) (by simp [results,Tryz.results59,go_sem,r0,r1,r2,r3,r4]) rfl ?_
              unfold TermGPost
              rw [HQ.out]
              exact ⟨⟨.mk 5 tx 0 tp ys,aY,cY⟩,rfl,rfl,HMK.out,HBE.out⟩
  · have hne:(lk != 0)=true:=by simpa using hlk0
    have HP:=Lib.hid (HL1.out hlk0)
    have HR:=Lib.hid (HBR.out V HBV.out)
    have HR2:=Lib.hid ((HBR.out V HBV.out).sets (.int .i64 lk) (.string tx) (.int .i64 tn) (.int .i64 tp) (.slice none 0 0))
    have HBE:=Lib.hid (below_sets5 HBW.out (Nat.le_refl _) (.int .i64 lk) (.string tx) (.int .i64 tn) (.int .i64 tp) (.slice none 0 0))
    obtain ⟨r0,r1,r2,r3,r4,rf0,rf1,rf2,rf3,rf4⟩:=HR.out
    have hFit:FitR lk tx tn tp:=⟨by omega,by omega,ok1,ok2,ok3,ok4,ok5⟩
    clear hlk0
    go_wp2_with fail
    obtain ⟨r0,r1,r2,r3,r4,rf0,rf1,rf2,rf3,rf4⟩:=HR2.out
    refine bodyPost_ret (v:=.tuple #[.agg #[.int .i64 lk,.string tx,.int .i64 tn,.int .i64 tp,.slice none 0 0],.int .i64 ((i:Int) + 1),.bool true]) (by simp [results,Tryz.results59,go_sem,r0,r1,r2,r3,r4]) rfl ?_
    unfold TermGPost
    rw [HP.out]
    exact ⟨⟨.mk lk tx tn tp [],none,0⟩,rfl,rfl,rv_plain hFit _ _,HBE.out⟩
end Go.Proofs.YtjcleokfpohpdaaGreatDoor
namespace Go.Proofs.YtjcleokfpohpdaaGreatDoor
open Go.RowKit
def LiveA (W:World) (P:Nat→Prop) (base:Nat) (y:Rv):Prop:=∃ lo hi,base≤lo∧lo≤hi∧hi≤W.heap.size∧(∀ k,P k→k < lo∨hi≤k) ∧
  ∀ W',hi≤W'.heap.size→(∀ k,lo≤k→k < hi→W'.heap[k]? = W.heap[k]?)→y.ok W'
theorem LiveA.ok {W:World} {P:Nat→Prop} {base:Nat} {y:Rv} (h:LiveA W P base y):y.ok W:=by
  obtain ⟨lo,hi,_,_,h3,_,h5⟩:=h
  exact h5 W h3 fun _ _ _=>rfl
theorem LiveA.keep {W W':World} {P P':Nat→Prop} {base:Nat} {y:Rv} (h:LiveA W P base y) (hs:W.heap.size≤W'.heap.size) (hk:∀ k,k < W.heap.size→¬ P k→W'.heap[k]? = W.heap[k]?) (hP:∀ k,P' k→P k∨W.heap.size≤k):LiveA W' P' base y:=by
  obtain ⟨lo,hi,h1,h2,h3,h4,h5⟩:=h
  refine ⟨lo,hi,h1,h2,Nat.le_trans h3 hs,fun k e=>?_,fun W2 g1 g2=>h5 W2 g1 fun k k1 k2=>?_⟩
  · rcases hP k e with e | e
    · exact h4 k e
    · exact .inr (Nat.le_trans h3 e)
  · rw [g2 k k1 k2]
    refine hk k (Nat.lt_of_lt_of_le k2 h3) fun e=>?_
    rcases h4 k e with e | e<;>omega
theorem LiveA.below {W W':World} {P:Nat→Prop} {base:Nat} {y:Rv} (h:LiveA W P base y) (hb:Below W.heap.size W W'):LiveA W' P base y:=h.keep hb.size (fun k hk _=>hb.block k hk) fun _ e=>.inl e
theorem live_plain {k:Int} {s:ByteArray} {n p:Int} (h:FitR k s n p) (W:World) (P:Nat→Prop) {base:Nat} (hb:base≤W.heap.size):LiveA W P base ⟨.mk k s n p [],none,0⟩ :=
  ⟨base,base,Nat.le_refl _,Nat.le_refl _,hb,fun k _=>by omega,fun _ _ _=>⟨h,by show (0:Nat)≤_∧(0:Nat)≤0;omega,.inl rfl⟩⟩
theorem MadeR.liveA {w w':World} {y:Rv} (h:MadeR w w' y) (hs:w.heap.size≤w'.heap.size) {P:Nat→Prop} {base:Nat} (hb:base≤w.heap.size) (hg:∀ k,P k→k < w.heap.size):LiveA w' P base y :=
  ⟨w.heap.size,w'.heap.size,hb,hs,Nat.le_refl _,fun k e=>.inl (hg k e),h⟩
theorem LiveR.liveA {W:World} {g:Option Nat} {b0 base:Nat} {y:Rv} (h:LiveR W g b0 y) {P:Nat→Prop} (hb:base≤b0) (hg:∀ k,P k→k < b0):LiveA W P base y:=by
  obtain ⟨lo,hi,h1,h2,h3,_,h5⟩:=h
  exact ⟨lo,hi,Nat.le_trans hb h1,h2,h3,fun k e=>.inl (Nat.lt_of_lt_of_le (hg k e) h1),h5⟩
def rowsP (vw vt:Value) (k:Nat):Prop:=vw.ownBlock=some k∨vt.ownBlock=some k
def rowsZ (Z:Nat→Prop) (vw vt:Value) (k:Nat):Prop:=rowsP vw vt k∨Z k
structure RowsI (W:World) (Z:Nat→Prop) (e:TypeId) (base:Nat) (vw:Value) (ws:List Tr) (vt:Value) (ts:List Tr):Prop where
  wds:∃ vs:List Rv,vs.map Rv.t=ws∧(∀ x ∈ vs,LiveA W (rowsZ Z vw vt) base x)∧W.ownsRow base e 5 vw ws.length (rowRv vs)
  trs:∃ us:List Rv,us.map Rv.t=ts∧(∀ x ∈ us,LiveA W (rowsZ Z vw vt) base x)∧W.ownsRow base e 5 vt ts.length (rowRv us)
  apart:∀ k,vw.ownBlock=some k→vt.ownBlock≠some k
  out:∀ k,rowsP vw vt k→¬ Z k
theorem rowsI_nil (W:World) (Z:Nat→Prop) (e:TypeId) (base:Nat):RowsI W Z e base (.slice none 0 0) [] (.slice none 0 0) [] :=
  ⟨⟨[],rfl,(fun x hx=>by cases hx),World.ownsRow_nil _ _ _ _⟩,⟨[],rfl,(fun x hx=>by cases hx),World.ownsRow_nil _ _ _ _⟩,(fun k h=>by cases h),fun k h=>by rcases h with h | h<;>cases h⟩
theorem rowsP_swap (vw vt:Value):rowsP vt vw=rowsP vw vt:=by funext k;unfold rowsP;rw [Or.comm]
theorem RowsI.swap {W:World} {Z:Nat→Prop} {e:TypeId} {base:Nat} {vw vt:Value} {ws ts:List Tr} (h:RowsI W Z e base vw ws vt ts):RowsI W Z e base vt ts vw ws:=by
  have hP:rowsZ Z vt vw=rowsZ Z vw vt:=by funext k;unfold rowsZ;rw [rowsP_swap]
  refine ⟨?_,?_,fun k h1 h2=>h.apart k h2 h1,?_⟩
  · rw [hP];exact h.trs
  · rw [hP];exact h.wds
  · rw [rowsP_swap];exact h.out
theorem RowsI.below {W W':World} {Z:Nat→Prop} {e:TypeId} {base:Nat} {vw vt:Value} {ws ts:List Tr} (h:RowsI W Z e base vw ws vt ts) (hb:Below W.heap.size W W'):RowsI W' Z e base vw ws vt ts:=by
  obtain ⟨⟨vs,h1,h2,h3⟩,⟨us,k1,k2,k3⟩,ha,ho⟩:=h
  exact ⟨⟨vs,h1,fun x hx=>(h2 x hx).below hb,own_below h3 hb⟩,⟨us,k1,fun x hx=>(k2 x hx).below hb,own_below k3 hb⟩,ha,ho⟩
theorem RowsI.lt {W:World} {Z:Nat→Prop} {e:TypeId} {base:Nat} {vw vt:Value} {ws ts:List Tr} (h:RowsI W Z e base vw ws vt ts):∀ k,rowsP vw vt k→base≤k∧k < W.heap.size:=by
  obtain ⟨⟨vs,_,_,h3⟩,⟨us,_,_,k3⟩,_,_⟩:=h
  intro k hk
  rcases hk with hk | hk
  · exact ⟨own_row_ge h3 k hk,own_row_lt h3 k hk⟩
  · exact ⟨own_row_ge k3 k hk,own_row_lt k3 k hk⟩
theorem RowsI.beside {W:World} {Z Z':Nat→Prop} {e:TypeId} {base:Nat} {vw vt:Value} {ws ts:List Tr} (h:RowsI W Z e base vw ws vt ts) (hZ:∀ k,Z' k→Z k∨W.heap.size≤k):RowsI W Z' e base vw ws vt ts:=by
  have hlt:=h.lt
  obtain ⟨⟨vs,h1,h2,h3⟩,⟨us,k1,k2,k3⟩,ha,ho⟩:=h
  have hK:∀ x:Rv,LiveA W (rowsZ Z vw vt) base x→LiveA W (rowsZ Z' vw vt) base x:=fun x hx=>hx.keep (Nat.le_refl _) (fun _ _ _=>rfl) fun k e=>by
    rcases e with e | e
    · exact .inl (.inl e)
    · rcases hZ k e with q | q
      · exact .inl (.inr q)
      · exact .inr q
  refine ⟨⟨vs,h1,fun x hx=>hK x (h2 x hx),h3⟩,⟨us,k1,fun x hx=>hK x (k2 x hx),k3⟩,ha,fun k e z=>?_⟩
  rcases hZ k z with q | q
  · exact ho k e q
  · have:=(hlt k e).2;omega
theorem RowsI.aside {W W':World} {Z:Nat→Prop} {e:TypeId} {base:Nat} {vw vt:Value} {ws ts:List Tr} (h:RowsI W Z e base vw ws vt ts) (hs:W.heap.size≤W'.heap.size) (hk:∀ k,¬ Z k→W'.heap[k]? = W.heap[k]?):RowsI W' Z e base vw ws vt ts:=by
  obtain ⟨⟨vs,h1,h2,h3⟩,⟨us,k1,k2,k3⟩,ha,ho⟩:=h
  have hK:∀ x:Rv,LiveA W (rowsZ Z vw vt) base x→LiveA W' (rowsZ Z vw vt) base x:=fun x hx=>hx.keep hs (fun k _ q=>hk k fun z=>q (.inr z)) fun k e=>.inl e
  exact ⟨⟨vs,h1,fun x hx=>hK x (h2 x hx),own_at h3 fun g q=>hk g (ho g (.inl q))⟩,⟨us,k1,fun x hx=>hK x (k2 x hx),own_at k3 fun g q=>hk g (ho g (.inr q))⟩,ha,ho⟩
theorem RowsI.more {W W':World} {Z:Nat→Prop} {e:TypeId} {base:Nat} {vw vt vt':Value} {ws ts:List Tr} {us news:List Rv} {n:Nat} (h:RowsI W Z e base vw ws vt ts) (h1:us.map Rv.t=ts) (h2:∀ x ∈ us,LiveA W (rowsZ Z vw vt) base x)
    (hy:∀ x ∈ news,LiveA W (rowsZ Z vw vt) base x) (hn:ts.length + news.length=n) (hown:W'.ownsRow base e 5 vt' n (rowRv us ++ rowRv news)) (hg:W.grownBy W' vt.ownBlock) (hat:vt'.ownBlock=vt.ownBlock∨vt'.ownBlock=some W.heap.size) (hZ:∀ k,Z k→k < W.heap.size) :
    RowsI W' Z e base vw ws vt' (ts ++ news.map Rv.t):=by
  have hlt:=h.lt
  obtain ⟨⟨vs,w1,w2,w3⟩,_,ha,ho⟩:=h
  have hP:∀ k,rowsZ Z vw vt' k→rowsZ Z vw vt k∨W.heap.size≤k:=fun k e=>by
    rcases e with (e | e) | e
    · exact .inl (.inl (.inl e))
    · rcases hat with e2 | e2
      · exact .inl (.inl (.inr (by rw [← e2];exact e)))
      · rw [e2] at e;injection e with e;exact .inr (by omega)
    · exact .inl (.inr e)
  have hK:∀ x:Rv,LiveA W (rowsZ Z vw vt) base x→LiveA W' (rowsZ Z vw vt') base x:=fun x hx=>hx.keep hg.size (fun k hk e=>hg.block k hk fun q=>e (.inl (.inr q.symm))) hP
  refine ⟨⟨vs,w1,fun x hx=>hK x (w2 x hx),?_⟩,⟨us ++ news,by rw [List.map_append,h1],fun x hx=>?_,?_⟩,fun k e1 e2=>?_,fun k e z=>?_⟩
  · exact own_at w3 fun g e=>hg.block g (hlt g (.inl e)).2 fun q=>ha g e q.symm
  · rcases List.mem_append.1 hx with hx | hx
    · exact hK x (h2 x hx)
    · exact hK x (hy x hx)
  · rw [List.length_append,List.length_map,rowRv_append,hn];exact hown
  · rcases hat with q | q
    · exact ha k e1 (by rw [← q];exact e2)
    · rw [q] at e2;injection e2 with e2;have:=(hlt k (.inl e1)).2;omega
  · rcases e with e | e
    · exact ho k (.inl e) z
    · rcases hat with q | q
      · exact ho k (.inr (by rw [← q];exact e)) z
      · rw [q] at e;injection e with e;have:=hZ k z;omega
theorem RowsI.made {W:World} {Z:Nat→Prop} {e:TypeId} {base:Nat} {vw vt:Value} {ws ts:List Tr} (h:RowsI W Z e base vw ws vt ts) (hl1:ws.length≤9223372036854775807) (hl2:ts.length≤9223372036854775807) (W':World) (g1:W.heap.size≤W'.heap.size) (g2:∀ k,base≤k→k < W.heap.size→W'.heap[k]? = W.heap[k]?):Trs W' vw ws∧Trs W' vt ts:=by
  have hlt:=h.lt
  obtain ⟨⟨vs,w1,w2,w3⟩,⟨us,k1,k2,k3⟩,ha,_⟩:=h
  have hK:∀ x:Rv,LiveA W (rowsZ Z vw vt) base x→x.ok W':=fun x hx=>by
    obtain ⟨lo,hi,q1,_,q3,_,q5⟩:=hx
    exact q5 W' (Nat.le_trans q3 g1) fun k j1 j2=>g2 k (by omega) (by omega)
  constructor
  · exact OwnRv.trs (w0:=W') (e:=e) (base:=base) ⟨vs,w1,fun x hx=>hK x (w2 x hx),own_at w3 fun g q=>g2 g (hlt g (.inl q)).1 (hlt g (.inl q)).2⟩ (fun x h=>h) hl1
  · exact OwnRv.trs (w0:=W') (e:=e) (base:=base) ⟨us,k1,fun x hx=>hK x (k2 x hx),own_at k3 fun g q=>g2 g (hlt g (.inr q)).1 (hlt g (.inr q)).2⟩ (fun x h=>h) hl2
theorem own_slice {w:World} {base:Nat} {e:TypeId} {size:Nat} {v:Value} {n:Nat} {xs:List Value} (h:w.ownsRow base e size v n xs):∃ a c,v=.slice a n c:=by
  obtain ⟨_,⟨rfl,rfl⟩ | ⟨g,cap,cur,rfl,_⟩⟩:=h
  · exact ⟨none,0,rfl⟩
  · exact ⟨_,_,rfl⟩
end Go.Proofs.YtjcleokfpohpdaaGreatDoor
namespace Go.Proofs.YtjcleokfpohpdaaGreatDoor
open Go.RowKit
mutual
def plainR:Tr→Tm
  | .mk k s n _ xs=>.mk k (if k=1∨k=5 then s else ⟨#[]⟩) (if k=3∨k=4 then n else 0) (plainRs xs)
def plainRs:List Tr→List Tm
  | []=>[]
  | t :: r=>plainR t :: plainRs r
end
theorem plainRs_map (l:List Tr):plainRs l=l.map plainR:=by
  induction l with
  | nil=>rw [plainRs];rfl
  | cons t r ih=>rw [plainRs,ih];rfl
def AllSound (L:List Tok):Prop:=∀ i,(tkD L i).kind≠0→Sound (tkD L i)
end Go.Proofs.YtjcleokfpohpdaaGreatDoor
namespace Go.Proofs.YtjcleokfpohpdaaGreatDoor
open Go.RowKit
structure It where
  key:ByteArray
  spot:Int
  words:List Tr
  trees:List Tr
def shapesOf (k:ByteArray):List UInt8 :=
  if (k.toList==(⟨#[102,117,110]⟩:ByteArray).toList)=true then [119,47,110,46]
  else if (k.toList==(⟨#[110,97,109,101]⟩:ByteArray).toList)=true∨(k.toList==(⟨#[117,115,101]⟩:ByteArray).toList)=true then [119,46]
  else if (k.toList==(⟨#[114,117,108,101]⟩:ByteArray).toList)=true then [116,61,116,46]
  else if (k.toList==(⟨#[102,114,97,109,101]⟩:ByteArray).toList)=true then [119,58,108,46]
  else if (k.toList==(⟨#[100,101,100,117,99,101]⟩:ByteArray).toList)=true then [119,116,46]
  else if (k.toList==(⟨#[101,113,117,105,118]⟩:ByteArray).toList)=true then [119,119,46]
  else [116,46]
def oneP (x:It) (L:List Tok) (i:Nat) (c:UInt8):It × Nat × Bool :=
  if c=119 then (if wordK (tkD L i)=true then ({ x with words:=x.words ++ [.mk 5 (tkD L i).text 0 (tkD L i).place []] },i + 1,true) else (x,i,false))
  else if c=110 then (if (tkD L i).kind=3 then ({ x with words:=x.words ++ [.mk 0 (tkD L i).text (tkD L i).n (tkD L i).place []] },i + 1,true) else (x,i,false))
  else if c=116 then (if (termP L i 0).2.2=true then ({ x with trees:=x.trees ++ [(termP L i 0).1] },(termP L i 0).2.1,true) else (x,(termP L i 0).2.1,false))
  else if c=108 then (if isS (tkD L i) sDot=true then (x,i,true) else ({ x with trees:=x.trees ++ (termsP L i sSemi 0).1 },(termsP L i sSemi 0).2.1,(termsP L i sSemi 0).2.2))
  else (if isS (tkD L i) ⟨#[c]⟩=true then (x,i + 1,true) else (x,i,false))
def goP (L:List Tok):List UInt8→It→Nat→It × Nat × Bool
  | [],x,i=>(x,i,true)
  | c :: r,x,i=>if (oneP x L i c).2.2=false then (x,(oneP x L i c).2.1,false) else goP L r (oneP x L i c).1 (oneP x L i c).2.1
def itemsF:Nat→List Tok→Nat→Nat ⊕ List It
  | 0,_,i=>.inl i
  | f + 1,L,i =>
    if (tkD L i).kind=0 then .inr []
    else if (tkD L i).kind≠1∨wordK (tkD L i)=true then .inl i
    else if (goP L (shapesOf (tkD L i).text) ⟨(tkD L i).text,(tkD L i).place,[],[]⟩ (i + 1)).2.2=false then .inl (goP L (shapesOf (tkD L i).text) ⟨(tkD L i).text,(tkD L i).place,[],[]⟩ (i + 1)).2.1
    else match itemsF f L (goP L (shapesOf (tkD L i).text) ⟨(tkD L i).text,(tkD L i).place,[],[]⟩ (i + 1)).2.1 with
      | .inl e=>.inl e
      | .inr r=>.inr ((goP L (shapesOf (tkD L i).text) ⟨(tkD L i).text,(tkD L i).place,[],[]⟩ (i + 1)).1 :: r)
theorem oneP_le (L:List Tok) (x:It) (i:Nat) (c:UInt8):i≤(oneP x L i c).2.1:=by
  unfold oneP
  have:=(termP_le L i 0).1
  have:=(termsP_le L i sSemi 0).1
  repeat' split
  all_goals (simp only [];omega)
theorem oneP_in {L:List Tok} (hE:Ended L) (x:It) {i:Nat} (c:UInt8) (hi:i < L.length):(oneP x L i c).2.1 < L.length:=by
  unfold oneP
  have h1:=termP_in hE 0 hi
  have h2:=termsP_in hE sSemi 0 hi
  repeat' split
  all_goals (simp only [])
  all_goals first
    | exact hi
    | exact h1
    | exact h2
    | (next h=>exact hE i (by rw [wordK_kind h];decide))
    | (next h=>exact hE i (by rw [h];decide))
    | (next h=>exact hE i (by rw [sgn_kind h];decide))
theorem goP_le (L:List Tok):∀ (r:List UInt8) (x:It) (i:Nat),i≤(goP L r x i).2.1
  | [],x,i=>Nat.le_refl _
  | c :: r,x,i=>by
    rw [goP]
    have:=oneP_le L x i c
    split
    · exact this
    · exact Nat.le_trans this (goP_le L r _ _)
end Go.Proofs.YtjcleokfpohpdaaGreatDoor
