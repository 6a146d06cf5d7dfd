/-
  A block that holds slices alone is no part of functions or rules: they stay as they are where it is written. No function of the program.
  The program's library, a theory with a primitive behind: Use.
  A primitive's text, by the reference of layer 12: Text.
  The terms that begin at a token, with a sign between, by the reference of layer 11: Terms, where Term is as it should be; then both.
-/
import Derived.Test.YtjcleokfpohpdaaGreatDoorU32
import Derived.Test.YtjcleokfpohpdaaGreatDoorU08
import Derived.Test.YtjcleokfpohpdaaGreatDoorU09
import Derived.Test.YtjcleokfpohpdaaGreatDoorU16
import Derived.Test.YtjcleokfpohpdaaGreatDoorU31
import Derived.Test.YtjcleokfpohpdaaGreatDoorU33
import Derived.Deep.RegionHeld3
import Derived.Test.YtjcleokfpohpdaaGreatDoorU07
import Derived.Test.YtjcleokfpohpdaaGreatDoorU02
import Derived.WalkKit
import Derived.ProofKit
import Derived.Lib.Hide
import Derived.Test.YtjcleokfpohpdaaGreatDoorU06
import Derived.Test.YtjcleokfpohpdaaGreatDoorU10
namespace Go.Proofs.YtjcleokfpohpdaaGreatDoor
open Go.RowKit
def SlB (w:World) (g:Nat):Prop:=∀ o v,w.cell? ⟨g,o,none⟩=some v→∃ a n c,v=.slice a n c
theorem slB_two {w:World} {g:Nat} {a b:Option Addr} {n m c d:Nat} {t:TypeId} (h:w.heap[g]? = some (.cells #[.slice a n c,.slice b m d] t (0,0))):SlB w g:=by
  intro o v hv
  rw [cell_of_row w g o _ _ (0,0) h] at hv
  match o,hv with
  | 0,hv=>simp at hv;exact ⟨_,_,_,hv.symm⟩
  | 1,hv=>simp at hv;exact ⟨_,_,_,hv.symm⟩
  | o + 2,hv=>simp at hv
theorem SlB.int {w:World} {g b o:Nat} {k:Int} (h:SlB w g) (hc:w.cell? ⟨b,o,none⟩=some (.int .i64 k)):b≠g:=by
  rintro rfl
  obtain ⟨a,n,c,e⟩:=h _ _ hc
  cases e
theorem SlB.str {w:World} {g b o:Nat} {s:ByteArray} (h:SlB w g) (hc:w.cell? ⟨b,o,none⟩=some (.string s)):b≠g:=by
  rintro rfl
  obtain ⟨a,n,c,e⟩:=h _ _ hc
  cases e
theorem mask_in {w:World} {g:Nat} {p:Addr} {v:Value} (h:w.cell? p=some v) (hne:p.block≠g):(mask w g).cell? p=some v:=by
  rw [World.cell?_of_block (w:=w) (w':=mask w g) (a:=p) (mask_other w hne)];exact h
mutual
theorem TmAt.masked {w:World} {g:Nat} (hg:SlB w g):∀ {t:Tm} {b o:Nat},TmAt w t b o→TmAt (mask w g) t b o
  | .mk k s n xs,b,o,h=>by
    rw [TmAt] at h ⊢
    obtain ⟨hf,h0,h1,h2,a,c,h3,hl,hr⟩:=h
    have hb:=hg.int h0
    refine ⟨hf,mask_in h0 hb,mask_in h1 hb,mask_in h2 hb,a,c,mask_in h3 hb,hl,?_⟩
    rcases hr with hr | ⟨b',o',ha,hb',hr⟩
    · exact .inl hr
    · exact .inr ⟨b',o',ha,by rw [mask_size];exact hb',RowAt.masked hg hr⟩
theorem RowAt.masked {w:World} {g:Nat} (hg:SlB w g):∀ {xs:List Tm} {b o:Nat},RowAt w xs b o→RowAt (mask w g) xs b o
  | [],_,_,_=>by rw [RowAt];trivial
  | t :: r,b,o,h=>by
    rw [RowAt] at h ⊢
    exact ⟨TmAt.masked hg h.1,RowAt.masked hg h.2⟩
end
theorem Rls.off {w W:World} {g:Nat} {v:Value} {rs:List Rl} (h:Rls w v rs) (hg:SlB w g) (hs:w.heap.size≤W.heap.size) (hk:∀ k,k < w.heap.size→k≠g→W.heap[k]? = w.heap[k]?):Rls W v rs:=by
  have hr:=reads_mask (w:=w) (W:=W) (g:=g) hs hk
  obtain ⟨a,c,hv,hl,h⟩:=h
  refine ⟨a,c,hv,hl,?_⟩
  rcases h with h | ⟨b,o,ha,hlt,h⟩
  · exact .inl h
  · exact .inr ⟨b,o,ha,Nat.lt_of_lt_of_le hlt hs,fun j x hj=>⟨TmAt.reads hr (TmAt.masked hg (h j x hj).1),TmAt.reads hr (TmAt.masked hg (h j x hj).2)⟩⟩
theorem Fus.off {w W:World} {g:Nat} {v:Value} {fs:List Fn} (h:Fus w v fs) (hg:SlB w g) (hs:w.heap.size≤W.heap.size) (hk:∀ k,k < w.heap.size→k≠g→W.heap[k]? = w.heap[k]?):Fus W v fs:=by
  obtain ⟨a,c,hv,hl,h⟩:=h
  refine ⟨a,c,hv,hl,?_⟩
  rcases h with h | ⟨b,o,ha,hlt,h⟩
  · exact .inl h
  · refine .inr ⟨b,o,ha,Nat.lt_of_lt_of_le hlt hs,fun j x hj=>?_⟩
    have hx:=h j x hj
    have hblk:=hk b hlt (hg.str hx.c0)
    exact ⟨hx.ok,(World.cell?_of_block hblk).trans hx.c0,(World.cell?_of_block hblk).trans hx.c1⟩
theorem Yv.ok.off {w W:World} {g:Nat} {y:Yv} (h:y.ok w) (hg:SlB w g) (hs:w.heap.size≤W.heap.size) (hk:∀ k,k < w.heap.size→k≠g→W.heap[k]? = w.heap[k]?):y.ok W:=⟨h.funs.off hg hs hk,h.rules.off hg hs hk⟩
structure Box2 (w:World) (g:Nat) (x0 x1:Value):Prop where
  c0:w.cell? ⟨g,0,none⟩=some x0
  c1:w.cell? ⟨g,1,none⟩=some x1
  f0:w.frozen? ⟨g,0,none⟩=false
  f1:w.frozen? ⟨g,1,none⟩=false
theorem box2_new (w:World) (x0 x1:Value) (t:TypeId):Box2 (w.alloc (.cells #[x0,x1] t)) w.heap.size x0 x1 where
  c0:=World.cell?_alloc_mark w #[x0,x1] t (0,0) 0
  c1:=World.cell?_alloc_mark w #[x0,x1] t (0,0) 1
  f0:=by simp
  f1:=by simp
theorem Box2.block {w w':World} {g:Nat} {x0 x1:Value} (h:Box2 w g x0 x1) (hk:w'.heap[g]? = w.heap[g]?):Box2 w' g x0 x1 :=
  ⟨(World.cell?_of_block hk).trans h.c0,(World.cell?_of_block hk).trans h.c1,(World.frozen?_of_block hk).trans h.f0,(World.frozen?_of_block hk).trans h.f1⟩
theorem Box2.lt {w:World} {g:Nat} {x0 x1:Value} (h:Box2 w g x0 x1):g < w.heap.size:=World.block_lt_of_cell? w _ h.c0
theorem Box2.below {w w':World} {g:Nat} {x0 x1:Value} (h:Box2 w g x0 x1) (hb:Below w.heap.size w w'):Box2 w' g x0 x1:=h.block (hb.block g h.lt)
theorem set_thy {w:World} {g:Nat} {y:Yv} (h:y.ok w) (hg:SlB w g) (a b:Value):y.ok ((w.setCell ⟨g,0,none⟩ a).setCell ⟨g,1,none⟩ b) :=
  h.off hg (by simp) fun k _ hk=>by rw [Below.heap_setCell _ _ _ _ hk,Below.heap_setCell _ _ _ _ hk]
end Go.Proofs.YtjcleokfpohpdaaGreatDoor
namespace Go.Proofs.YtjcleokfpohpdaaGreatDoor
open Go.RowKit
theorem rules_more {w':World} {base:Nat} {u:Value} {rs qs:List Rl} {us ms:List Qv} (h1:us.map Qv.rl=rs) (h2:∀ x ∈ us,x.ok w') (m1:ms.map Qv.rl=qs.filter (fun q => !(rs.any fun x=>sameUp x q))) (m2:∀ x ∈ ms,x.ok w')
    (h:w'.ownsRow base 82 8 u (us ++ ms).length (rowQv (us ++ ms))) (hl:(us ++ ms).length≤9223372036854775807):Rls w' u (newR rs qs)∧(us ++ ms).length=(newR rs qs).length:=by
  have e:(us ++ ms).map Qv.rl=newR rs qs:=by rw [List.map_append,h1,m1];rfl
  have hn:(us ++ ms).length=(newR rs qs).length:=by rw [← e,List.length_map]
  refine ⟨RowQ.rls (e:=82) (base:=base) ⟨us ++ ms,e,fun x hx=>?_,by rw [← hn];exact h⟩ (by rw [← hn];exact hl),hn⟩
  rcases List.mem_append.1 hx with hx | hx
  · exact h2 x hx
  · exact m2 x hx
set_option maxRecDepth 100000 in
set_option maxHeartbeats 4000000 in
theorem puse_any (y:Yv) (s:ByteArray) (w:World) (HPW:Pow w) (hy:y.ok w) (hm:ModY y.fs y.rs) :
    Calls Tryz.prog 42 #[y.val,.string s] w (UsePost y.fs y.rs s w):=by
  obtain ⟨vf,vr,fs,rs⟩:=y
  simp only at hm ⊢
  have hF:=hy.funs
  have hR:=hy.rules
  simp only at hF hR
  have HF:=Lib.hid hF
  have HR:=Lib.hid hR
  obtain ⟨a1,c1,rfl,_,_⟩:=hF
  obtain ⟨a2,c2,rfl,_,_⟩:=hR
  have GT:=Lib.hid (fun (W:World)=>pget12_any s W)
  unfold PGetPost at GT
  have hb0:Below w.heap.size w ((w.alloc (.cells #[.slice a1 fs.length c1,.slice a2 rs.length c2] 26)).alloc (.cells #[.slice none 0 0,.slice none 0 0] 26)):=((Below.refl _ _).alloc (Nat.le_refl _) _).alloc (by simp) _
  have hx1:=(box2_new w (.slice a1 fs.length c1) (.slice a2 rs.length c2) 26).below ((Below.refl _ _).alloc (Nat.le_refl _) (.cells #[.slice none 0 0,.slice none 0 0] 26))
  have hx2:=box2_new (w.alloc (.cells #[.slice a1 fs.length c1,.slice a2 rs.length c2] 26)) (.slice none 0 0) (.slice none 0 0) 26
  have hx3:=heap_alloc_new (w.alloc (.cells #[.slice a1 fs.length c1,.slice a2 rs.length c2] 26)) (.cells #[.slice none 0 0,.slice none 0 0] 26)
  rw [show (w.alloc (.cells #[.slice a1 fs.length c1,.slice a2 rs.length c2] 26)).heap.size=w.heap.size + 1 from by simp] at hx2 hx3
  have HPK:=Lib.hid (And.intro hb0 (And.intro hx1 (And.intro hx2 hx3)))
  clear hb0 hx1 hx2 hx3 hy
  unfold UsePost Yv.val
  simp only
  go_enter Tryz.func42,Tryz.ntmps42
  go_wp2_with fail
  obtain ⟨hb0,hx1,hx2,hx3⟩:=HPK.out
  obtain ⟨w1,hw1⟩:∃ w1,((w.alloc (.cells #[.slice a1 fs.length c1,.slice a2 rs.length c2] 26)).alloc (.cells #[.slice none 0 0,.slice none 0 0] 26))=w1:=⟨_,rfl⟩
  rw [hw1] at hb0 hx1 hx2 hx3 ⊢
  have ALL:=fun (W:World) (h:Below w1.heap.size w1 W)=>(show Box2 W w.heap.size (.slice a1 fs.length c1) (.slice a2 rs.length c2)∧Box2 W (w.heap.size + 1) (.slice none 0 0) (.slice none 0 0)∧SlB W (w.heap.size + 1)∧Below w.heap.size w W from ⟨hx1.below h,hx2.below h,slB_two ((h.block _ hx2.lt).trans hx3),below_next hb0 h⟩)
  have HALL:=Lib.hid ALL
  clear hb0 hx1 hx2 hx3 hw1 HPK ALL
  refine (GT.out _).mono ?_;rintro e w2 ⟨pf,pr,rfl,hpf,hpr,hb2⟩
  have HPF:=Lib.hid hpf
  have HPR:=Lib.hid hpr
  obtain ⟨a3,c3,rfl,_,_⟩:=hpf
  obtain ⟨a4,c4,rfl,_,_⟩:=hpr
  have HB2:=Lib.hid hb2
  obtain ⟨nm,hnm⟩:∃ nm,entN s=nm:=⟨_,rfl⟩
  rw [hnm]
  cases hE:isEnt s with
  | false =>
    obtain ⟨_,⟨q0,q1,q2,q3⟩,_,_⟩:=HALL.out w2 hb2
    have HU:=Lib.hid (useS_none (fs:=fs) (rs:=rs) hE)
    obtain ⟨w3,hw3⟩:∃ w3,w2.alloc (.cells #[.string nm,.slice a3 (entF s).length c3,.slice a4 (entR s).length c4] 88)=w3:=⟨_,rfl⟩
    have hb3:Below w1.heap.size w1 w3:=by rw [← hw3];exact hb2.alloc hb2.size _
    obtain ⟨_,⟨q0,q1,q2,q3⟩,_,hbw⟩:=HALL.out w3 hb3
    have HBW:=Lib.hid hbw
    clear hb2 hb3 hbw hnm
    go_wp2_with fail
    refine bodyPost_ret (v:=.tuple #[.agg #[.slice none 0 0,.slice none 0 0],.int .i64 9]) (by simp [results,Tryz.results42,go_sem,q0,q1]) rfl ?_
    rw [HU.out]
    exact ⟨⟨.slice none 0 0,.slice none 0 0,[],[]⟩,rfl,rfl,rfl,zero_thy _,(HBW.out.setCell (p:=⟨w.heap.size + 1,0,none⟩) (by show w.heap.size≤w.heap.size + 1;omega) _).setCell (p:=⟨w.heap.size + 1,1,none⟩) (by show w.heap.size≤w.heap.size + 1;omega) _⟩
  | true =>
    have hme:=modY_ent (isEnt_iff.1 hE)
    have hbx:=box3_new w2 (.string nm) (.slice a3 (entF s).length c3) (.slice a4 (entR s).length c4) 88
    obtain ⟨w3,hw3⟩:∃ w3,w2.alloc (.cells #[.string nm,.slice a3 (entF s).length c3,.slice a4 (entR s).length c4] 88)=w3:=⟨_,rfl⟩
    rw [hw3] at hbx
    have hb23:Below w2.heap.size w2 w3:=by rw [← hw3];exact (Below.refl _ _).alloc (Nat.le_refl _) _
    have hb3:Below w1.heap.size w1 w3:=below_next hb2 hb23
    obtain ⟨⟨p0,p1,_,_⟩,_,_,hbw⟩:=HALL.out w3 hb3
    have JN:=Lib.hid (joinI_any (.slice a1 fs.length c1) (.slice a3 (entF s).length c3) fs (entF s) w3 (HF.out.below hbw) (HPF.out.below hb23) hm.funs hme.funs)
    unfold JoinPost at JN
    have HB3:=Lib.hid hb3
    have HB23:=Lib.hid hb23
    have HBX:=Lib.hid hbx
    obtain ⟨x0,x1,x2,_,_,_⟩:=hbx
    have HMY:=Lib.hid hm
    have HME:=Lib.hid hme
    obtain ⟨je,hje⟩:∃ je,joinE fs (entF s)=je:=⟨_,rfl⟩
    have HJE:=Lib.hid hje
    rw [hje] at JN
    clear hb2 hb3 hbw hb23 hnm hme hm hje
    go_wp2_with fail
    (try rw [hw3])
    refine JN.out.mono ?_;rintro e w4 ⟨vj,rfl,hvj,hb4⟩
    have HVJ:=Lib.hid hvj
    obtain ⟨a5,c5,rfl,_,_⟩:=hvj
    obtain ⟨⟨p0,p1,_,_⟩,⟨q0,q1,q2,q3⟩,hsl,hbw4⟩:=HALL.out w4 (below_next HB3.out hb4)
    obtain ⟨x0,x1,x2,_,_,_⟩:=HBX.out.below hb4
    have HSL:=Lib.hid hsl
    have HBW4:=Lib.hid hbw4
    have HB4:=Lib.hid hb4
    clear hb4 hsl hbw4 hw3
    by_cases hj0:je=0
    · subst hj0
      have MS:=Lib.hid (fun (W:World) (h:Below w4.heap.size w4 W)=>pmissing_any (.slice a2 rs.length c2) (.slice a4 (entR s).length c4) rs (entR s) W (HPW.below (HBW4.out.trans (h.mono HBW4.out.size))) (HR.out.below (HBW4.out.trans (h.mono HBW4.out.size))) (HPR.out.below (HB23.out.trans ((below_next HB4.out h).mono HB23.out.size))) HMY.out.parts HME.out.parts HME.out.len)
      obtain ⟨us1,u1,u2,u3⟩:=rls_qin HR.out
      have hul:us1.length=rs.length:=by rw [← u1,List.length_map]
      have CC:=Lib.hid (fun (W:World) (g:Nat) (am:Option Addr) (cm:Nat) (ms:List Qv) (hbw:Below w4.heap.size w4 W) (hr:RowV W g [.slice a2 rs.length c2,.slice am ms.length cm]) (hq:QIn W (.slice am ms.length cm) ms) (m1:ms.map Qv.rl=(entR s).filter (fun q => !(rs.any fun x=>sameUp x q))) (m2:∀ x ∈ ms,x.ok W) =>
        (show Calls Tryz.prog 78 #[.slice (some ⟨g,0,none⟩) 2 2] W fun e w'=>∃ ar cr,e=.returned (.slice ar (newR rs (entR s)).length cr)∧Rls w' (.slice ar (newR rs (entR s)).length cr) (newR rs (entR s))∧Below W.heap.size W w' from by
          have hml:ms.length≤(entR s).length:=by rw [← List.length_map (f:=Qv.rl),m1];exact List.length_filter_le ..
          have hbW:=HBW4.out.trans (hbw.mono HBW4.out.size)
          have hrs:=HMY.out.len
          have hre:=HME.out.len
          refine (pconcat_rl [(.slice a2 rs.length c2,us1),(.slice am ms.length cm,ms)] g 2 W ⟨hr.1,fun k hk=>?_⟩ (by simp) (by simp) (by simp [flatQ];omega)).mono ?_
          · have hcell:=hr.2
            match k,hk with
            | 0,_=>exact ⟨by have:=hcell 0 _ rfl;rw [addr_add] at this;exact this,u3.below hbW⟩
            | 1,_=>exact ⟨by have:=hcell 1 _ rfl;rw [addr_add] at this;simpa using this,hq⟩
          · rintro e w' ⟨u,rfl,ho,hb⟩
            have e2:flatQ [(.slice a2 rs.length c2,us1),(.slice am ms.length cm,ms)]=us1 ++ ms:=by simp [flatQ]
            rw [e2] at ho
            obtain ⟨r1,r2⟩:=rules_more u1 (fun x hx=>((u2 x hx).below hbW).below hb) m1 (fun x hx=>(m2 x hx).below hb) ho (by rw [List.length_append];omega)
            obtain ⟨ar,cr,rfl⟩:=own_slice ho
            rw [r2] at r1 ⊢
            exact ⟨ar,cr,rfl,r1,hb⟩))
      have ALLR:=fun (Q:World) (h:Below w4.heap.size w4 Q)=>(show Below w4.heap.size w4 Q∧Q.cell? ⟨w.heap.size,1,none⟩=some (.slice a2 rs.length c2)∧Q.cell? ⟨w2.heap.size,2,none⟩=some (.slice a4 (entR s).length c4) from ⟨h,by obtain ⟨⟨_,k1,_,_⟩,_,_,_⟩:=HALL.out Q (below_next HB3.out (below_next HB4.out h));exact k1,by obtain ⟨_,_,k2,_,_,_⟩:=HBX.out.below (below_next HB4.out h);exact k2⟩)
      have KX:=Lib.hid ALLR
      have K0:=Lib.hid (ALLR w4.drew ((Below.refl _ _).drew))
      have KA:=Lib.hid (fun (Q:World) (o:Obj) (h:Below w4.heap.size w4 Q∧Q.cell? ⟨w.heap.size,1,none⟩=some (.slice a2 rs.length c2)∧Q.cell? ⟨w2.heap.size,2,none⟩=some (.slice a4 (entR s).length c4))=>KX.out (Q.alloc o) (h.1.alloc h.1.size _))
      have KS:=Lib.hid (fun (Q:World) (h:Below w4.heap.size w4 Q∧Q.cell? ⟨w.heap.size,1,none⟩=some (.slice a2 rs.length c2)∧Q.cell? ⟨w2.heap.size,2,none⟩=some (.slice a4 (entR s).length c4))=>h.1)
      have HUB:=Lib.hid (fun (h:24 < (newR rs (entR s)).length)=>useS_long (fs:=fs) (rs:=rs) hE HJE.out h)
      have HUO:=Lib.hid (fun (h:¬ 24 < (newR rs (entR s)).length)=>useS_ok (fs:=fs) (rs:=rs) hE HJE.out h)
      have HXX:=Lib.hid (fun (W:World) (h:Below w4.heap.size w4 W)=>HALL.out W (below_next HB3.out (below_next HB4.out h)))
      clear ALLR u1 u2 u3 hul q0 q1 q2 q3 p0 x0
      go_wp2_with fail
      go_region_held3 (fun Q=>Below w4.heap.size w4 Q∧Q.cell? ⟨w.heap.size,1,none⟩=some (.slice a2 rs.length c2)∧Q.cell? ⟨w2.heap.size,2,none⟩=some (.slice a4 (entR s).length c4))
        (first | exact K0.out | assumption | exact KA.out _ _ (by assumption))
        (first
          | (have hq:=hmo;clear hq;go_at_call 78;refine (CC.out _ _ am cm ms ?_ ?_ ?_ hm1 ?_).mono ?_;(· exact KS.out _ (by assumption));(· exact rowV_new _ _ _ _ rfl);(· exact hmq.below (by first | exact Below.refl _ _ | exact (Below.refl _ _).drew | exact (Below.refl _ _).alloc (Nat.le_refl _) _ | exact ((Below.refl _ _).alloc (Nat.le_refl _) _).drew));(· exact fun x hx=>(hm2 x hx).below (by first | exact Below.refl _ _ | exact (Below.refl _ _).drew | exact (Below.refl _ _).alloc (Nat.le_refl _) _ | exact ((Below.refl _ _).alloc (Nat.le_refl _) _).drew));rintro e w6 ⟨ar,cr,rfl,hrr,hb6⟩;have hbw6:=below_next hbw5 (below_next (show Below w5.heap.size w5 _ from (by first | exact Below.refl _ _ | exact (Below.refl _ _).drew | exact (Below.refl _ _).alloc (Nat.le_refl _) _ | exact ((Below.refl _ _).alloc (Nat.le_refl _) _).drew)) hb6);have hS6:=KX.out _ hbw6)
          | (go_at_call 79;refine (MS.out _ ?_).mono ?_;(· exact KS.out _ (by assumption));rintro e w5 ⟨um,ms,rfl,hm1,hm2',hmo,hb5⟩;obtain ⟨am,cm,rfl⟩:=own_slice hmo;have hmq:=own_qin hmo (by have:=HME.out.len;have h9:ms.length≤(entR s).length:=(by rw [← List.length_map (f:=Qv.rl),hm1];exact List.length_filter_le ..);omega);have hm2:=(fun x hx=>(hm2' x hx).below hb5:∀ x ∈ ms,Qv.ok w5 x);have hbw5:=below_next (show Below w4.heap.size w4 _ from (by first | exact Below.refl _ _ | exact (Below.refl _ _).drew | exact (Below.refl _ _).alloc (Nat.le_refl _) _ | exact ((Below.refl _ _).alloc (Nat.le_refl _) _).drew)) hb5;have hS5:=KX.out _ hbw5)
          | fail)
      obtain ⟨_,⟨q0,q1,q2,q3⟩,hsl6,hbw⟩:=HXX.out w6 hbw6
      have HSL6:=Lib.hid hsl6
      have HBW:=Lib.hid hbw
      have HRR:=Lib.hid hrr
      have HVJ6:=Lib.hid (HVJ.out.below hbw6)
      clear hsl6 hbw hrr hbw6 hS6 hS5 hbw5 hm2 hmq hb5 hb6 hmo hm1 hm2' KX K0 KA KS CC MS x1 x2 p1
      by_cases hn:24 < (newR rs (entR s)).length
      · have hnc:(24:Int) < ((newR rs (entR s)).length:Int):=by omega
        have HU:=Lib.hid (HUB.out hn)
        go_wp2_with fail
        refine bodyPost_ret (v:=.tuple #[.agg #[.slice none 0 0,.slice none 0 0],.int .i64 3]) (by simp [results,Tryz.results42,go_sem,q0,q1]) rfl ?_
        rw [HU.out]
        exact ⟨⟨.slice none 0 0,.slice none 0 0,[],[]⟩,rfl,rfl,rfl,zero_thy _,(HBW.out.setCell (p:=⟨w.heap.size + 1,0,none⟩) (by show w.heap.size≤w.heap.size + 1;omega) _).setCell (p:=⟨w.heap.size + 1,1,none⟩) (by show w.heap.size≤w.heap.size + 1;omega) _⟩
      · have hnc:((newR rs (entR s)).length:Int)≤24:=by omega
        have HU:=Lib.hid (HUO.out hn)
        go_wp2_with fail
        refine bodyPost_ret (v:=.tuple #[.agg #[.slice a5 (joinL fs (entF s)).length c5,.slice ar (newR rs (entR s)).length cr],.int .i64 0]) (by simp [results,Tryz.results42,go_sem,q0,q1]) rfl ?_
        rw [HU.out]
        exact ⟨⟨.slice a5 (joinL fs (entF s)).length c5,.slice ar (newR rs (entR s)).length cr,joinL fs (entF s),newR rs (entR s)⟩,rfl,rfl,rfl,set_thy (y:=⟨.slice a5 (joinL fs (entF s)).length c5,.slice ar (newR rs (entR s)).length cr,joinL fs (entF s),newR rs (entR s)⟩) ⟨HVJ6.out,HRR.out⟩ HSL6.out _ _,(HBW.out.setCell (p:=⟨w.heap.size + 1,0,none⟩) (by show w.heap.size≤w.heap.size + 1;omega) _).setCell (p:=⟨w.heap.size + 1,1,none⟩) (by show w.heap.size≤w.heap.size + 1;omega) _⟩
    · have hjn:(je != 0)=true:=by simpa using hj0
      have HU:=Lib.hid (useS_bad (fs:=fs) (rs:=rs) hE (by rw [HJE.out];exact hj0))
      rw [HJE.out] at HU
      clear x0 x1 x2 p0 p1
      go_wp2_with fail
      refine bodyPost_ret (v:=.tuple #[.agg #[.slice none 0 0,.slice none 0 0],.int .i64 je]) (by simp [results,Tryz.results42,go_sem,q0,q1]) rfl ?_
      rw [HU.out]
      exact ⟨⟨.slice none 0 0,.slice none 0 0,[],[]⟩,rfl,rfl,rfl,zero_thy _,(HBW4.out.setCell (p:=⟨w.heap.size + 1,0,none⟩) (by show w.heap.size≤w.heap.size + 1;omega) _).setCell (p:=⟨w.heap.size + 1,1,none⟩) (by show w.heap.size≤w.heap.size + 1;omega) _⟩
end Go.Proofs.YtjcleokfpohpdaaGreatDoor
namespace Go.Proofs.YtjcleokfpohpdaaGreatDoor
open Go.RowKit
theorem nlPair:nmPair.toList=[112,97,105,114]:=by kernel_rfl
theorem nlSenc:nmSenc.toList=[115,101,110,99]:=by kernel_rfl
theorem nlRenc:nmRenc.toList=[114,101,110,99]:=by kernel_rfl
theorem nlAenc:nmAenc.toList=[97,101,110,99]:=by kernel_rfl
theorem nlRaenc:nmRaenc.toList=[114,97,101,110,99]:=by kernel_rfl
theorem nlSign:nmSign.toList=[115,105,103,110]:=by kernel_rfl
theorem nlHash:nmHash.toList=[104,97,115,104]:=by kernel_rfl
theorem nlBlind:nmBlind.toList=[98,108,105,110,100]:=by kernel_rfl
theorem nlWrap:nmWrap.toList=[119,114,97,112]:=by kernel_rfl
set_option maxRecDepth 100000 in
set_option maxHeartbeats 2000000 in
theorem rtext12_any (s:ByteArray) (w:World) :
    Calls Tryz.prog 72 #[.string s] w fun e w'=>e=.returned (.string (libT s))∧w'=w:=by
  cases hPair:(s.toList==([112,97,105,114]:List UInt8)) with
  | true =>
    have HV:Hid (libT s=txPair):=Lib.hid (by unfold libT;rw [nlPair,nlSenc,nlRenc,nlAenc,nlRaenc,nlSign,nlHash,nlBlind,nlWrap];simp [*])
    go_enter Tryz.func72,Tryz.ntmps72
    go_wp2_with fail
    go_ret
    exact ⟨by rw [HV.out];rfl,rfl⟩
  | false =>
    cases hSenc:(s.toList==([115,101,110,99]:List UInt8)) with
    | true =>
      have HV:Hid (libT s=txSenc):=Lib.hid (by unfold libT;rw [nlPair,nlSenc,nlRenc,nlAenc,nlRaenc,nlSign,nlHash,nlBlind,nlWrap];simp [*])
      go_enter Tryz.func72,Tryz.ntmps72
      go_wp2_with fail
      go_ret
      exact ⟨by rw [HV.out];rfl,rfl⟩
    | false =>
      cases hRenc:(s.toList==([114,101,110,99]:List UInt8)) with
      | true =>
        have HV:Hid (libT s=txRenc):=Lib.hid (by unfold libT;rw [nlPair,nlSenc,nlRenc,nlAenc,nlRaenc,nlSign,nlHash,nlBlind,nlWrap];simp [*])
        go_enter Tryz.func72,Tryz.ntmps72
        go_wp2_with fail
        go_ret
        exact ⟨by rw [HV.out];rfl,rfl⟩
      | false =>
        cases hAenc:(s.toList==([97,101,110,99]:List UInt8)) with
        | true =>
          have HV:Hid (libT s=txAenc):=Lib.hid (by unfold libT;rw [nlPair,nlSenc,nlRenc,nlAenc,nlRaenc,nlSign,nlHash,nlBlind,nlWrap];simp [*])
          go_enter Tryz.func72,Tryz.ntmps72
          go_wp2_with fail
          go_ret
          exact ⟨by rw [HV.out];rfl,rfl⟩
        | false =>
          cases hRaenc:(s.toList==([114,97,101,110,99]:List UInt8)) with
          | true =>
            have HV:Hid (libT s=txRaenc):=Lib.hid (by unfold libT;rw [nlPair,nlSenc,nlRenc,nlAenc,nlRaenc,nlSign,nlHash,nlBlind,nlWrap];simp [*])
            go_enter Tryz.func72,Tryz.ntmps72
            go_wp2_with fail
            go_ret
            exact ⟨by rw [HV.out];rfl,rfl⟩
          | false =>
            cases hSign:(s.toList==([115,105,103,110]:List UInt8)) with
            | true =>
              have HV:Hid (libT s=txSign):=Lib.hid (by unfold libT;rw [nlPair,nlSenc,nlRenc,nlAenc,nlRaenc,nlSign,nlHash,nlBlind,nlWrap];simp [*])
              go_enter Tryz.func72,Tryz.ntmps72
              go_wp2_with fail
              go_ret
              exact ⟨by rw [HV.out];rfl,rfl⟩
            | false =>
              cases hHash:(s.toList==([104,97,115,104]:List UInt8)) with
              | true =>
                have HV:Hid (libT s=txHash):=Lib.hid (by unfold libT;rw [nlPair,nlSenc,nlRenc,nlAenc,nlRaenc,nlSign,nlHash,nlBlind,nlWrap];simp [*])
                go_enter Tryz.func72,Tryz.ntmps72
                go_wp2_with fail
                go_ret
                exact ⟨by rw [HV.out];rfl,rfl⟩
              | false =>
                cases hBlind:(s.toList==([98,108,105,110,100]:List UInt8)) with
                | true =>
                  have HV:Hid (libT s=txBlind):=Lib.hid (by unfold libT;rw [nlPair,nlSenc,nlRenc,nlAenc,nlRaenc,nlSign,nlHash,nlBlind,nlWrap];simp [*])
                  go_enter Tryz.func72,Tryz.ntmps72
                  go_wp2_with fail
                  go_ret
                  exact ⟨by rw [HV.out];rfl,rfl⟩
                | false =>
                  cases hWrap:(s.toList==([119,114,97,112]:List UInt8)) with
                  | true =>
                    have HV:Hid (libT s=txWrap):=Lib.hid (by unfold libT;rw [nlPair,nlSenc,nlRenc,nlAenc,nlRaenc,nlSign,nlHash,nlBlind,nlWrap];simp [*])
                    go_enter Tryz.func72,Tryz.ntmps72
                    go_wp2_with fail
                    go_ret
                    exact ⟨by rw [HV.out];rfl,rfl⟩
                  | false =>
                    have HV:Hid (libT s=⟨#[]⟩):=Lib.hid (by unfold libT;rw [nlPair,nlSenc,nlRenc,nlAenc,nlRaenc,nlSign,nlHash,nlBlind,nlWrap];simp [*])
                    go_enter Tryz.func72,Tryz.ntmps72
                    go_wp2_with fail
                    go_ret
                    exact ⟨by rw [HV.out];rfl,rfl⟩
end Go.Proofs.YtjcleokfpohpdaaGreatDoor
namespace Go.Proofs.YtjcleokfpohpdaaGreatDoor
open Go.RowKit
theorem treeInfo:(Tryz.prog.info? 51).map (fun i=>(i.zero,i.size,i.bytes))=some (some (.agg #[.int .i64 0,.string ⟨#[]⟩,.int .i64 0,.int .i64 0,.slice none 0 0]),5,64):=by kernel_rfl
theorem RowR.snoc {W W':World} {e:TypeId} {base:Nat} {v v':Value} {ts:List Tr} {vs:List Rv} {y:Rv} (h1:vs.map Rv.t=ts) (h2:∀ x ∈ vs,LiveR W v.ownBlock base x) (hy:LiveR W v.ownBlock base y)
    (hown:W'.ownsRow base e 5 v' (ts.length + 1) (rowRv vs ++ y.cells)) (hg:W.grownBy W' v.ownBlock) (hat:v'.ownBlock=v.ownBlock∨v'.ownBlock=some W.heap.size):RowR W' e base v' (ts ++ [y.t]):=by
  refine ⟨vs ++ [y],by rw [List.map_append,h1];rfl,fun x hx=>?_,?_⟩
  · rcases List.mem_append.1 hx with hx | hx
    · exact (h2 x hx).grown hg hat
    · rw [List.mem_singleton] at hx;rw [hx];exact hy.grown hg hat
  · rw [List.length_append,rowRv_append,rowRv_one];exact hown
set_option maxRecDepth 100000 in
set_option maxHeartbeats 4000000 in
theorem rterms_one (v:Value) (L:List Tok) (hE:Ended L) (hlen:L.length≤100000) (i:Nat) (sg:ByteArray) (op:Nat) (hi:i < L.length) (w:World) (hv:Toks w v L)
    (hT:∀ (j:Nat) (W:World),i≤j→j < L.length→Toks W v L→Calls Tryz.prog 59 #[v,.int .i64 j,.int .i64 op] W (TermGPost L j op W)) :
    Calls Tryz.prog 111 #[v,.int .i64 i,.string sg,.int .i64 op] w (TermsGPost L i sg op w):=by
  obtain ⟨i0,hti,hz0,hz1,hz2⟩:=info_parts treeInfo
  have HVB:=Lib.hid (fun (W:World) (h:Below w.heap.size w W)=>hv.below h)
  have HT:=Lib.hid (fun (j:Nat) (W:World) (h:Below w.heap.size w W) (h1:i≤j) (h2:j < L.length)=>hT j W h1 h2 (HVB.out W h))
  unfold TermGPost at HT
  obtain ⟨a,c,rfl,hl,h⟩:=hv
  rcases h with h | ⟨b,off,rfl,hlt,hc⟩
  · subst h;cases hi
  have HC:=Lib.hid (fun (j:Nat) (hj:j < L.length) (W:World) (h:Below w.heap.size w W)=>(hc j hj).below h hlt)
  have IS:=Lib.hid (fun (t:Tok) (W:World)=>ris_any t sg W)
  have HI:=Lib.hid hi
  have HOWN:=Lib.hid (rowR_nil w 51 w.heap.size)
  have HB0:=Lib.hid (Below.refl w.heap.size w)
  clear hT hc hi
  go_enter Tryz.func111,Tryz.ntmps111
  go_wp2_with fail
  go_loopw [1,11] (fun j o wr=>∃ (k:Nat) (ts:List Tr),j=.int .i64 k∧i≤k∧k < L.length∧ts.length≤k ∧
    Hid (termsP L i sg op=(ts ++ (termsP L k sg op).1,(termsP L k sg op).2))∧RowR wr 51 w.heap.size o ts∧Below w.heap.size w wr) (fun j _ _=>L.length - (intOf j).toNat)
  case atStart=>exact ⟨i,[],rfl,Nat.le_refl _,HI.out,Nat.zero_le _,Lib.hid (by simp),HOWN.out,HB0.out⟩
  case round =>
    obtain ⟨k,ts,rfl,hik,hkl,htk,HP,hrow,hb⟩:=hrel
    have T:=Lib.hid (fun (W:World) (h:Below w.heap.size w W)=>HT.out k W h hik hkl)
    have hn2:=termP_in hE op hkl
    have hle:=termP_le L k op
    have HS:=termsP_eq L k sg op
    obtain ⟨y0,hy0⟩:∃ y0,(termP L k op).1=y0:=⟨_,rfl⟩
    obtain ⟨n2,hn2e⟩:∃ n2,(termP L k op).2.1=n2:=⟨_,rfl⟩
    obtain ⟨b2,hb2e⟩:∃ b2,(termP L k op).2.2=b2:=⟨_,rfl⟩
    rw [hy0,hn2e,hb2e] at T HS
    rw [hn2e] at hn2
    rw [hn2e,hb2e] at hle
    replace HS:=Lib.hid HS
    clear hy0 hn2e hb2e
    have HROW:=Lib.hid hrow
    have HB:=Lib.hid hb
    clear hrow hb
    go_wp2_with fail
    refine (T.out _ HB.out).mono ?_;rintro e w1 ⟨⟨⟨kd,s,nn,pp,xs⟩,ya,yc⟩,rfl,hyt,hm,hb1⟩
    cases hyt
    have HM:=Lib.hid hm
    have HB1:=Lib.hid (below_next HB.out hb1)
    have HROW1:=Lib.hid (HROW.out.below hb1)
    have HBN:=Lib.hid hb1
    unfold Rv.val
    simp only [Tr.kind,Tr.text,Tr.n,Tr.spot,Tr.args]
    clear hm hb1
    cases b2 with
    | false =>
      have HQ:=Lib.hid (show termsP L i sg op=(ts,n2,false) by rw [HP.out,HS.out,if_pos rfl];simp)
      have HBE:=Lib.hid (HB1.out.alloc HB1.out.size (.cells #[.int .i64 kd,.string s,.int .i64 nn,.int .i64 pp,.slice ya xs.length yc] 51))
      have HRE:=Lib.hid (HROW1.out.below ((Below.refl w1.heap.size w1).alloc (Nat.le_refl _) (.cells #[.int .i64 kd,.string s,.int .i64 nn,.int .i64 pp,.slice ya xs.length yc] 51)))
      go_wp2_with fail
      go_ret3
      unfold TermsGPost
      rw [HQ.out]
      exact ⟨_,rfl,HRE.out.made (Nat.le_refl _) (by omega),HBE.out,HRE.out,by show ts.length≤_;omega⟩
    | true =>
      obtain ⟨vs,hvt,hvl,hown⟩:=HROW1.out
      have hw0:u11.ownBlock=none∨∀ g,u11.ownBlock=some g→g < wr.heap.size:=by
        obtain ⟨_,_,_,h⟩:=HROW.out
        exact .inr (own_row_lt h)
      have hW:Below w1.heap.size w1 ((w1.alloc (.cells #[.int .i64 kd,.string s,.int .i64 nn,.int .i64 pp,.slice ya xs.length yc] 51)).alloc (.cells #[.int .i64 kd,.string s,.int .i64 nn,.int .i64 pp,.slice ya xs.length yc] 51)):=((Below.refl _ _).alloc (Nat.le_refl _) _).alloc (by simp) _
      have hy:=(HM.out.live HBN.out.size (g:=u11.ownBlock) (base:=w.heap.size) HB.out.size (fun g e=>.inl (by
        rcases hw0 with h | h
        · rw [h] at e;cases e
        · exact h g e))).below hW
      have HY:=Lib.hid hy
      have HVL:=Lib.hid (fun x hx=>(hvl x hx).below hW)
      have HVT:=Lib.hid hvt
      have HBW:=Lib.hid (below_next HB1.out hW)
      have hsz:=HB1.out.size
      clear hy hvl hvt hW hw0
      go_wp2_with (at_builtin;refine wpList_append_own_at _ rfl _ _ 46 rfl w.heap.size 51 i0 (.agg #[.int .i64 0,.string ⟨#[]⟩,.int .i64 0,.int .i64 0,.slice none 0 0]) 5 64 Tryz.underlying46 hti hz0 hz1 hz2 rfl (by decide) _ ts.length _ rfl ((hown.alloc _).alloc _) ⟨w1.heap.size + 1,0,none⟩ 1 1 [.int .i64 kd,.string s,.int .i64 nn,.int .i64 pp,.slice ya xs.length yc] rfl rfl ?c1 ?c2 ?c3 ?c4 ?c5 ?_)
      case c2=>exact ⟨rfl,rfl,rfl,rfl,rfl⟩
      case c3=>unfold maxLen;omega
      case c4=>omega
      case c5=>omega
      intro v' w3 hown' hgrow _ hat
      have hrow3:=RowR.snoc (y:=⟨.mk kd s nn pp xs,ya,yc⟩) HVT.out HVL.out HY.out hown' hgrow (by simpa using hat)
      have hb3:=HBW.out.grown hgrow HBW.out.size (own_row_ge hown)
      have HROW3:=Lib.hid hrow3
      have HB3:=Lib.hid hb3
      clear hrow3 hb3 hown' hgrow hat hown
      obtain ⟨z,hz⟩:∃ z,tkD L n2=z:=⟨_,rfl⟩
      have hzi:L[n2]=z:=by rw [← hz,tkD_at hn2]
      have HZ:=HC.out n2 hn2 w3 HB3.out
      have hEn:=hE n2
      rw [hzi] at HZ
      rw [hz] at HS hEn
      have IZ:=Lib.hid (fun (W:World)=>IS.out z W)
      clear hz hzi
      obtain ⟨zk,zx,zn,zp⟩:=z
      unfold tokVal at IZ
      obtain ⟨e0,e1,e2,e3⟩:=HZ
      simp only at e0 e1 e2 e3 IZ
      have hn2c:(n2:Int) < (L.length:Int):=by omega
      have hn20:(0:Int)≤(n2:Int):=by omega
      have HEN:=Lib.hid hEn
      clear hEn
      go_wp2_with fail
      refine (IZ.out _).mono ?_;rintro e w4 ⟨rfl,hb4⟩
      have HB4:=Lib.hid (below_next HB3.out hb4)
      have HROW4:=Lib.hid (HROW3.out.below hb4)
      clear hb4 e0 e1 e2 e3
      cases hs:isS ⟨zk,zx,zn,zp⟩ sg with
      | false =>
        have HQ:=Lib.hid (show termsP L i sg op=(ts ++ [.mk kd s nn pp xs],n2,true) by rw [HP.out,HS.out,if_neg (by decide),if_pos hs])
        clear hs
        go_wp2_with fail
        go_ret3
        unfold TermsGPost
        rw [HQ.out]
        exact ⟨_,rfl,HROW4.out.made (Nat.le_refl _) (by rw [List.length_append];simp;omega),HB4.out,HROW4.out,by show (ts ++ [_]).length≤_;rw [List.length_append];simp;omega⟩
      | true =>
        have HQ:=Lib.hid (show termsP L i sg op=((ts ++ [.mk kd s nn pp xs]) ++ (termsP L (n2 + 1) sg op).1,(termsP L (n2 + 1) sg op).2) by rw [HP.out,HS.out,if_neg (by decide),if_neg (by rw [hs];decide)];simp)
        have hn3:n2 + 1 < L.length:=HEN.out (show zk≠0 by rw [show zk=6 from sgn_kind hs];decide)
        have hkn:k < n2:=hle.2 trivial
        clear hs
        go_wp2_with fail
        go_roundw
        case rel=>exact ⟨n2 + 1,ts ++ [.mk kd s nn pp xs],by go_num,by omega,hn3,by rw [List.length_append];simp;omega,Lib.hid HQ.out,HROW4.out,HB4.out⟩
        case measure=>simp [intOf];omega
theorem rterm_both (v:Value) (L:List Tok) (hE:Ended L) (hO:∀ i,TokOk (tkD L i)) (hlen:L.length≤100000):∀ (n:Nat),
    (∀ (i op:Nat),L.length - i≤n→i < L.length→op≤41→∀ w,Toks w v L→Calls Tryz.prog 59 #[v,.int .i64 i,.int .i64 op] w (TermGPost L i op w)) ∧
    ∀ (i:Nat) (sg:ByteArray) (op:Nat),L.length - i≤n→i < L.length→op≤41→∀ w,Toks w v L→Calls Tryz.prog 111 #[v,.int .i64 i,.string sg,.int .i64 op] w (TermsGPost L i sg op w)
  | 0=>⟨fun i op h hi=>by omega,fun i sg op h hi=>by omega⟩
  | n + 1=>by
    obtain ⟨_,h2⟩:=rterm_both v L hE hO hlen n
    have ht:∀ (i op:Nat),L.length - i≤n + 1→i < L.length→op≤41→∀ w,Toks w v L→Calls Tryz.prog 59 #[v,.int .i64 i,.int .i64 op] w (TermGPost L i op w):=fun i op h hi hop w hv =>
      rterm_one v L hE hO hlen i op hi (by omega) w hv fun j W h40 hj hjl hW=>by
        have:=h2 j sComma (op + 1) (by omega) hjl (by omega) W hW
        rwa [show ((op + 1:Nat):Int)=(op:Int) + 1 from by omega] at this
    exact ⟨ht,fun i sg op h hi hop w hv=>rterms_one v L hE hlen i sg op hi w hv fun j W hj hjl hW=>ht j op (by omega) hjl hop W hW⟩
theorem rterm_any (v:Value) (L:List Tok) (hE:Ended L) (hO:∀ i,TokOk (tkD L i)) (hlen:L.length≤100000) (i op:Nat) (hi:i < L.length) (hop:op≤41) (w:World) (hv:Toks w v L) :
    Calls Tryz.prog 59 #[v,.int .i64 i,.int .i64 op] w (TermGPost L i op w):=(rterm_both v L hE hO hlen _).1 i op (Nat.le_refl _) hi hop w hv
theorem rterms_any (v:Value) (L:List Tok) (hE:Ended L) (hO:∀ i,TokOk (tkD L i)) (hlen:L.length≤100000) (i:Nat) (sg:ByteArray) (op:Nat) (hi:i < L.length) (hop:op≤41) (w:World) (hv:Toks w v L) :
    Calls Tryz.prog 111 #[v,.int .i64 i,.string sg,.int .i64 op] w (TermsGPost L i sg op w):=(rterm_both v L hE hO hlen _).2 i sg op (Nat.le_refl _) hi hop w hv
end Go.Proofs.YtjcleokfpohpdaaGreatDoor
