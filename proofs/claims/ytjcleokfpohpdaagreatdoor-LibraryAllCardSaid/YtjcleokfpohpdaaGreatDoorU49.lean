/-
  LibraryAll holds for package library as it landed.
-/
import Derived.Test.YtjcleokfpohpdaaGreatDoorU48
namespace Go.Proofs.YtjcleokfpohpdaaGreatDoor
open Go.RowKit
theorem all_again {s:ByteArray} (h:isEnt s=true):useS (allT 9).1 (allT 9).2 s=(0,(allT 9).1,(allT 9).2):=by
  obtain ⟨ns,hr,hns⟩:=allT_rch 9
  refine hr.again ((hns s).2 ?_)
  obtain ⟨j,hj,rfl⟩:=List.getElem_of_mem (isEnt_iff.1 h)
  exact ⟨j,hj,by unfold nmAt;rw [List.getElem?_eq_getElem hj];rfl⟩
theorem sumR_small:∀ k,sumR k≤k * 12
  | 0=>by simp [sumR]
  | k + 1=>by
    rw [sumR]
    have:=sumR_small k
    have h1:=(ent_once _ (libN_at k)).2
    have:=rls_few h1 (ent_sub _ (libN_at k)).2
    omega
set_option maxRecDepth 100000 in
set_option maxHeartbeats 8000000 in
theorem lawAll12_any (s:ByteArray) (w:World) (HPW:Pow w) :
    Calls Tryz.prog 9 #[.string s] w fun e w'=>e=.returned (.bool true)∧Below w.heap.size w w':=by
  have AW:=Lib.hid (awake12_any w HPW)
  have HPW':=Lib.hid HPW
  clear HPW
  rcases Int.lt_or_le 100 (s.size:Int) with hs | hs
  · go_enter Tryz.func9,Tryz.ntmps9
    go_wp2_with fail
    refine AW.out.mono ?_;rintro e w1 ⟨rfl,hb1⟩
    have HB1:=Lib.hid hb1
    clear hb1
    go_wp2_with fail
    go_ret
    exact ⟨rfl,HB1.out⟩
  · have RN:=Lib.hid (fun (W:World)=>rnames12_any W)
    have RG:=Lib.hid (fun (t:ByteArray) (W:World)=>rget12_any t W)
    unfold RGetPost at RG
    have IN:=Lib.hid (fun (v:Value) (W:World) (h:Strs W v libN)=>rin_any v libN s W h)
    rw [contains_ent12] at IN
    have HSU:=Lib.hid (sum_rules 9 (Nat.le_refl _))
    go_enter Tryz.func9,Tryz.ntmps9
    go_wp2_with fail
    refine AW.out.mono ?_;rintro e w1 ⟨rfl,hb1⟩
    have hbA:Below w1.heap.size w1 (w1.alloc (.cells #[.slice none 0 0,.slice none 0 0] 26)):=(Below.refl _ _).alloc (Nat.le_refl _) _
    have hx:=boxT_new w1 none none 0 0 0 0
    have HPK:=Lib.hid (And.intro (below_next hb1 hbA) hx)
    have hw1:=hb1.size
    clear hb1 hbA hx
    go_wp2_with fail
    obtain ⟨hb1,hx⟩:=HPK.out
    obtain ⟨wA,hwA⟩:∃ wA,w1.alloc (.cells #[.slice none 0 0,.slice none 0 0] 26)=wA:=⟨_,rfl⟩
    rw [hwA] at hb1 hx ⊢
    clear hwA HPK
    refine (RN.out _).mono ?_;rintro e w2 ⟨v,rfl,hv,hb2⟩
    have hx2:=hx.below hb2
    obtain ⟨g,hgv⟩:∃ g,w1.heap.size=g:=⟨_,rfl⟩
    rw [hgv] at hx2 hw1 ⊢
    obtain ⟨av,cv,rfl,hat⟩:=strs_at hv hx2.slB
    have HAT:=Lib.hid hat
    have HB2:=Lib.hid (below_next hb1 hb2)
    have HX2:=Lib.hid hx2
    have hlen9:libN.length=9:=rfl
    rw [hlen9]
    clear hv hat hb1 hx hb2 hx2 hlen9 hgv
    go_wp2_with fail
    go_loopw [4,20] (fun sn i wr=>∃ (k:Nat) (a:Option Addr) (n c:Nat) (b:Option Addr) (m d:Nat),i=.int .i64 k∧k≤9∧sn=.int .i64 (sumR k:Nat)∧BoxT wr g a n c b m d∧ThyAt wr a n c b m d (allT k).1 (allT k).2∧w2.grownBy wr (some g)) (fun _ i _=>9 - (intOf i).toNat)
    case atStart=>exact ⟨0,none,0,0,none,0,0,rfl,by omega,rfl,HX2.out,thyAt_none _,rfl,rfl,rfl,Nat.le_refl _,fun _ _ _=>rfl⟩
    case round =>
      obtain ⟨k,a,n,c,b,m,d,rfl,hk,rfl,hbx,ht,hg⟩:=hrel
      by_cases hk1:k < 9
      · have hkc:(k:Int) < 9:=by omega
        have hk0:(0:Int)≤(k:Int):=by omega
        obtain ⟨b',o',rfl,hcell⟩:=HAT.out k hk1
        have hc:=hcell wr hg
        have hnm:libN[k]'hk1=nmAt k:=by unfold nmAt;rw [List.getElem?_eq_getElem (show k < libN.length from hk1)];rfl
        rw [hnm] at hc
        obtain ⟨ns,hrch,_⟩:=allT_rch k
        have hsm:=sumR_small k
        have hsm1:=sumR_small (k + 1)
        have HSS:=Lib.hid (show sumR (k + 1)=sumR k + (entR (nmAt k)).length from rfl)
        rw [HSS.out] at hsm1
        have U:=Lib.hid (fun (W:World) (h:ThyAt W a n c b m d (allT k).1 (allT k).2)=>ruse_f h (modY_rch hrch) (allT_use k))
        have HBX:=Lib.hid hbx
        have HG:=Lib.hid hg
        have HT:=Lib.hid ht
        have HL:=Lib.hid (show g < w2.heap.size from HX2.out.lt)
        have RGK:=Lib.hid (RG.out (nmAt k))
        obtain ⟨nm,hnm2⟩:∃ nm,nmAt k=nm:=⟨_,rfl⟩
        rw [hnm2] at hc U HSS RGK hsm1
        obtain ⟨sk,hsk⟩:∃ sk,sumR k=sk:=⟨_,rfl⟩
        rw [hsk] at hsm hsm1 HSS ⊢
        have hs1:(sk:Int) + ((entR nm).length:Int)≤1000:=by omega
        clear hcell hnm hnm2 hrch hbx ht hg hsk
        go_wp2_with fail
        refine (RGK.out _).mono ?_;rintro e w3 ⟨rf,rr,rfl,hrf,hrr,hb3⟩
        obtain ⟨a5,c5,rfl,_,_⟩:=hrf
        obtain ⟨a6,c6,rfl,_,_⟩:=hrr
        have hbx3:=HBX.out.below hb3
        obtain ⟨p0,p1,_,_⟩:=hbx3.box2
        have U3:=Lib.hid (U.out w3 (HT.out.below hb3))
        have HBX3:=Lib.hid hbx3
        have HB3:=Lib.hid hb3
        clear hb3 hbx3
        go_wp2_with fail
        refine U3.out.mono ?_;rintro e w4 ⟨a3,n3,c3,b3,m3,d3,rfl,ht3,hb4⟩
        have hbx4:=HBX3.out.below hb4
        obtain ⟨q0,q1,q2,q3⟩:=hbx4.box2
        have HT3:=Lib.hid (ht3.off (W:=(w4.setCell ⟨g,0,none⟩ (.slice a3 n3 c3)).setCell ⟨g,1,none⟩ (.slice b3 m3 d3)) hbx4.slB (by simp) (fun k _ hk=>set_other k hk))
        have HBX4:=Lib.hid (hbx4.set (a':=a3) (n':=n3) (c':=c3) (b':=b3) (m':=m3) (d':=d3))
        have HG3:=Lib.hid (round_grown (x:=.slice a3 n3 c3) (y:=.slice b3 m3 d3) HG.out (below_next HB3.out hb4) HL.out)
        clear ht3 hb4 hbx4 p0 p1
        go_wp2_with fail
        go_roundw
        case rel=>exact ⟨k + 1,a3,n3,c3,b3,m3,d3,by go_num,by omega,by rw [HSS.out];go_num,HBX4.out,HT3.out,HG3.out⟩
        case measure=>simp [intOf];omega
      · obtain rfl:k=9:=by omega
        have hbw:=grown_below12 HB2.out hg hw1
        have PA:=Lib.hid (pall_any wr (HPW'.out.below hbw))
        have PRL:=Lib.hid (fun (W:World) (h:Below wr.heap.size wr W)=>prules_any W ((HPW'.out.below hbw).below h))
        rw [HSU.out] at PRL
        obtain ⟨fsA,rsA,hfa⟩:∃ fsA rsA,fsA=(allT 9).1∧rsA=(allT 9).2:=⟨_,_,rfl,rfl⟩
        have hmy:ModY fsA rsA:=by obtain ⟨ns,hr,_⟩:=allT_rch 9;rw [hfa.1,hfa.2];exact modY_rch hr
        have HUY:=Lib.hid (show (isEnt s=true→useS fsA rsA s=(0,fsA,rsA))∧(isEnt s=false→useS fsA rsA s=(9,[],[])) from ⟨fun h=>by rw [hfa.1,hfa.2];exact all_again h,fun h=>useS_none h⟩)
        have UA:=Lib.hid (fun (W:World) (h:Below wr.heap.size wr W) (a b:Option Addr) (n c m d:Nat) (E:Int) (fs':List Fn) (rs':List Rl) (ht:ThyAt W a n c b m d fsA rsA) (hu:useS fsA rsA s=(E,fs',rs'))=>puse_f (s:=s) ((HPW'.out.below hbw).below h) ht hmy hu)
        rw [← hfa.1,← hfa.2] at PA ht
        have HBX:=Lib.hid hbx
        have HT:=Lib.hid ht
        have HBW:=Lib.hid hbw
        obtain ⟨sk,hsk⟩:∃ sk,sumR 9=sk:=⟨_,rfl⟩
        rw [hsk] at PRL ⊢
        clear hbw hfa hmy hbx ht hg hsk
        go_wp2_with fail
        refine PA.out.mono ?_;rintro e w5 ⟨a5,n5,c5,b5,m5,d5,rfl,ht5,hb5⟩
        have hbA5:Below w5.heap.size w5 (w5.alloc (.cells #[.slice a5 n5 c5,.slice b5 m5 d5] 26)):=(Below.refl _ _).alloc (Nat.le_refl _) _
        have hx5:=boxT_new w5 a5 b5 n5 c5 m5 d5
        have HX5:=Lib.hid hx5
        have HT5:=Lib.hid (ht5.below hbA5)
        have HB5:=Lib.hid (below_next hb5 hbA5)
        have PRR:=Lib.hid (PRL.out _ (below_next hb5 hbA5))
        clear ht5 hb5 hbA5 hx5
        go_wp2_with fail
        refine PRR.out.mono ?_;rintro e w6 ⟨rfl,hb6⟩
        have hx6:=HX5.out.below hb6
        have hxw6:=HBX.out.below (below_next HB5.out hb6)
        obtain ⟨p0,p1,_,_⟩:=hx6.box2
        obtain ⟨q0,q1,_,_⟩:=hxw6.box2
        have T1:=Lib.hid (thy_same (HT5.out.below hb6) (HT.out.below (below_next HB5.out hb6)))
        have HB6:=Lib.hid (below_next HB5.out hb6)
        have HX6:=Lib.hid hx6
        have HT6:=Lib.hid (HT5.out.below hb6)
        clear hb6 hx6 hxw6
        go_wp2_with fail
        refine T1.out.mono ?_;rintro e w7 ⟨rfl,hb7⟩
        have hx7:=HX6.out.below hb7
        obtain ⟨p0,p1,_,_⟩:=hx7.box2
        have HB7:=Lib.hid (below_next HB6.out hb7)
        have HX7:=Lib.hid hx7
        have HT7:=Lib.hid (HT6.out.below hb7)
        clear hb7 hx7 q0 q1
        cases hE:isEnt s with
        | false =>
          rw [hE] at IN
          have UU:=Lib.hid (UA.out w7 HB7.out _ _ _ _ _ _ _ _ _ HT7.out (HUY.out.2 hE))
          go_wp2_with fail
          refine UU.out.mono ?_;rintro e w8 ⟨a8,n8,c8,b8,m8,d8,rfl,ht8,hb8⟩
          have HB8:=Lib.hid ((below_next HB7.out hb8).alloc (below_next HB7.out hb8).size (.cells #[.slice a8 n8 c8,.slice b8 m8 d8] 26))
          clear ht8 hb8 p0 p1
          go_wp2_with fail
          refine (RN.out _).mono ?_;rintro e w9 ⟨v9,rfl,hv9,hb9⟩
          have I:=Lib.hid (IN.out v9 w9 hv9)
          obtain ⟨a9,c9,rfl,_,_⟩:=hv9
          have HB9:=Lib.hid (below_next HB8.out hb9)
          clear hb9
          go_wp2_with fail
          refine I.out.mono ?_;rintro e w10 ⟨rfl,rfl⟩
          go_wp2_with fail
          go_ret
          exact ⟨rfl,HBW.out.trans (HB9.out.mono HBW.out.size)⟩
        | true =>
          rw [hE] at IN
          have UU:=Lib.hid (UA.out w7 HB7.out _ _ _ _ _ _ _ _ _ HT7.out (HUY.out.1 hE))
          go_wp2_with fail
          refine UU.out.mono ?_;rintro e w8 ⟨a8,n8,c8,b8,m8,d8,rfl,ht8,hb8⟩
          have hbA8:Below w8.heap.size w8 (w8.alloc (.cells #[.slice a8 n8 c8,.slice b8 m8 d8] 26)):=(Below.refl _ _).alloc (Nat.le_refl _) _
          have hx8:=boxT_new w8 a8 b8 n8 c8 m8 d8
          have HX8:=Lib.hid hx8
          have HT8:=Lib.hid (ht8.below hbA8)
          have HX78:=Lib.hid (HX7.out.below (below_next hb8 hbA8))
          have HT78:=Lib.hid (HT7.out.below (below_next hb8 hbA8))
          have HB8:=Lib.hid (below_next (below_next HB7.out hb8) hbA8)
          clear ht8 hb8 hbA8 hx8 p0 p1
          go_wp2_with fail
          refine (RN.out _).mono ?_;rintro e w9 ⟨v9,rfl,hv9,hb9⟩
          have I:=Lib.hid (IN.out v9 w9 hv9)
          obtain ⟨a9,c9,rfl,_,_⟩:=hv9
          obtain ⟨y0,y1,_,_⟩:=(HX8.out.below hb9).box2
          obtain ⟨z0,z1,_,_⟩:=(HX78.out.below hb9).box2
          have T9:=Lib.hid (thy_same (HT8.out.below hb9) (HT78.out.below hb9))
          have HB9:=Lib.hid (below_next HB8.out hb9)
          clear hb9
          go_wp2_with fail
          refine I.out.mono ?_;rintro e w10 ⟨rfl,rfl⟩
          go_wp2_with fail
          refine T9.out.mono ?_;rintro e w11 ⟨rfl,hb11⟩
          have HB11:=Lib.hid (below_next HB9.out hb11)
          clear hb11
          go_wp2_with fail
          go_ret
          exact ⟨rfl,HBW.out.trans (HB11.out.mono HBW.out.size)⟩
end Go.Proofs.YtjcleokfpohpdaaGreatDoor
