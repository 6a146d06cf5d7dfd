/-
  Terms with their variables by number, by the reference of layer 8: Canon.
  Whether rows of terms are alike, by the reference of layer 3: Sames.
-/
import Derived.Test.YtjcleokfpohpdaaGreatDoorU42
import Derived.Test.YtjcleokfpohpdaaGreatDoorU02
import Derived.Test.YtjcleokfpohpdaaGreatDoorU37
import Derived.Test.YtjcleokfpohpdaaGreatDoorU28
import Derived.Test.YtjcleokfpohpdaaGreatDoorU29
import Derived.Deep.RegionHeld3
import Derived.Test.YtjcleokfpohpdaaGreatDoorU33
import Derived.Deep.LoopGhost
import Derived.WalkMore
import Derived.OwnWalk
import Derived.BigQuiet
namespace Go.Proofs.YtjcleokfpohpdaaGreatDoor
open Go.RowKit
theorem bindInfo12:(Tryz.prog.info? 233).map (fun i=>(i.zero,i.size,i.bytes))=some (some (.agg #[.string ⟨#[]⟩,.int .i64 0,.string ⟨#[]⟩,.int .i64 0,.slice none 0 0]),5,72):=by kernel_rfl
theorem canonN_take (ts:List Tm) (k:Nat) (h:k < ts.length):canonN (ts.take (k + 1))=ts[k].vars.foldl addN (canonN (ts.take k)):=by
  unfold canonN
  rw [List.take_succ_eq_append_getElem h,List.flatMap_append,List.foldl_append];simp
theorem fold_take (l acc:List ByteArray) (j:Nat) (h:j < l.length):(l.take (j + 1)).foldl addN acc=addN ((l.take j).foldl addN acc) l[j]:=by
  rw [List.take_succ_eq_append_getElem h,List.foldl_append];rfl
theorem shortN_add {acc:List ByteArray} {v:ByteArray} (h:ShortN acc) (hv:v.size≤9223372036854775807):ShortN (addN acc v):=by
  unfold addN;split
  · intro x hx
    rcases List.mem_append.1 hx with hx | hx
    · exact h x hx
    · rw [List.mem_singleton.1 hx];exact hv
  · exact h
set_option maxRecDepth 100000 in
set_option maxHeartbeats 2000000 in
theorem rcanon_any (v:Value) (ts:List Tm) (w:World) (hv:Tms w v ts) (hl:ts.length≤10) (hp:∀ t ∈ ts,t.parts≤10000) :
    Calls Tryz.prog 138 #[v] w fun e w'=>∃ u,e=.returned u∧Tms w' u (canonT ts)∧Below w.heap.size w w':=by
  obtain ⟨i0,hi0,hz0,hz1,hz2⟩:=info_parts strInfo
  obtain ⟨i1,hi1,hy0,hy1,hy2⟩:=info_parts bindInfo12
  obtain ⟨i2,hi2,hx0,hx1,hx2⟩:=info_parts termInfo
  obtain ⟨a,c,rfl,⟨ha1,ha2⟩,hrow⟩:=hv
  have HX:=Lib.hid (fun (k:Nat) (hk:k < ts.length)=>(show ∃ b o,a=some ⟨b,o,none⟩∧∃ y:Tv,y.t=ts[k]∧y.ok w∧TvAt w b (o + k * 4) y from by
    rcases hrow with h | ⟨b,o,e,_,hr⟩
    · rw [h] at hk;cases hk
    · obtain ⟨y,y1,y2,y3⟩:=tmAt_tv (rowAt_get hr hk)
      exact ⟨b,o,e,y,y1,y2,y3⟩))
  have HP:=Lib.hid hp
  have IN:=Lib.hid (fun (v:Value) (zs:List ByteArray) (x:ByteArray) (W:World) (h:Strs W v zs)=>rin_any v zs x W h)
  have VS:=Lib.hid (fun (x:Tv) (W:World) (h:x.ok W) (hq:x.t.parts≤10000)=>vars_tm x W h (by omega))
  have hln:∀ k,(canonN (ts.take k)).length≤100000:=by
    intro k
    have h1:(canonN (ts.take k)).length≤((ts.take k).flatMap Tm.vars).length:=by
      have:=foldN_len ((ts.take k).flatMap Tm.vars) []
      unfold canonN;simpa using this
    have h2:∀ l:List Tm,(∀ t ∈ l,t.parts≤10000)→(l.flatMap Tm.vars).length≤l.length * 10000:=by
      intro l
      induction l with
      | nil=>intro _;simp
      | cons t r ih =>
        intro h
        rw [List.flatMap_cons,List.length_append,List.length_cons]
        have:=ih (fun u hu=>h u (List.mem_cons_of_mem _ hu))
        have:=vars_parts t
        have:=h t (List.mem_cons_self ..)
        omega
    have h3:=h2 (ts.take k) (fun t ht=>hp t (List.mem_of_mem_take ht))
    have h4:(ts.take k).length≤10:=by rw [List.length_take];omega
    omega
  have HLN:=Lib.hid hln
  clear hp hrow hln
  go_enter Tryz.func138,Tryz.ntmps138
  go_wp2_with fail
  go_loopw [3,16] (fun u i wr=>∃ k:Nat,i=.int .i64 k∧k≤ts.length∧wr.ownsRow w.heap.size 9 1 u (canonN (ts.take k)).length ((canonN (ts.take k)).map Value.string)∧ShortN (canonN (ts.take k))∧Below w.heap.size w wr) (fun _ i _=>ts.length - (intOf i).toNat)
  case atStart=>exact ⟨0,rfl,Nat.zero_le _,World.ownsRow_nil _ _ _ _,(fun x hx=>by cases hx),Below.refl _ _⟩
  case round =>
    obtain ⟨k,rfl,hk,hown,hsh,hb⟩:=hrel
    by_cases hk1:k < ts.length
    · have hkc:(k:Int) < (ts.length:Int):=by omega
      have hk0:(0:Int)≤(k:Int):=by omega
      obtain ⟨b,o,rfl,y,y1,y2,y3⟩:=HX.out k hk1
      obtain ⟨m0,m1,m2,m3⟩:TvAt wr b (o + k * 4) y:=⟨(reads_below hb).cell _ _ y3.c0,(reads_below hb).cell _ _ y3.c1,(reads_below hb).cell _ _ y3.c2,(reads_below hb).cell _ _ y3.c3⟩
      have hpy:y.t.parts≤10000:=by rw [y1];exact HP.out _ (List.getElem_mem hk1)
      have HCT:=Lib.hid (canonN_take ts k hk1)
      rw [← y1] at HCT
      have hln1:=HLN.out (k + 1)
      obtain ⟨t,ta,tc⟩:=y
      simp only at m0 m1 m2 m3 hpy HCT
      have hbA:Below wr.heap.size wr (wr.alloc (.cells #[.int .i64 t.kind,.string t.name,.int .i64 t.n,.slice ta t.args.length tc] 70)):=(Below.refl _ _).alloc (Nat.le_refl _) _
      have VV:=Lib.hid (VS.out ⟨t,ta,tc⟩ (wr.alloc (.cells #[.int .i64 t.kind,.string t.name,.int .i64 t.n,.slice ta t.args.length tc] 70)) ((y2.below hb).below hbA) hpy)
      have HA:=Lib.hid hbA
      have HO:=Lib.hid hown
      have HB:=Lib.hid hb
      have HS:=Lib.hid hsh
      have HNMS:=Lib.hid (fun (u:ByteArray) (hu:u ∈ t.vars)=>ok_vars y2 hu)
      have hvp:=vars_parts t
      clear hown hb hbA y1 y2 y3 hsh
      unfold Tv.val at VV
      simp only at VV
      go_wp2_with fail
      refine VV.out.mono ?_;rintro e w2 ⟨v2,rfl,hv2,hown2,hb2⟩
      have HV2:=Lib.hid hv2
      have HB2:=Lib.hid (show Below wr.heap.size wr w2 from below_next HA.out hb2)
      have HO2:=Lib.hid (own_below HO.out HB2.out)
      obtain ⟨a2,c2,rfl,hl2,hc2⟩:=hv2
      have hol:=own_row_lt HO.out
      have hog:=own_row_ge HO.out
      obtain ⟨ob,hob⟩:∃ ob,u3.ownBlock=ob:=⟨_,rfl⟩
      rw [hob] at hol hog
      have HOB:=Lib.hid hob
      clear hob
      have hge2:=own_row_ge hown2
      have hbs2:=hb2.size
      have HC2:=Lib.hid (fun (j:Nat) (hj:j < t.vars.length) (W:World) (h:w2.grownBy W ob)=>(show ∃ b o,a2=some ⟨b,o,none⟩∧W.cell? ⟨b,o + j,none⟩=some (.string t.vars[j]) from by
        rcases hc2 with h0 | ⟨b,o,e,hlt,h0⟩
        · rw [h0] at hj;cases hj
        · have hg:t.vars.getD j ByteArray.empty=t.vars[j]:=by simp [List.getD,List.getElem?_eq_getElem hj]
          have hbb:=hge2 b (by rw [e];rfl)
          rw [World.size_alloc] at hbb
          have hblk:=h.block b hlt (fun e2=>by have:=hol b e2.symm;omega)
          exact ⟨b,o,e,(World.cell?_of_block hblk).trans (by rw [h0 j hj,hg])⟩))
      have HOG:=Lib.hid (And.intro hog hol)
      clear hc2 hb2 m0 m1 m2 m3 hge2 hbs2 hown2 hol hog
      go_wp2_with fail
      go_loopw [3,23] (fun u i wi=>∃ j:Nat,i=.int .i64 j∧j≤t.vars.length∧wi.ownsRow w.heap.size 9 1 u ((t.vars.take j).foldl addN (canonN (ts.take k))).length (((t.vars.take j).foldl addN (canonN (ts.take k))).map Value.string)∧ShortN ((t.vars.take j).foldl addN (canonN (ts.take k)))∧w2.grownBy wi ob∧(∀ g,u.ownBlock=some g→ob=some g∨w2.heap.size≤g)) (fun _ i _=>t.vars.length - (intOf i).toNat)
      case atStart=>exact ⟨0,rfl,Nat.zero_le _,HO2.out,HS.out,⟨rfl,rfl,rfl,Nat.le_refl _,fun _ _ _=>rfl⟩,fun g h=>.inl (by rw [← HOB.out];exact h)⟩
      case round =>
        obtain ⟨j,rfl,hj,hown,hsh,hbi,hat⟩:=hrel
        have hbww:Below w.heap.size w w2:=HB.out.trans (HB2.out.mono HB.out.size)
        have hbwr:Below w.heap.size w wr:=hbww.grown hbi hbww.size HOG.out.1
        have HAT:=Lib.hid hat
        have HBWR:=Lib.hid hbwr
        by_cases hj1:j < t.vars.length
        · have hjc:(j:Int) < (t.vars.length:Int):=by omega
          have hj0:(0:Int)≤(j:Int):=by omega
          obtain ⟨b2,o2,rfl,n0⟩:=HC2.out j hj1 wr hbi
          have HFT:=Lib.hid (fold_take t.vars (canonN (ts.take k)) j hj1)
          have hsz:=HNMS.out _ (List.getElem_mem hj1)
          obtain ⟨nm,hnm⟩:∃ nm,t.vars[j]=nm:=⟨_,rfl⟩
          rw [hnm] at n0 HFT hsz
          obtain ⟨acc,hacc⟩:∃ acc,(t.vars.take j).foldl addN (canonN (ts.take k))=acc:=⟨_,rfl⟩
          rw [hacc] at hown hsh HFT
          have hal:acc.length≤200000:=by
            have h1:=foldN_len (t.vars.take j) (canonN (ts.take k))
            have h2:=HLN.out k
            rw [hacc,List.length_take] at h1
            omega
          have HIN:=Lib.hid (IN.out _ acc nm wr (strs_of_own hown (by omega)))
          obtain ⟨au,cu,hau⟩:=own_slice hown
          rw [hau] at hown HIN ⊢
          have HAT2:=Lib.hid (show ∀ g,(Value.slice au acc.length cu).ownBlock=some g→ob=some g∨w2.heap.size≤g from fun g hg=>HAT.out g (by rw [hau];exact hg))
          have HO3:=Lib.hid hown
          have HSH:=Lib.hid hsh
          have HBI:=Lib.hid hbi
          have hws:w.heap.size≤wr.heap.size:=hbwr.size
          clear hnm hacc hsh hbi hbww hbwr hat
          cases hin:Lib.containsS acc nm with
          | true =>
            rw [hin] at HIN
            have HFE:=Lib.hid (show addN acc nm=acc from addN_has hin)
            clear hin hown
            go_wp2_with fail
            refine HIN.out.mono ?_;rintro e w3 ⟨rfl,rfl⟩
            go_wp2_with fail
            go_roundw
            case rel=>exact ⟨j + 1,by go_num,by omega,by rw [HFT.out,HFE.out];exact HO3.out,by rw [HFT.out,HFE.out];exact HSH.out,HBI.out,HAT2.out⟩
            case measure=>simp [intOf];omega
          | false =>
            rw [hin] at HIN
            have HFE:=Lib.hid (show addN acc nm=acc ++ [nm] from by unfold addN;rw [if_pos hin])
            have HNC:=Lib.hid (new_cells wr [.string nm] 9)
            have hownA:=hown.alloc (.cells #[.string nm] 9)
            clear hin
            go_wp2_with fail
            refine HIN.out.mono ?_;rintro e w3 ⟨rfl,rfl⟩
            go_wp2_with (at_builtin;refine wpList_append_own_at _ rfl _ _ 27 rfl w.heap.size 9 i0 (.string ⟨#[]⟩) 1 16 Tryz.underlying27 hi0 hz0 hz1 hz2 rfl (by decide) _ acc.length _ rfl hownA ⟨wr.heap.size,0,none⟩ 1 1 [.string nm] rfl rfl ?c1 ?c2 ?c3 ?c4 ?c5 ?_)
            case c1=>exact HNC.out
            case c2=>intro u hu;rw [List.mem_singleton.1 hu];rfl
            case c3=>unfold maxLen;omega
            case c4=>omega
            case c5=>simp;omega
            intro v' w5 hown' hgrow _ hat5
            have hrowl:=own_row_lt hown
            have hb5:w2.grownBy w5 ob:=HBI.out.andThen ((World.grownBy_alloc wr (.cells #[.string nm] 9) _).trans hgrow) (fun q hq=>by
              rcases HAT2.out q hq with h | h
              · exact .inr h
              · exact .inl h)
            have hat6:∀ g,v'.ownBlock=some g→ob=some g∨w2.heap.size≤g:=fun g hg=>by
              rcases hat5 with h | h
              · exact HAT2.out g (by rw [← h];exact hg)
              · rw [h] at hg;injection hg with hg
                have:=HBI.out.size
                have h3:(wr.alloc (.cells #[.string nm] 9)).heap.size=wr.heap.size + 1:=by simp
                right;omega
            have HAT6:=Lib.hid hat6
            have HO5:=Lib.hid (show w5.ownsRow w.heap.size 9 1 v' ((addN acc nm)).length ((addN acc nm).map Value.string) from by rw [HFE.out,List.map_append,List.length_append];exact hown')
            have HB5:=Lib.hid hb5
            clear hown' hgrow hownA hb5 hat6 hat5 hrowl
            go_wp2_with fail
            go_roundw
            case rel=>exact ⟨j + 1,by go_num,by omega,by rw [HFT.out];exact HO5.out,by rw [HFT.out];exact shortN_add HSH.out hsz,HB5.out,HAT6.out⟩
            case measure=>simp [intOf];omega
        · obtain rfl:j=t.vars.length:=by omega
          rw [List.take_length] at hown hsh
          have HO4:=Lib.hid hown
          have HS4:=Lib.hid hsh
          have HB4:=Lib.hid hbwr
          clear hown hsh hbi hbww hbwr hat
          go_wp2_with fail
          go_roundw
          case rel=>exact ⟨k + 1,by go_num,by omega,by rw [HCT.out];exact HO4.out,by rw [HCT.out];exact HS4.out,HB4.out⟩
          case measure=>simp [intOf];omega
    · obtain rfl:k=ts.length:=by omega
      obtain ⟨wn,rfl⟩:∃ wn,wn=wr:=⟨_,rfl⟩
      rw [List.take_length] at hown hsh
      have HL0:=HLN.out ts.length
      rw [List.take_length] at HL0
      obtain ⟨names,hnames⟩:∃ names,canonN ts=names:=⟨_,rfl⟩
      rw [hnames] at hown hsh HL0
      have HST:=Lib.hid (strs_of_own hown (by omega))
      have HSH:=Lib.hid hsh
      have HB:=Lib.hid hb
      have HCN:=Lib.hid (show canonT ts=ts.map (appT (canonB 0 names)) from by unfold canonT;rw [hnames])
      have HDG:=Lib.hid (fun (n:Nat) (h:n≤1000000) (W:World)=>rdigits_any (n:Int) (by omega) (by omega) W)
      have HVR:=Lib.hid (fun (s:ByteArray) (W:World)=>rvar_any s W)
      have hws:w.heap.size≤wn.heap.size:=hb.size
      obtain ⟨an,cn,hu3,hnl,hnc⟩:=HST.out
      rw [hu3]
      have HNC:=Lib.hid (fun (j:Nat) (hj:j < names.length) (W:World) (h:Below wn.heap.size wn W)=>(show ∃ b o,an=some ⟨b,o,none⟩∧W.cell? ⟨b,o + j,none⟩=some (.string names[j]) from by
        rcases hnc with h0 | ⟨b,o,e,hlt,h0⟩
        · rw [h0] at hj;cases hj
        · have hg:names.getD j ByteArray.empty=names[j]:=by simp [List.getD,List.getElem?_eq_getElem hj]
          exact ⟨b,o,e,(h.cell (p:=⟨b,o + j,none⟩) hlt).trans (by rw [h0 j hj,hg])⟩))
      clear hown hsh hb hnames hnc hu3 HLN
      go_wp2_with fail
      go_loopw [8,39] (fun u i wi=>∃ j:Nat,i=.int .i64 j∧j≤names.length∧wi.ownsRow wn.heap.size 233 5 u j (rowBv (canBvs 0 (names.take j)))∧Below wn.heap.size wn wi) (fun _ i _=>names.length - (intOf i).toNat)
      case atStart=>exact ⟨0,rfl,Nat.zero_le _,World.ownsRow_nil _ _ _ _,Below.refl _ _⟩
      case round =>
        obtain ⟨j,rfl,hj,hown,hbi⟩:=hrel
        by_cases hj1:j < names.length
        · have hjc:(j:Int) < (names.length:Int):=by omega
          have hj0:(0:Int)≤(j:Int):=by omega
          obtain ⟨b2,o2,rfl,n0⟩:=HNC.out j hj1 wr hbi
          have HB1:=Lib.hid hbi
          have HO1:=Lib.hid hown
          have DG:=Lib.hid (fun W=>HDG.out j (by omega) W)
          have hcat:(⟨#[88]⟩:ByteArray) ++ ⟨(Lib.itoa (j:Int)).toArray⟩=⟨(88 :: Lib.itoa (j:Int)).toArray⟩:=by
            apply ByteArray.ext
            simp
          have hds:(⟨(Lib.itoa (j:Int)).toArray⟩:ByteArray).size≤42:=by
            have:=itoa_small j (by omega)
            simp only [ByteArray.size,List.size_toArray];omega
          obtain ⟨nm,hnm⟩:∃ nm,names[j]=nm:=⟨_,rfl⟩
          obtain ⟨cn',hcn'⟩:∃ x,(⟨(88 :: Lib.itoa (j:Int)).toArray⟩:ByteArray)=x:=⟨_,rfl⟩
          have HTK:=Lib.hid (show rowBv (canBvs 0 (names.take (j + 1)))=rowBv (canBvs 0 (names.take j)) ++ [.string nm,.int .i64 1,.string cn',.int .i64 0,.slice none 0 0] from by
            rw [List.take_succ_eq_append_getElem hj1,canBvs_append,rowBv_append,hnm,List.length_take,Nat.min_eq_left (by omega),Nat.zero_add,rowBv_one,← hcn'];rfl)
          rw [hnm] at n0
          rw [hcn'] at hcat
          obtain ⟨dg,hdg⟩:∃ x,(⟨(Lib.itoa (j:Int)).toArray⟩:ByteArray)=x:=⟨_,rfl⟩
          rw [hdg] at DG hcat hds
          have HCAT:=Lib.hid hcat
          have hcl:(⟨#[88]⟩:ByteArray).size + dg.size≤43:=by rw [show (⟨#[88]⟩:ByteArray).size=1 from rfl];omega
          have hcl2:¬ (9223372036854775807 < (⟨#[88]⟩:ByteArray).size + dg.size):=by omega
          clear hbi hown hnm hcat hcn' hdg
          go_wp2_with fail
          refine (DG.out _).mono ?_;rintro e w3 ⟨rfl,hb3⟩
          have HB3:=Lib.hid (HB1.out.trans (hb3.mono HB1.out.size))
          have HO3:=Lib.hid (own_below HO1.out hb3)
          clear hb3
          go_wp2_with fail
          rw [HCAT.out]
          refine (HVR.out _ _).mono ?_;rintro e w4 ⟨rfl,hb4⟩
          have hb34:=HB3.out.trans (hb4.mono HB3.out.size)
          have hbA:=hb34.alloc hb34.size (.cells #[.string nm,.int .i64 1,.string cn',.int .i64 0,.slice none 0 0] 233)
          have hsA:wn.heap.size≤(w4.alloc (.cells #[.string nm,.int .i64 1,.string cn',.int .i64 0,.slice none 0 0] 233)).heap.size:=hbA.size
          have HBA:=Lib.hid hbA
          have hownA:=(own_below HO3.out hb4).alloc (.cells #[.string nm,.int .i64 1,.string cn',.int .i64 0,.slice none 0 0] 233)
          have HNW:=Lib.hid (new_cells w4 [.string nm,.int .i64 1,.string cn',.int .i64 0,.slice none 0 0] 233)
          clear hb4 hb34 hbA
          go_wp2_with (at_builtin;refine wpList_append_own_at _ rfl _ _ 230 rfl wn.heap.size 233 i1 (.agg #[.string ⟨#[]⟩,.int .i64 0,.string ⟨#[]⟩,.int .i64 0,.slice none 0 0]) 5 72 Tryz.underlying230 hi1 hy0 hy1 hy2 rfl (by decide) _ j _ rfl hownA ⟨w4.heap.size,0,none⟩ 1 1 [.string nm,.int .i64 1,.string cn',.int .i64 0,.slice none 0 0] rfl rfl ?c1 ?c2 ?c3 ?c4 ?c5 ?_)
          case c1=>exact HNW.out
          case c2=>intro u hu;simp at hu;rcases hu with rfl | rfl | rfl | rfl | rfl<;>rfl
          case c3=>unfold maxLen;omega
          case c4=>omega
          case c5=>exact hsA
          intro v' w5 hown' hgrow _ _
          have HO5:=Lib.hid (show w5.ownsRow wn.heap.size 233 5 v' (j + 1) (rowBv (canBvs 0 (names.take (j + 1)))) from by rw [HTK.out];exact hown')
          have HB5:=Lib.hid (HBA.out.grown hgrow hsA (own_row_ge hownA))
          clear hown' hgrow hownA hsA
          go_wp2_with fail
          go_roundw
          case rel=>exact ⟨j + 1,by go_num,by omega,HO5.out,HB5.out⟩
          case measure=>simp [intOf];omega
        · obtain rfl:j=names.length:=by omega
          rw [List.take_length] at hown
          obtain ⟨wm,rfl⟩:∃ wm,wm=wr:=⟨_,rfl⟩
          have hbd:Bds wm u8 (canonB 0 names):=by
            rw [← canBvs_bn]
            exact bds_own hown (canBvs_length 0 names) (canBvs_ok wm 0 names (by omega) HSH.out) (Below.refl _ _) (by omega)
          have hbwm:Below w.heap.size w wm:=HB.out.trans (hbi.mono HB.out.size)
          have APL:=Lib.hid (fun (x:Tv) (W:World) (hx:x.ok w) (hq:x.t.parts≤10000) (h:Below wm.heap.size wm W)=>rapply_tm (canonB 0 names) u8 wm hbd x.t.parts x W (Nat.le_refl _) (by omega) (hx.below hbwm) h)
          unfold ApPost at APL
          have HBM:=Lib.hid hbwm
          obtain ⟨ab,cb,hu8⟩:=own_slice hown
          rw [hu8] at APL ⊢
          clear hown hbi hbd hu8 HNC
          go_wp2_with fail
          go_loopw [11,56] (fun o k wr=>∃ (q:Nat) (vs:List Tv),q≤ts.length∧k=.int .i64 q∧Hid (vs.map Tv.t=(ts.take q).map (appT (canonB 0 names)))∧vs.length=q∧Hid (∀ z ∈ vs,Beside wm wm wr o z)∧Hid (wr.ownsRow wm.heap.size 70 4 o q (rowTv vs))∧Hid (Below wm.heap.size wm wr)) (fun _ k _=>ts.length - (intOf k).toNat)
          case atStart=>exact ⟨0,[],Nat.zero_le _,rfl,Lib.hid (by simp),rfl,Lib.hid (fun _ h=>nomatch h),Lib.hid (World.ownsRow_nil _ _ _ _),Lib.hid (Below.refl _ _)⟩
          case round =>
            obtain ⟨q,vs,hq,rfl,HVT,hvl,HVB,HOWN,HBW⟩:=hrel
            have hbs:=HBW.out.size
            have hB0w:Below w.heap.size w wr:=HBM.out.trans (HBW.out.mono HBM.out.size)
            by_cases hql:q < ts.length
            · obtain ⟨b',o',rfl,y,hyt,hyo,hy⟩:=HX.out q hql
              obtain ⟨m0,m1,m2,m3⟩:TvAt wr b' (o' + q * 4) y:=⟨(reads_below hB0w).cell _ _ hy.c0,(reads_below hB0w).cell _ _ hy.c1,(reads_below hB0w).cell _ _ hy.c2,(reads_below hB0w).cell _ _ hy.c3⟩
              have hpy:y.t.parts≤10000:=by rw [hyt];exact HP.out _ (List.getElem_mem hql)
              have HTS:=Lib.hid (show (ts.take (q + 1)).map (appT (canonB 0 names))=(ts.take q).map (appT (canonB 0 names)) ++ [appT (canonB 0 names) y.t] by rw [map_take_succ _ hql,hyt])
              obtain ⟨zt,za,zc⟩:=y
              simp only at hyt hyo m0 m1 m2 m3 hpy HTS
              have hbX:Below wm.heap.size wm (wr.alloc (.cells #[.int .i64 zt.kind,.string zt.name,.int .i64 zt.n,.slice za zt.args.length zc] 70)):=HBW.out.alloc hbs _
              have HC:=Lib.hid (APL.out ⟨zt,za,zc⟩ _ hyo hpy hbX)
              unfold Tv.val at HC
              simp only at HC
              have hbxs:wm.heap.size≤(wr.alloc (.cells #[.int .i64 zt.kind,.string zt.name,.int .i64 zt.n,.slice za zt.args.length zc] 70)).heap.size:=hbX.size
              have hq0:(0:Int)≤(q:Int):=by omega
              have hq1:(q:Int) < (ts.length:Int):=by omega
              have hmm:q + 1≤maxLen:=by unfold maxLen;omega
              have hmb:(q + 1) * 56≤140737488355328:=by omega
              have hbXr:Below wr.heap.size wr (wr.alloc (.cells #[.int .i64 zt.kind,.string zt.name,.int .i64 zt.n,.slice za zt.args.length zc] 70)):=(Below.refl _ _).alloc (Nat.le_refl _) _
              have hol:∀ g,u11.ownBlock=some g→g < (wr.alloc (.cells #[.int .i64 zt.kind,.string zt.name,.int .i64 zt.n,.slice za zt.args.length zc] 70)).heap.size:=fun g e=>Nat.lt_of_lt_of_le (HOWN.out.lt g e).2 hbXr.size
              have HOL:=Lib.hid hol
              have HXR:=Lib.hid hbXr
              have HXS:=Lib.hid hbxs
              clear hyt hyo hy hol hbX hbXr hbxs
              go_wp2_with fail
              refine HC.out.mono ?_;rintro e w4 ⟨⟨ty,aY,cY⟩,rfl,hzt,hzf,hb4⟩
              have hb4r:Below wr.heap.size wr w4:=below_next HXR.out hb4
              have hbA:=hb4r.alloc hb4r.size (.cells #[.int .i64 ty.kind,.string ty.name,.int .i64 ty.n,.slice aY ty.args.length cY] 70)
              have hownA:=own_below HOWN.out hbA
              have hbB:=beside_fresh (w:=wm) hzf HXS.out HOL.out
              have HBB:=Lib.hid hbB
              have HAA:=Lib.hid hbA
              have HVT2:=Lib.hid (show (vs ++ [(⟨ty,aY,cY⟩:Tv)]).map Tv.t=(ts.take (q + 1)).map (appT (canonB 0 names)) by rw [List.map_append,HVT.out,HTS.out];exact congrArg (fun x=>_ ++ [x]) hzt)
              have HN1:=Lib.hid (World.news_of_block (heap_alloc_new w4 (.cells #[.int .i64 ty.kind,.string ty.name,.int .i64 ty.n,.slice aY ty.args.length cY] 70)))
              have HO1:=Lib.hid (fun (x:Value) (hx:x ∈ [Value.int .i64 ty.kind,.string ty.name,.int .i64 ty.n,.slice aY ty.args.length cY])=>(show x.oneCell'=true from rowTv_one' [⟨ty,aY,cY⟩] x (by rw [rowTv_one];exact hx)))
              have hsz:wm.heap.size≤(w4.alloc (.cells #[.int .i64 ty.kind,.string ty.name,.int .i64 ty.n,.slice aY ty.args.length cY] 70)).heap.size:=by have h2:=hbA.size;omega
              clear hzt hzf hb4 hb4r hbA hbB m0 m1 m2 m3
              simp only
              go_wp2_with (at_builtin;refine wpList_append_own_at _ rfl _ _ 63 rfl wm.heap.size 70 i2 (.agg #[.int .i64 0,.string ⟨#[]⟩,.int .i64 0,.slice none 0 0]) 4 56 Tryz.underlying63 hi2 hx0 hx1 hx2 rfl (by decide) _ q (rowTv vs) rfl hownA ⟨w4.heap.size,0,none⟩ 1 1 [.int .i64 ty.kind,.string ty.name,.int .i64 ty.n,.slice aY ty.args.length cY] rfl rfl HN1.out HO1.out hmm hmb hsz ?_;intro v5 w5 hown5 hg5 _ hat5)
              go_roundw
              case rel =>
                have hb5:Below wm.heap.size wm w5:=(HBW.out.trans (HAA.out.mono hbs)).grown hg5 hsz (fun y e=>(hownA.lt y e).1)
                have hAB:Below w4.heap.size w4 (w4.alloc (.cells #[.int .i64 ty.kind,.string ty.name,.int .i64 ty.n,.slice aY ty.args.length cY] 70)):=(Below.refl _ _).alloc (Nat.le_refl _) _
                have hall:∀ x ∈ vs ++ [(⟨ty,aY,cY⟩:Tv)],Beside wm wm w5 v5 x:=fun x hx=>by
                  rcases List.mem_append.1 hx with hx | hx
                  · exact ((HVB.out x hx).below HAA.out).grown hg5 hat5
                  · rw [List.mem_singleton] at hx
                    subst hx
                    exact (HBB.out.below hAB).grown hg5 hat5
                have hrow:w5.ownsRow wm.heap.size 70 4 v5 (q + 1) (rowTv (vs ++ [(⟨ty,aY,cY⟩:Tv)])):=by rw [rowTv_append,rowTv_one];exact hown5
                first
                  | exact ⟨v5,_,.int .i64 ((q:Int) + 1),⟨q + 1,by omega,by go_num,vs ++ [(⟨ty,aY,cY⟩:Tv)],Lib.hid HVT2.out,by rw [List.length_append,hvl];rfl,Lib.hid hall,Lib.hid hrow,Lib.hid hb5⟩,rfl,rfl,rfl⟩
                  | exact ⟨q + 1,vs ++ [(⟨ty,aY,cY⟩:Tv)],by omega,by go_num,Lib.hid HVT2.out,by rw [List.length_append,hvl];rfl,Lib.hid hall,Lib.hid hrow,Lib.hid hb5⟩
              case measure=>simp [intOf];omega
            · obtain rfl:q=ts.length:=by omega
              have hvt:vs.map Tv.t=canonT ts:=by
                have h:=HVT.out
                rw [List.take_of_length_le (Nat.le_refl _)] at h
                rw [HCN.out];exact h
              have hT:OwnTv wr wr wm.heap.size u11 (vs.map Tv.t):=⟨vs,rfl,fun x hx=>HVB.out x hx wr (reads_below HBW.out) (Nat.le_refl _) (fun _ _ _ _=>rfl),by rw [List.length_map,hvl];exact HOWN.out⟩
              have hTT:=hT.tms (Below.refl _ _) (by rw [List.length_map,hvl];omega)
              rw [hvt] at hTT
              have HTT:=Lib.hid hTT
              have HBE:=Lib.hid hB0w
              clear hT hTT hvt hB0w
              go_wp2_with fail
              go_ret
              exact ⟨_,rfl,HTT.out,HBE.out⟩
end Go.Proofs.YtjcleokfpohpdaaGreatDoor
namespace Go.Proofs.YtjcleokfpohpdaaGreatDoor
open Go.RowKit
theorem sames_len {xs ys:List Tm} (h:xs.length≠ys.length):eqTs xs ys=false:=by
  apply eqTs_false;rintro rfl;exact h rfl
theorem sames_at {xs ys:List Tm} {k:Nat} (h1:k < xs.length) (h2:k < ys.length) (h:xs[k]≠ys[k]):eqTs xs ys=false:=by
  apply eqTs_false;rintro rfl;exact h rfl
set_option maxRecDepth 100000 in
set_option maxHeartbeats 1000000 in
theorem sames_tm (v u:Value) (ts us:List Tm) (w:World) (hv:Tms w v ts) (hu:Tms w u us) :
    Calls Tryz.prog 22 #[v,u] w fun e w'=>e=.returned (.bool (eqTs ts us))∧Below w.heap.size w w':=by
  obtain ⟨a,c,rfl,hl,h⟩:=hv.open_
  obtain ⟨a',c',rfl,hl',h'⟩:=hu.open_
  clear hv hu
  by_cases hlen:ts.length=us.length
  · have hq:((ts.length:Int) != (us.length:Int))=false:=by simp [hlen]
    have HL:=Lib.hid hlen
    rcases h with rfl | ⟨b,off,rfl,hlt,hc⟩
    · have:us=[]:=by simpa using hlen.symm
      subst this
      have HE:=Lib.hid (eqTs_true (rfl:([]:List Tm)=[]))
      go_enter Tryz.func22,Tryz.ntmps22
      go_wp2
      refine wp_loop_rounds 1 ?_;rw [rounds_succ]
      go_wp2
      go_ret
      exact ⟨ret_bool HE.out.symm,Below.refl _ _⟩
    · rcases h' with rfl | ⟨b',off',rfl,hlt',hc'⟩
      · have:ts=[]:=by simpa using hlen
        subst this
        have HE:=Lib.hid (eqTs_true (rfl:([]:List Tm)=[]))
        go_enter Tryz.func22,Tryz.ntmps22
        go_wp2
        refine wp_loop_rounds 1 ?_;rw [rounds_succ]
        go_wp2
        go_ret
        exact ⟨ret_bool HE.out.symm,Below.refl _ _⟩
      · have HC:=Lib.hid hc
        have HC':=Lib.hid hc'
        have S:=Lib.hid (fun x y w hx hy=>same_tm x.t.parts x y w (Nat.le_refl _) hx hy)
        clear hc hc' hlen
        go_enter Tryz.func22,Tryz.ntmps22
        go_wp2
        go_loopw [13] (fun i wr=>∃ k:Nat,k≤ts.length∧i=.int .i64 k∧TmsTo ts us k∧Below w.heap.size w wr) (fun i _=>ts.length - (intOf i).toNat)
        case atStart=>exact ⟨0,Nat.zero_le _,rfl,(fun j _ _ hk=>by omega),Below.refl _ _⟩
        case round =>
          obtain ⟨k,hk,rfl,hal,hb⟩:=hrel
          have HA:=Lib.hid hal
          clear hal
          by_cases hlt1:k < ts.length
          · have hlt2:k < us.length:=by have:=HL.out;omega
            have hi1:(k:Int) < (ts.length:Int):=by omega
            have hi2:(k:Int) < (us.length:Int):=by omega
            obtain ⟨x,hx,hxk,hat⟩:=HC.out k hlt1
            obtain ⟨y,hy,hyk,hat'⟩:=HC'.out k hlt2
            obtain ⟨d0,d1,d2,d3⟩:=hat.below hb
            obtain ⟨g0,g1,g2,g3⟩:=hat'.below hb
            have C:=Lib.hid (S.out x y wr.drew ((hxk.below hb).drew) ((hyk.below hb).drew))
            have HX:=Lib.hid hx
            have HY:=Lib.hid hy
            simp only [Tv.val] at C
            clear hx hy hxk hyk hat hat'
            cases he:eqT x.t y.t with
            | true =>
              rw [he] at C
              have HE:=Lib.hid (eqT_iff.1 he)
              clear he
              go_wp2
              go_still_tail 8,(by kernel_rfl)
              go_wp2_with fail
              refine C.out.mono ?_;rintro e w1 ⟨rfl,hb1⟩
              go_wp2_with fail
              go_roundw
              case rel=>exact ⟨k + 1,by omega,by go_num,HA.out.succ hlt1 hlt2 (HX.out.symm.trans (HE.out.trans HY.out)),below_next hb.drew hb1⟩
              case measure=>simp [intOf];omega
            | false =>
              rw [he] at C
              have HE:Hid (x.t≠y.t):=Lib.hid (fun e=>by rw [eqT_true e] at he;cases he)
              clear he
              go_wp2
              go_still_tail 8,(by kernel_rfl)
              go_wp2_with fail
              refine C.out.mono ?_;rintro e w1 ⟨rfl,hb1⟩
              go_wp2_with fail
              go_ret
              exact ⟨ret_bool (sames_at hlt1 hlt2 (by rw [← HX.out,← HY.out];exact HE.out)).symm,below_next hb.drew hb1⟩
          · obtain rfl:k=ts.length:=by omega
            go_wp2
            go_ret
            exact ⟨ret_bool (eqTs_true (HA.out.all HL.out)).symm,hb⟩
  · have hq:((ts.length:Int) != (us.length:Int))=true:=by rw [bne_iff_ne];omega
    have HE:=Lib.hid (sames_len hlen)
    clear hlen
    go_enter Tryz.func22,Tryz.ntmps22
    go_wp2
    go_ret
    exact ⟨ret_bool HE.out.symm,Below.refl _ _⟩
end Go.Proofs.YtjcleokfpohpdaaGreatDoor
