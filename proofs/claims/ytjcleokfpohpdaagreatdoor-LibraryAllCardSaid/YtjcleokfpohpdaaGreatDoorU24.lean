/-
  Two sorted parts of a row merged in place: where the second begins ahead of the middle, or there.
-/
import Derived.Test.YtjcleokfpohpdaaGreatDoorU22
namespace Go.Proofs.YtjcleokfpohpdaaGreatDoor
open Go.RowKit Go.Shelf Go.Lib Go.Sort
variable {α:Type} [Inhabited α] {P:Program} {k:Nat} {enc:α→List Value}
set_option maxRecDepth 100000 in
set_option maxHeartbeats 8000000 in
theorem sym_hi (T:TyB P k) (Fsym:P.funcs[(260:Nat)]? = some Tryz.f260) (Frot:P.funcs[(262:Nat)]? = some Tryz.f262) (Fswr:P.funcs[(263:Nat)]? = some Tryz.f263) (cf:α→α→Int) (g:Nat) (eg:∀ args w,(callFunc g args).run P w=.ok (.enter g args) w) (hO:SWO (ltOf cf)) (blk off cap sz:Nat) (d0:Array α) (w0:World) (hcmp:CmpLays P g #[] enc k cf blk off sz w0) (R:RowK enc k w0 blk off d0) (h0:d0.size=sz) (hsz:sz≤1000000) (N:Nat) (ih:∀ (a m b:Nat) (d:Array α) (w:World),b - a≤N→a < m→m < b→b≤sz→d.size=sz→SWK enc k w0 blk off d w→SortedIn (ltOf cf) a m d→SortedIn (ltOf cf) m b d →
    Calls P 260 #[.slice (some ⟨blk,off,none⟩) sz cap,.int .i64 a,.int .i64 m,.int .i64 b,.func (.func g) #[] #[]] w fun e w' =>
      e=.returned (.tuple #[])∧∃ d',Merged (ltOf cf) a b d d'∧SWK enc k w0 blk off d' w') (a m b:Nat) (d:Array α) (w:World) (hN:b - a≤N + 1) (ham:a < m) (hmb:m < b) (hb:b≤sz) (hs:d.size=sz) (S:SWK enc k w0 blk off d w) (hA:SortedIn (ltOf cf) a m d) (hB:SortedIn (ltOf cf) m b d) (c1:¬ m=a + 1) (c2:¬ b=m + 1) (hz:m≤(a + b) / 2) :
    Calls P 260 #[.slice (some ⟨blk,off,none⟩) sz cap,.int .i64 a,.int .i64 m,.int .i64 b,.func (.func g) #[] #[]] w fun e w' =>
      e=.returned (.tuple #[])∧∃ d',Merged (ltOf cf) a b d d'∧SWK enc k w0 blk off d' w':=by
  have IH:=Lib.hid ih
  have ROT:=Lib.hid (fun (s x e:Nat) (dk:Array α) (W:World) (hS:SWK enc k w0 blk off dk W) (hk:dk.size=sz) (h1:s < x) (h2:x < e) (h3:e≤sz)=>rot_gen T Frot Fswr (.func (.func g) #[] #[]) blk off cap s x e sz dk d0 w0 W R hS hk h0 h1 h2 h3 hsz)
  have HC:=Lib.hid hcmp
  have HS0:=Lib.hid S
  have HZ:=Lib.hid hs
  have HZ0:=Lib.hid h0
  have HA:=Lib.hid hA
  have HB:=Lib.hid hB
  have HO:=Lib.hid hO
  have esym:∀ args w,(callFunc 260 args).run P w=.ok (.enter 260 args) w:=enters_of Fsym (by kernel_rfl) rfl
  have erot:∀ args w,(callFunc 262 args).run P w=.ok (.enter 262 args) w:=enters_of Frot (by kernel_rfl) rfl
  have HESY:=Lib.hid esym
  have HERO:=Lib.hid erot
  clear ih S hs h0 hcmp hA hB hO esym erot
  have mixed:=T.mixed;have t0:=T.t0;have a0:=T.a0;have z0:=T.z0;have v0:=T.v0;have t3:=T.t3;have a3:=T.a3;have z3:=T.z3;have v3:=T.v3;have t4:=T.t4;have a4:=T.a4;have z4:=T.z4;have v4:=T.v4;have t77:=T.t77;have a77:=T.a77;have z77:=T.z77;have v77:=T.v77;have t22:=T.t22;have a22:=T.a22;have z22:=T.z22;have v22:=T.v22;have t53:=T.t53;have a53:=T.a53;have z53:=T.z53;have v53:=T.v53;have aE:=T.aE;have zE:=T.zE
  have u0:=run_underlying T.t0;have u3:=run_underlying T.t3;have u4:=run_underlying T.t4;have u22:=run_underlying T.t22;have u53:=run_underlying T.t53;have u77:=run_underlying T.t77
  obtain ⟨u,hu⟩:∃ u,m=a + u:=⟨m - a,by omega⟩
  have ru:(m:Int) - (a:Int)=(u:Int):=by omega
  have hu1:¬ (u:Int)=1:=by omega
  have hu2:((u:Int)==1)=false:=by rw [beq_eq_false_iff_ne];omega
  have hu3:¬ u=1:=by omega
  have HU:=Lib.hid hu
  clear hu c1
  obtain ⟨v,hv⟩:∃ v,b=m + v:=⟨b - m,by omega⟩
  have rv:(b:Int) - (m:Int)=(v:Int):=by omega
  have hv1:¬ (v:Int)=1:=by omega
  have hv2:((v:Int)==1)=false:=by rw [beq_eq_false_iff_ne];omega
  have hv3:¬ v=1:=by omega
  obtain ⟨mid,hmid⟩:∃ mid,mid=(a + b) / 2:=⟨_,rfl⟩
  obtain ⟨nn,hnn⟩:∃ nn,nn=mid + m:=⟨_,rfl⟩
  obtain ⟨p,hp⟩:∃ p,nn=p + 1:=⟨nn - 1,by omega⟩
  have rm:((a:Int) + (b:Int)) / 2=(mid:Int):=by omega
  have rn:(mid:Int) + (m:Int)=(nn:Int):=by omega
  have rp:(nn:Int) - 1=(p:Int):=by omega
  have bmid:mid < b:=by omega
  have bmid2:a < mid:=by omega
  have bnn:nn≤2000000:=by omega
  have HW:=Lib.hid (show ∃ s0 r0:Nat,((mid < m∧s0 + b=nn∧r0=mid)∨(m≤mid∧s0=a∧r0=m))∧a≤s0∧s0≤r0∧r0≤m∧r0≤mid by
    by_cases h:mid < m
    · exact ⟨nn - b,mid,.inl ⟨h,by omega,rfl⟩,by omega,by omega,by omega,by omega⟩
    · exact ⟨a,m,.inr ⟨by omega,rfl,rfl⟩,by omega,by omega,by omega,by omega⟩)
  have HP:=Lib.hid hp
  have HMID:=Lib.hid hmid
  have HNN:=Lib.hid hnn
  clear hv hnn hp c2
  obtain ⟨s0,r0,hw,h1,h2,h3,h4⟩:=HW.out
  have HW2:=Lib.hid hw
  clear HW
  rcases hw with ⟨hg,hs0,hr0⟩ | ⟨hg,hs0,hr0⟩
  · exfalso;omega
  · clear hmid hz
    have hgz:¬ (mid:Int) < (m:Int):=by omega
    have hr1:=hr0.symm
    have hs1:=hs0.symm
    clear hs0 hr0
    subst hr1 hs1
    have hsr:a≤m:=h2
    go_enter Fsym,Tryz.ntmps260
    go_wp2_with fail
    go_loopg [20,21] (m - a) (fun kx s20 s21 wr=>∃ st r:Nat,s20=.int .i64 st∧s21=.int .i64 r∧a≤st∧st≤r∧r≤m∧r - st≤kx∧Hid ((st=a∨ltOf cf d[p - (st - 1)]! d[st - 1]! = false)∧(r=m∨ltOf cf d[p - r]! d[r]! = true))∧Hid (SWK enc k w0 blk off d wr))
    case atStart=>exact ⟨a,m,rfl,rfl,Nat.le_refl _,hsr,Nat.le_refl _,Nat.le_refl _,Lib.hid ⟨.inl rfl,.inl rfl⟩,HS0⟩
    case round =>
      clear HS0
      obtain ⟨st,r,rfl,rfl,hst,hstr,hrr,hkx,HI,HS⟩:=hrel
      by_cases hlt:st < r
      · obtain ⟨c,hc⟩:∃ c,c=(st + r) / 2:=⟨_,rfl⟩
        have rc:((st:Int) + (r:Int)) / 2=(c:Int):=by omega
        have hltz:(st:Int) < (r:Int):=by omega
        have h5:st≤c:=by omega
        have h6:c < r:=by omega
        obtain ⟨q,hq⟩:∃ q,q=p - c:=⟨_,rfl⟩
        have hqs:q < sz∧q + c=p:=by have:=HP.out;have:=HMID.out;have:=HNN.out;have:=HW2.out;omega
        have rq:IntKind.i64.wrap ((p:Int) - (c:Int))=(q:Int):=by rw [IntKind.wrap_i64];omega
        have pq:(0:Int)≤(q:Int):=by omega
        have bq:(q:Int) < (sz:Int):=by omega
        have pc:(0:Int)≤(c:Int):=by omega
        have bc:(c:Int) < (sz:Int):=by omega
        have HQ:=Lib.hid hq
        clear hc hq
        cases hl:ltOf cf d[q]! d[c]! with
        | false =>
          have HL:=Lib.hid hl
          clear hl
          obtain ⟨x,hx⟩:∃ x,x=d[q]! := ⟨_,rfl⟩
          obtain ⟨y,hy⟩:∃ y,y=d[c]! := ⟨_,rfl⟩
          have la:=HS.out.ld R (HZ.out.trans HZ0.out.symm) P (q) (by rw [HZ.out];omega)
          have lb:=HS.out.ld R (HZ.out.trans HZ0.out.symm) P (c) (by rw [HZ.out];omega)
          rw [← hx] at la
          rw [← hy] at lb
          have hc:=HS.out.cmp HC.out HZ.out x y
          have hv:¬ cf x y < 0:=by rw [hx,hy];exact of_decide_eq_false HL.out
          have hd:decide (cf x y < 0)=false:=decide_eq_false hv
          clear hx hy
          go_wp2_with fail
          go_quiet_grown (first | (go_at_fn g;refine Calls.grown_of (hc _ _)))
          have S2:=Lib.hid (HS.out.grown nq osq)
          clear la lb hc hv hd
          generalize grow (wr.drewN nq) osq=w2 at S2 ⊢
          clear nq osq
          go_wp2_with fail
          go_roundg (r - (c + 1))
          case measure=>omega
          case rel=>exact ⟨c + 1,r,by go_num,rfl,by omega,by omega,hrr,Nat.le_refl _,Lib.hid ⟨.inr (by rw [Nat.add_sub_cancel,← HQ.out];exact HL.out),HI.out.2⟩,S2⟩
        | true =>
          have HL:=Lib.hid hl
          clear hl
          obtain ⟨x,hx⟩:∃ x,x=d[q]! := ⟨_,rfl⟩
          obtain ⟨y,hy⟩:∃ y,y=d[c]! := ⟨_,rfl⟩
          have la:=HS.out.ld R (HZ.out.trans HZ0.out.symm) P (q) (by rw [HZ.out];omega)
          have lb:=HS.out.ld R (HZ.out.trans HZ0.out.symm) P (c) (by rw [HZ.out];omega)
          rw [← hx] at la
          rw [← hy] at lb
          have hc:=HS.out.cmp HC.out HZ.out x y
          have hv:cf x y < 0:=by rw [hx,hy];exact of_decide_eq_true HL.out
          have hd:decide (cf x y < 0)=true:=decide_eq_true hv
          clear hx hy
          go_wp2_with fail
          go_quiet_grown (first | (go_at_fn g;refine Calls.grown_of (hc _ _)))
          have S2:=Lib.hid (HS.out.grown nq osq)
          clear la lb hc hv hd
          generalize grow (wr.drewN nq) osq=w2 at S2 ⊢
          clear nq osq
          go_wp2_with fail
          go_roundg (c - st)
          case measure=>omega
          case rel=>exact ⟨st,c,rfl,rfl,hst,h5,by omega,Nat.le_refl _,Lib.hid ⟨HI.out.1,.inr (by rw [← HQ.out];exact HL.out)⟩,S2⟩
      · obtain rfl:st=r:=by omega
        have hltz:¬ (st:Int) < (st:Int):=by omega
        obtain ⟨e,he⟩:∃ e,e=nn - st:=⟨_,rfl⟩
        have hes:e + st=nn∧m≤e∧e≤b∧st≤m∧a≤st∧st≤mid∧mid≤e:=by have:=HP.out;have:=HMID.out;have:=HNN.out;have:=HW2.out;omega
        obtain ⟨g1,g2,g3,g4,g5,g6,g7⟩:=hes
        have re:(nn:Int) - (st:Int)=(e:Int):=by omega
        have TH:=Lib.hid (fun (d1:Array α) (hI:Idx d d1 (rotI st m e))=>(show TurnOut (ltOf cf) a st mid e b d d1 by
          have:=turn_halves HO.out hI g5 g4 g2 g3 (by rw [HZ.out];exact hb) HA.out HB.out
            (by
              have hp:=HP.out;have hn:=HNN.out;have hm:=HMID.out;have hw:=HW2.out
              rcases HI.out.1 with h | h
              · rcases hw with ⟨_,w2,_⟩ | ⟨_,w2,_⟩
                · exact .inr (.inl (by omega))
                · exact .inl (by omega)
              · by_cases hz:st=a
                · exact .inl hz
                · rw [show p - (st - 1)=e by omega] at h
                  exact .inr (.inr h))
            (by
              have hp:=HP.out;have hn:=HNN.out;have hm:=HMID.out;have hw:=HW2.out
              rcases HI.out.2 with h | h
              · rcases hw with ⟨_,_,w2⟩ | ⟨_,_,w2⟩
                · exact .inr (.inl (by omega))
                · exact .inl (by omega)
              · by_cases hz:e=m
                · exact .inr (.inl hz)
                · rw [show p - st=e - 1 by omega] at h
                  exact .inr (.inr h))
          rw [show st + (e - m)=mid by have:=HNN.out;omega] at this
          exact this))
        clear HI he
        obtain ⟨bb,hbb⟩:∃ bb:Bool,bb=decide (st < m∧m < e):=⟨_,rfl⟩
        have HBB:=Lib.hid hbb
        clear hbb
        go_upto_region 39 with fail
        go_cut [185] (fun sb wc=>sb=.bool bb∧Hid (SWK enc k w0 blk off d wc))
        case first=>as_aux_lemma =>
          rcases (show (st < m∧m < e)∨(st < m∧e≤m)∨m≤st from by omega) with ⟨k1,k2⟩ | ⟨k1,k2⟩ | k1
          · first
            | (exfalso;omega)
            | (have z1:(st:Int) < (m:Int):=by omega
               have z2:(m:Int) < (e:Int):=by omega
               have HE:=Lib.hid (show bb=true by rw [HBB.out];exact decide_eq_true ⟨k1,k2⟩)
               go_wp2_with fail
               go_meet
               case rel=>exact ⟨by rw [HE.out],HS⟩)
          · first
            | (exfalso;omega)
            | (have z1:(st:Int) < (m:Int):=by omega
               have z2:¬ (m:Int) < (e:Int):=by omega
               have HE:=Lib.hid (show bb=false by rw [HBB.out];exact decide_eq_false (by omega))
               go_wp2_with fail
               go_meet
               case rel=>exact ⟨by rw [HE.out],HS⟩)
          · first
            | (exfalso;omega)
            | (have z1:¬ (st:Int) < (m:Int):=by omega
               have HE:=Lib.hid (show bb=false by rw [HBB.out];exact decide_eq_false (by omega))
               go_wp2_with fail
               go_meet
               case rel=>exact ⟨by rw [HE.out],HS⟩)
        case rest=>as_aux_lemma =>
          clear HS
          obtain ⟨rfl,HS⟩:=hcut
          go_upto_if 185 with fail
          go_cut [24] (fun s24 wc=>s24=.int .i64 e∧∃ d1,Hid (TurnOut (ltOf cf) a st mid e b d d1∧d1.size=sz)∧Hid (SWK enc k w0 blk off d1 wc))
          case first=>as_aux_lemma =>
            cases bb with
            | true =>
              have kk:=of_decide_eq_true HBB.out.symm
              obtain ⟨k1,k2⟩:=kk
              have D:=Lib.hid (ROT.out st m e d wc HS.out HZ.out k1 k2 (by omega))
              have erot:=HERO.out
              go_wp2_with fail
              go_at_fn 262;refine D.out.mono ?_;rintro e' w' ⟨rfl,d',hd',hw'⟩
              have HD:=Lib.hid hd'
              have HWW:=Lib.hid hw'
              clear hd' hw'
              go_wp2_with fail
              go_meet
              case rel=>exact ⟨rfl,d',Lib.hid ⟨TH.out d' HD.out,HD.out.size_eq HZ.out⟩,HWW⟩
            | false =>
              have kk:=of_decide_eq_false HBB.out.symm
              have HT:=Lib.hid (TH.out d (idx_rot_none d g4 g2 (by omega)))
              clear kk
              go_wp2_with fail
              go_meet
              case rel=>exact ⟨rfl,d,Lib.hid ⟨HT.out,HZ.out⟩,HS⟩
          case rest=>as_aux_lemma =>
            clear HS TH HBB
            obtain ⟨rfl,d1,HT,HS1⟩:=hcut
            obtain ⟨bb,hbb⟩:∃ bb:Bool,bb=decide (a < st∧st < mid):=⟨_,rfl⟩
            have HBB:=Lib.hid hbb
            clear hbb
            go_upto_region 41 with fail
            go_cut [199] (fun sb wc=>sb=.bool bb∧Hid (SWK enc k w0 blk off d1 wc))
            case first=>as_aux_lemma =>
              rcases (show (a < st∧st < mid)∨(a < st∧mid≤st)∨st≤a from by omega) with ⟨k1,k2⟩ | ⟨k1,k2⟩ | k1
              · first
                | (exfalso;omega)
                | (have z1:(a:Int) < (st:Int):=by omega
                   have z2:(st:Int) < (mid:Int):=by omega
                   have HE:=Lib.hid (show bb=true by rw [HBB.out];exact decide_eq_true ⟨k1,k2⟩)
                   go_wp2_with fail
                   go_meet
                   case rel=>exact ⟨by rw [HE.out],HS1⟩)
              · first
                | (exfalso;omega)
                | (have z1:(a:Int) < (st:Int):=by omega
                   have z2:¬ (st:Int) < (mid:Int):=by omega
                   have HE:=Lib.hid (show bb=false by rw [HBB.out];exact decide_eq_false (by omega))
                   go_wp2_with fail
                   go_meet
                   case rel=>exact ⟨by rw [HE.out],HS1⟩)
              · first
                | (exfalso;omega)
                | (have z1:¬ (a:Int) < (st:Int):=by omega
                   have HE:=Lib.hid (show bb=false by rw [HBB.out];exact decide_eq_false (by omega))
                   go_wp2_with fail
                   go_meet
                   case rel=>exact ⟨by rw [HE.out],HS1⟩)
            case rest=>as_aux_lemma =>
              clear HS1
              obtain ⟨rfl,HS1⟩:=hcut
              go_upto_if 199 with fail
              go_cut [24] (fun s24 wc=>s24=.int .i64 e∧∃ d2,Hid (Merged (ltOf cf) a mid d1 d2)∧Hid (SWK enc k w0 blk off d2 wc))
              case first=>as_aux_lemma =>
                cases bb with
                | true =>
                  have kk:=of_decide_eq_true HBB.out.symm
                  obtain ⟨k1,k2⟩:=kk
                  have D:=Lib.hid (IH.out a st mid d1 wc (by omega) k1 k2 (by omega) HT.out.2 HS1.out HT.out.1.2.1 HT.out.1.2.2.1)
                  have esym:=HESY.out
                  go_wp2_with fail
                  go_at_fn 260;refine D.out.mono ?_;rintro e' w' ⟨rfl,d',hd',hw'⟩
                  have HD:=Lib.hid hd'
                  have HWW:=Lib.hid hw'
                  clear hd' hw'
                  go_wp2_with fail
                  go_meet
                  case rel=>exact ⟨rfl,d',HD,HWW⟩
                | false =>
                  have kk:=of_decide_eq_false HBB.out.symm
                  have HM:=Lib.hid (merged_none HT.out.1.2.1 HT.out.1.2.2.1 (by omega))
                  clear kk
                  go_wp2_with fail
                  go_meet
                  case rel=>exact ⟨rfl,d1,HM,HS1⟩
              case rest=>as_aux_lemma =>
                clear HS1 HBB
                obtain ⟨rfl,d2,HM2,HS2⟩:=hcut
                have HE2:=Lib.hid (show d2.size=sz∧SortedIn (ltOf cf) mid e d2∧SortedIn (ltOf cf) e b d2 from ⟨HM2.out.size_eq HT.out.2,HM2.out.1.sorted HT.out.1.2.2.2.1 (.inr (Nat.le_refl _)),HM2.out.1.sorted HT.out.1.2.2.2.2.1 (.inr (by omega))⟩)
                have HF:=Lib.hid (fun (d3:Array α) (h:Merged (ltOf cf) mid b d2 d3)=>merged_halves HT.out.1.1 (by omega) (by omega) HT.out.1.2.2.2.2.2 HM2.out h)
                obtain ⟨bb,hbb⟩:∃ bb:Bool,bb=decide (mid < e∧e < b):=⟨_,rfl⟩
                have HBB:=Lib.hid hbb
                clear hbb
                go_upto_region 43 with fail
                go_cut [213] (fun sb wc=>sb=.bool bb∧Hid (SWK enc k w0 blk off d2 wc))
                case first=>as_aux_lemma =>
                  rcases (show (mid < e∧e < b)∨(mid < e∧b≤e)∨e≤mid from by omega) with ⟨k1,k2⟩ | ⟨k1,k2⟩ | k1
                  · first
                    | (exfalso;omega)
                    | (have z1:(mid:Int) < (e:Int):=by omega
                       have z2:(e:Int) < (b:Int):=by omega
                       have HE:=Lib.hid (show bb=true by rw [HBB.out];exact decide_eq_true ⟨k1,k2⟩)
                       go_wp2_with fail
                       go_meet
                       case rel=>exact ⟨by rw [HE.out],HS2⟩)
                  · first
                    | (exfalso;omega)
                    | (have z1:(mid:Int) < (e:Int):=by omega
                       have z2:¬ (e:Int) < (b:Int):=by omega
                       have HE:=Lib.hid (show bb=false by rw [HBB.out];exact decide_eq_false (by omega))
                       go_wp2_with fail
                       go_meet
                       case rel=>exact ⟨by rw [HE.out],HS2⟩)
                  · first
                    | (exfalso;omega)
                    | (have z1:¬ (mid:Int) < (e:Int):=by omega
                       have HE:=Lib.hid (show bb=false by rw [HBB.out];exact decide_eq_false (by omega))
                       go_wp2_with fail
                       go_meet
                       case rel=>exact ⟨by rw [HE.out],HS2⟩)
                case rest=>as_aux_lemma =>
                  clear HS2
                  obtain ⟨rfl,HS2⟩:=hcut
                  cases bb with
                  | true =>
                    have kk:=of_decide_eq_true HBB.out.symm
                    obtain ⟨k1,k2⟩:=kk
                    have D:=Lib.hid (IH.out mid e b d2 wc (by omega) k1 k2 hb HE2.out.1 HS2.out HE2.out.2.1 HE2.out.2.2)
                    have esym:=HESY.out
                    go_wp2_with fail
                    go_at_fn 260;refine D.out.mono ?_;rintro e' w' ⟨rfl,d',hd',hw'⟩
                    have HD:=Lib.hid hd'
                    have HWW:=Lib.hid hw'
                    clear hd' hw'
                    go_wp2_with fail
                    go_end0
                    exact ⟨rfl,d',HF.out d' HD.out,HWW.out⟩
                  | false =>
                    have kk:=of_decide_eq_false HBB.out.symm
                    have HM:=Lib.hid (HF.out d2 (merged_none HE2.out.2.1 HE2.out.2.2 (by omega)))
                    clear kk
                    go_wp2_with fail
                    go_end0
                    exact ⟨rfl,d2,HM.out,HS2.out⟩
end Go.Proofs.YtjcleokfpohpdaaGreatDoor
