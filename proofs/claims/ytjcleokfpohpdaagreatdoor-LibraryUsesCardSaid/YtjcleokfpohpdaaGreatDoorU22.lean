/-
  Two parts of a row of binds exchanged, and two turned about, by the library's own text.
  Two parts of a row turned about, by the library's own text.
  A row sorted by insertion, by the library's own text.
  Two sorted parts of a row merged in place, by the library's own text.
-/
import Derived.Test.YtjcleokfpohpdaaGreatDoorU19
import Derived.Deep.DeepCutAuto
namespace Go.Proofs.YtjcleokfpohpdaaGreatDoor
open Go.RowKit Go.Shelf Go.Lib Go.Sort
variable {α:Type} [Inhabited α] {P:Program} {k:Nat} {enc:α→List Value}
set_option maxRecDepth 100000 in
set_option maxHeartbeats 4000000 in
theorem swr_gen (T:TyB P k) (F:P.funcs[(263:Nat)]? = some Tryz.f263) (fv:Value) (blk off cap a b n sz:Nat) (d d0:Array α) (w0 w:World) (R:RowK enc k w0 blk off d0) (S:SWK enc k w0 blk off d w) (hs:d.size=sz) (h0:d0.size=sz) (hab:a + n≤b) (hb:b + n≤sz) (hsz:sz≤1000000) :
    Calls P 263 #[.slice (some ⟨blk,off,none⟩) sz cap,.int .i64 a,.int .i64 b,.int .i64 n,fv] w fun e w' =>
      e=.returned (.tuple #[])∧∃ d',Idx d d' (swrI a b n)∧SWK enc k w0 blk off d' w':=by
  have HS0:=Lib.hid S
  have HZ:=Lib.hid hs
  have HZ0:=Lib.hid h0
  have HI0:=Lib.hid (show Idx d d (swrI a b 0) from idx_refl d fun x _=>by unfold swrI;rw [if_neg (by omega),if_neg (by omega)])
  clear S hs h0
  have mixed:=T.mixed;have t0:=T.t0;have a0:=T.a0;have z0:=T.z0;have v0:=T.v0;have t3:=T.t3;have a3:=T.a3;have z3:=T.z3;have v3:=T.v3;have t4:=T.t4;have a4:=T.a4;have z4:=T.z4;have v4:=T.v4;have t22:=T.t22;have a22:=T.a22;have z22:=T.z22;have v22:=T.v22;have t53:=T.t53;have a53:=T.a53;have z53:=T.z53;have v53:=T.v53;have aE:=T.aE;have zE:=T.zE
  have u22:=run_underlying T.t22
  go_enter F,Tryz.ntmps263
  go_wp2
  go_loopg [10] n (fun kx s10 wr=>∃ (i:Nat) (dk:Array α),s10=.int .i64 i∧i≤n∧n - i≤kx∧Hid (Idx d dk (swrI a b i))∧Hid (SWK enc k w0 blk off dk wr))
  case atStart=>exact ⟨0,d,rfl,Nat.zero_le _,by omega,HI0,HS0⟩
  case round =>
    clear HS0
    obtain ⟨i,dk,rfl,hi,hkx,HI,HS⟩:=hrel
    by_cases hlt:i < n
    · have hdk:dk.size=sz:=HI.out.1.trans HZ.out
      obtain ⟨p,hp⟩:∃ p,p=a + i:=⟨_,rfl⟩
      obtain ⟨q,hq⟩:∃ q,q=b + i:=⟨_,rfl⟩
      have hltz:(i:Int) < (n:Int):=by omega
      have rp:IntKind.i64.wrap ((a:Int) + (i:Int))=(p:Int):=by rw [IntKind.wrap_i64];omega
      have rq:IntKind.i64.wrap ((b:Int) + (i:Int))=(q:Int):=by rw [IntKind.wrap_i64];omega
      have pp:(0:Int)≤(p:Int):=by omega
      have pq:(0:Int)≤(q:Int):=by omega
      have bp:(p:Int) < (sz:Int):=by omega
      have bq:(q:Int) < (sz:Int):=by omega
      have hpd:p < dk.size:=by omega
      have hqd:q < dk.size:=by omega
      have hd0:dk.size=d0.size:=hdk.trans HZ0.out.symm
      have HN:=Lib.hid (show Idx d (swp dk p q) (swrI a b (i + 1)) by rw [hp,hq];exact swr_step HI.out hlt hab (by rw [HZ.out];exact hb))
      have S2:=Lib.hid (HS.out.swapped R p q hpd hqd)
      have la:=HS.out.ld1 R hd0 P p hpd
      have lb:=HS.out.ld1 R hd0 P q hqd
      have sa:=HS.out.st1 R hd0 P p hpd dk[q]!
      have sb:=HS.out.st2 R hd0 P p q hpd hqd dk[q]! dk[p]!
      have na:(enc dk[p]!).length=k:=R.hk _
      have nb:(enc dk[q]!).length=k:=R.hk _
      generalize enc dk[p]! = cP at S2 la sb na
      generalize enc dk[q]! = cQ at S2 lb sa sb nb
      clear HS HI hdk hpd hqd hd0 hp hq
      go_wp2_with fail
      go_big_region_o
      clear la lb sa sb
      generalize (wr.drew.setCells blk (off + p * k) cQ).setCells blk (off + q * k) cP=w2 at S2 ⊢
      go_wp2
      go_roundg (n - (i + 1))
      case measure=>omega
      case rel=>exact ⟨i + 1,swp dk p q,by go_num,by omega,Nat.le_refl _,HN,S2⟩
    · obtain rfl:i=n:=by omega
      go_wp2
      go_end0
      exact ⟨rfl,dk,HI.out,HS.out⟩
end Go.Proofs.YtjcleokfpohpdaaGreatDoor
namespace Go.Proofs.YtjcleokfpohpdaaGreatDoor
open Go.RowKit Go.Shelf Go.Lib Go.Sort
variable {α:Type} [Inhabited α] {P:Program} {k:Nat} {enc:α→List Value}
set_option maxRecDepth 100000 in
set_option maxHeartbeats 4000000 in
theorem rot_gen (T:TyB P k) (Frot:P.funcs[(262:Nat)]? = some Tryz.f262) (Fswr:P.funcs[(263:Nat)]? = some Tryz.f263) (fv:Value) (blk off cap a m b sz:Nat) (d d0:Array α) (w0 w:World) (R:RowK enc k w0 blk off d0) (S:SWK enc k w0 blk off d w) (hs:d.size=sz) (h0:d0.size=sz) (ham:a < m) (hmb:m < b) (hb:b≤sz) (hsz:sz≤1000000) :
    Calls P 262 #[.slice (some ⟨blk,off,none⟩) sz cap,.int .i64 a,.int .i64 m,.int .i64 b,fv] w fun e w' =>
      e=.returned (.tuple #[])∧∃ d',Idx d d' (rotI a m b)∧SWK enc k w0 blk off d' w':=by
  have C:=Lib.hid (fun (x y n:Nat) (dk:Array α) (W:World) (hS:SWK enc k w0 blk off dk W) (hk:dk.size=sz) (h1:x + n≤y) (h2:y + n≤sz)=>swr_gen T Fswr fv blk off cap x y n sz dk d0 w0 W R hS hk h0 h1 h2 hsz)
  have HS0:=Lib.hid S
  have HZ:=Lib.hid hs
  clear S hs h0
  have mixed:=T.mixed;have t0:=T.t0;have a0:=T.a0;have z0:=T.z0;have v0:=T.v0;have t3:=T.t3;have a3:=T.a3;have z3:=T.z3;have v3:=T.v3;have t4:=T.t4;have a4:=T.a4;have z4:=T.z4;have v4:=T.v4;have t77:=T.t77;have a77:=T.a77;have z77:=T.z77;have v77:=T.v77;have t22:=T.t22;have a22:=T.a22;have z22:=T.z22;have v22:=T.v22;have t53:=T.t53;have a53:=T.a53;have z53:=T.z53;have v53:=T.v53;have aE:=T.aE;have zE:=T.zE
  have u0:=run_underlying T.t0;have u3:=run_underlying T.t3;have u4:=run_underlying T.t4;have u22:=run_underlying T.t22;have u53:=run_underlying T.t53;have u77:=run_underlying T.t77
  have hi0:(m:Int) - (a:Int)=((m - a:Nat):Int):=by omega
  have hj0:(b:Int) - (m:Int)=((b - m:Nat):Int):=by omega
  have HI0:=Lib.hid hi0
  have HJ0:=Lib.hid hj0
  clear hi0 hj0
  have eswr:∀ args w,(callFunc 263 args).run P w=.ok (.enter 263 args) w:=enters_of Fswr (by kernel_rfl) rfl
  go_enter Frot,Tryz.ntmps262
  go_wp2_with fail
  go_loopg [10,11] b (fun kx s10 s11 wr=>∃ (i j:Nat) (dk:Array α),s10=.int .i64 i∧s11=.int .i64 j∧0 < i∧0 < j∧i≤m∧a≤m - i∧m + j≤b∧i + j≤kx∧Hid (dk.size=sz∧∀ x,x < sz→dk[rotI (m - i) m (m + j) x]! = d[rotI a m b x]!)∧Hid (SWK enc k w0 blk off dk wr))
  case atStart=>exact ⟨m - a,b - m,d,by rw [HI0.out],by rw [HJ0.out],by omega,by omega,by omega,by omega,by omega,by omega,Lib.hid ⟨HZ.out,fun x _=>by rw [show m - (m - a)=a from by omega,show m + (b - m)=b from by omega]⟩,HS0⟩
  case round =>
    clear HS0 HI0 HJ0
    obtain ⟨i,j,dk,rfl,rfl,hi,hj,him,hai,hjb,hkx,HI,HS⟩:=hrel
    rcases (show i=j∨j < i∨i < j from by omega) with rfl | hlt | hlt
    · have e1:(m:Int) - (i:Int)=((m - i:Nat):Int):=by omega
      have HF:=Lib.hid (fun (d':Array α) (h:Idx dk d' (swrI (m - i) m i))=>(show Idx d d' (rotI a m b) from ⟨h.1.trans (HI.out.1.trans HZ.out.symm),fun x hx=>by
        rw [HZ.out] at hx
        rw [h.2 x (by rw [HI.out.1];exact hx),rot_even him,HI.out.2 x hx]⟩))
      have D:=Lib.hid (C.out (m - i) m i dk wr HS.out HI.out.1 (by omega) (by omega))
      go_wp2_with fail
      go_at_fn 263;refine D.out.mono ?_;rintro e w' ⟨rfl,d',hd',hw'⟩
      have HD:=Lib.hid hd'
      have HW:=Lib.hid hw'
      clear hd' hw' e1
      go_wp2_with fail
      go_end0
      exact ⟨rfl,d',HF.out d' HD.out,HW.out⟩
    · have e1:(m:Int) - (i:Int)=((m - i:Nat):Int):=by omega
      have hne:¬ (i:Int)=(j:Int):=by omega
      have hltz:(j:Int) < (i:Int):=by omega
      have D:=Lib.hid (C.out (m - i) m j dk wr HS.out HI.out.1 (by omega) (by omega))
      have HF:=Lib.hid (fun (d':Array α) (h:Idx dk d' (swrI (m - i) m j))=>(show d'.size=sz∧∀ x,x < sz→d'[rotI (m - (i - j)) m (m + j) x]! = d[rotI a m b x]! from ⟨h.1.trans HI.out.1,fun x hx=>by
        rw [h.2 _ (by rw [HI.out.1];exact rotI_lt (by omega) (by omega) hx),rot_more hlt him hj,HI.out.2 x hx]⟩))
      have e2:(i:Int) - (j:Int)=((i - j:Nat):Int):=by omega
      have HE2:=Lib.hid e2
      clear e2
      go_wp2_with fail
      go_at_fn 263;refine D.out.mono ?_;rintro e w' ⟨rfl,d',hd',hw'⟩
      have HD:=Lib.hid hd'
      have HW:=Lib.hid hw'
      clear hd' hw' e1
      go_wp2_with fail
      go_roundg (i - j + j)
      case measure=>omega
      case rel=>exact ⟨i - j,j,d',by rw [HE2.out],rfl,by omega,hj,by omega,by omega,hjb,Nat.le_refl _,Lib.hid (HF.out d' HD.out),HW⟩
    · have e1:(m:Int) - (i:Int)=((m - i:Nat):Int):=by omega
      have hne:¬ (i:Int)=(j:Int):=by omega
      have hltz:¬ (j:Int) < (i:Int):=by omega
      have e3:(m:Int) + (j:Int) - (i:Int)=((m + j - i:Nat):Int):=by omega
      have D:=Lib.hid (C.out (m - i) (m + j - i) i dk wr HS.out HI.out.1 (by omega) (by omega))
      have HF:=Lib.hid (fun (d':Array α) (h:Idx dk d' (swrI (m - i) (m + j - i) i))=>(show d'.size=sz∧∀ x,x < sz→d'[rotI (m - i) m (m + (j - i)) x]! = d[rotI a m b x]! from ⟨h.1.trans HI.out.1,fun x hx=>by
        rw [h.2 _ (by rw [HI.out.1];exact rotI_lt (by omega) (by omega) hx),rot_less hlt him hi,HI.out.2 x hx]⟩))
      have e2:(j:Int) - (i:Int)=((j - i:Nat):Int):=by omega
      have HE2:=Lib.hid e2
      clear e2
      go_wp2_with fail
      go_at_fn 263;refine D.out.mono ?_;rintro e w' ⟨rfl,d',hd',hw'⟩
      have HD:=Lib.hid hd'
      have HW:=Lib.hid hw'
      clear hd' hw' e1 e3
      go_wp2_with fail
      go_roundg (i + (j - i))
      case measure=>omega
      case rel=>exact ⟨i,j - i,d',rfl,by rw [HE2.out],hi,by omega,him,hai,by omega,Nat.le_refl _,Lib.hid (HF.out d' HD.out),HW⟩
end Go.Proofs.YtjcleokfpohpdaaGreatDoor
namespace Go.Proofs.YtjcleokfpohpdaaGreatDoor
open Go.RowKit Go.Shelf Go.Lib Go.Sort
variable {α:Type} [Inhabited α] {P:Program} {k:Nat} {enc:α→List Value}
set_option maxRecDepth 100000 in
set_option maxHeartbeats 4000000 in
theorem ins_gen (T:TyB P k) (Fins:P.funcs[(259:Nat)]? = some Tryz.f259) (cf:α→α→Int) (g:Nat) (eg:∀ args w,(callFunc g args).run P w=.ok (.enter g args) w) (blk off cap a b sz:Nat) (d d0:Array α) (w0 w:World) (hcmp:CmpLays P g #[] enc k cf blk off sz w0) (R:RowK enc k w0 blk off d0) (S:SWK enc k w0 blk off d w) (hs:d.size=sz) (h0:d0.size=sz) (hab:a≤b) (hb:b≤sz) (hsz:sz≤1000000) :
    Calls P 259 #[.slice (some ⟨blk,off,none⟩) sz cap,.int .i64 a,.int .i64 b,.func (.func g) #[] #[]] w fun e w' =>
      e=.returned (.tuple #[])∧SWK enc k w0 blk off (Sort.insertionSort (ltOf cf) d a b) w':=by
  have HC:=Lib.hid hcmp
  have HS0:=Lib.hid S
  have HZ:=Lib.hid hs
  have HZ0:=Lib.hid h0
  clear S hs h0 hcmp
  have mixed:=T.mixed;have t0:=T.t0;have a0:=T.a0;have z0:=T.z0;have v0:=T.v0;have t3:=T.t3;have a3:=T.a3;have z3:=T.z3;have v3:=T.v3;have t4:=T.t4;have a4:=T.a4;have z4:=T.z4;have v4:=T.v4;have t77:=T.t77;have a77:=T.a77;have z77:=T.z77;have v77:=T.v77;have t22:=T.t22;have a22:=T.a22;have z22:=T.z22;have v22:=T.v22;have t53:=T.t53;have a53:=T.a53;have z53:=T.z53;have v53:=T.v53;have aE:=T.aE;have zE:=T.zE
  have u0:=run_underlying T.t0;have u3:=run_underlying T.t3;have u4:=run_underlying T.t4;have u22:=run_underlying T.t22;have u53:=run_underlying T.t53;have u77:=run_underlying T.t77
  go_enter Fins,Tryz.ntmps259
  go_wp2_with fail
  go_loopg [8] (b - a) (fun g1 vi wr=>∃ (i:Nat) (dk:Array α),vi=.int .i64 i∧a < i∧i≤b + 1∧b + 1 - i≤g1 + 1∧Hid (dk.size=sz∧insOuter (ltOf cf) a b i dk=insOuter (ltOf cf) a b (a + 1) d)∧Hid (SWK enc k w0 blk off dk wr))
  case atStart=>exact ⟨a + 1,d,by go_num,by omega,by omega,by omega,Lib.hid ⟨HZ.out,rfl⟩,HS0⟩
  case round =>
    clear HS0
    obtain ⟨i,dk,rfl,hai,hib,hg1,HO,HS⟩:=hrel
    by_cases hlt:i < b
    · have hltz:(i:Int) < (b:Int):=by omega
      go_wp2_with fail
      go_loopg [9] i (fun g2 vj wr2=>∃ (j:Nat) (dj:Array α),vj=.int .i64 j∧a≤j∧j≤i∧j≤g2∧Hid (dj.size=sz∧insInner (ltOf cf) a j dj=insInner (ltOf cf) a i dk)∧Hid (SWK enc k w0 blk off dj wr2))
      case atStart=>exact ⟨i,dk,rfl,by omega,Nat.le_refl _,Nat.le_refl _,Lib.hid ⟨HO.out.1,rfl⟩,HS⟩
      case round =>
        clear HS
        obtain ⟨j,dj,rfl,haj,hji,hg2,HI,HSJ⟩:=hrel
        have OUT:=Lib.hid (fun (hs:j≤a∨ltOf cf dj[j]! dj[j - 1]! = false)=>(show dj.size=sz∧insOuter (ltOf cf) a b (i + 1) dj=insOuter (ltOf cf) a b (a + 1) d from ⟨HI.out.1,by
          rw [← HO.out.2,insOuter_go _ _ _ _ _ hlt,← HI.out.2,insInner_stop _ _ _ _ hs]⟩))
        by_cases hja:a < j
        · have hjaz:(a:Int) < (j:Int):=by omega
          obtain ⟨jp,rfl⟩:∃ jp,j=jp + 1:=⟨j - 1,by omega⟩
          have hwp:IntKind.i64.wrap (jp:Int)=(jp:Int):=by rw [IntKind.wrap_i64];omega
          have jz:(jp:Int) + 1 < (sz:Int):=by omega
          have jz1:(jp:Int) < (sz:Int):=by omega
          have hjaz':(a:Int) < (jp:Int) + 1:=by omega
          have p0:(0:Int)≤(jp:Int) + 1:=by omega
          have e0:((jp:Int) + 1).toNat=jp + 1:=by omega
          cases hl:ltOf cf dj[jp + 1]! dj[jp]! with
          | true =>
            have HL:=Lib.hid hl
            clear hl
            obtain ⟨x,hx⟩:∃ x,x=dj[jp + 1]! := ⟨_,rfl⟩
            obtain ⟨y,hy⟩:∃ y,y=dj[jp]! := ⟨_,rfl⟩
            have la:=HSJ.out.ld R (HI.out.1.trans HZ0.out.symm) P (jp + 1) (by rw [HI.out.1];omega)
            have lb:=HSJ.out.ld R (HI.out.1.trans HZ0.out.symm) P (jp) (by rw [HI.out.1];omega)
            rw [← hx] at la
            rw [← hy] at lb
            have hc:=HSJ.out.cmp HC.out HI.out.1 x y
            have hv:cf x y < 0:=by rw [hx,hy];exact of_decide_eq_true HL.out
            have hd:decide (cf x y < 0)=true:=decide_eq_true hv
            clear hx hy
            go_wp2_with fail
            go_quiet_grown (first | (go_at_fn g;refine Calls.grown_of (hc _ _)))
            have S2:=Lib.hid (HSJ.out.grown nq osq)
            clear la lb hc hv hd
            generalize grow (wr.drewN nq) osq=w2 at S2 ⊢
            clear nq osq
            go_wp2_with fail
            have hpd:jp + 1 < dj.size:=by rw [HI.out.1];omega
            have hqd:jp < dj.size:=by rw [HI.out.1];omega
            have hd0:dj.size=d0.size:=HI.out.1.trans HZ0.out.symm
            have S3:=Lib.hid (S2.out.swapped R (jp + 1) (jp) hpd hqd)
            have la:=S2.out.ld1 R hd0 P (jp + 1) hpd
            have lb:=S2.out.ld1 R hd0 P (jp) hqd
            have sa:=S2.out.st1 R hd0 P (jp + 1) hpd dj[jp]!
            have sb:=S2.out.st2 R hd0 P (jp + 1) (jp) hpd hqd dj[jp]! dj[jp + 1]!
            have na:(enc dj[jp + 1]!).length=k:=R.hk _
            have nb:(enc dj[jp]!).length=k:=R.hk _
            generalize enc dj[jp + 1]! = cP at S3 la sb na
            generalize enc dj[jp]! = cQ at S3 lb sa sb nb
            clear hpd hqd hd0
            go_wp2_with fail
            go_big_region_o
            clear la lb sa sb na nb
            generalize (w2.drew.setCells blk (off + (jp + 1) * k) cQ).setCells blk (off + (jp) * k) cP=w3 at S3 ⊢
            go_wp2_with fail
            go_roundg jp
            case measure=>omega
            case rel =>
              refine ⟨jp,swp dj (jp + 1) jp,by first | rfl | go_num | (congr 1;omega),by omega,by omega,Nat.le_refl _,Lib.hid ⟨by rw [size_swp];exact HI.out.1,?_⟩,S3⟩
              have:=insInner_go (ltOf cf) a (jp + 1) dj hja (by simp only [Nat.add_sub_cancel];exact HL.out)
              simp only [Nat.add_sub_cancel] at this
              rw [← HI.out.2,this]
          | false =>
            have HL:=Lib.hid hl
            clear hl
            obtain ⟨x,hx⟩:∃ x,x=dj[jp + 1]! := ⟨_,rfl⟩
            obtain ⟨y,hy⟩:∃ y,y=dj[jp]! := ⟨_,rfl⟩
            have la:=HSJ.out.ld R (HI.out.1.trans HZ0.out.symm) P (jp + 1) (by rw [HI.out.1];omega)
            have lb:=HSJ.out.ld R (HI.out.1.trans HZ0.out.symm) P (jp) (by rw [HI.out.1];omega)
            rw [← hx] at la
            rw [← hy] at lb
            have hc:=HSJ.out.cmp HC.out HI.out.1 x y
            have hv:¬ cf x y < 0:=by rw [hx,hy];exact of_decide_eq_false HL.out
            have hd:decide (cf x y < 0)=false:=decide_eq_false hv
            clear hx hy
            go_wp2_with fail
            go_quiet_grown (first | (go_at_fn g;refine Calls.grown_of (hc _ _)))
            have S2:=Lib.hid (HSJ.out.grown nq osq)
            clear la lb hc hv hd
            generalize grow (wr.drewN nq) osq=w2 at S2 ⊢
            clear nq osq
            go_wp2_with fail
            go_roundg (b - (i + 1))
            case measure=>omega
            case rel=>exact ⟨i + 1,dj,by go_num,by omega,by omega,by omega,Lib.hid (OUT.out (Or.inr (by simp only [Nat.add_sub_cancel];exact HL.out))),S2⟩
        · have hjaz:decide ((j:Int) > (a:Int))=false:=decide_eq_false (by omega)
          have hjaz':¬ (a:Int) < (j:Int):=by omega
          have S2:=Lib.hid HSJ.out.drew
          clear HSJ
          go_wp2_with fail
          go_big_region_o
          generalize wr.drew=w2 at S2 ⊢
          go_wp2_with fail
          go_roundg (b - (i + 1))
          case measure=>omega
          case rel=>exact ⟨i + 1,dj,by go_num,by omega,by omega,by omega,Lib.hid (OUT.out (Or.inl (by omega))),S2⟩
    · have hltz:¬ (i:Int) < (b:Int):=by omega
      go_wp2_with fail
      go_end0
      exact ⟨rfl,by unfold Sort.insertionSort;rw [← HO.out.2,insOuter_stop _ _ _ _ _ hlt];exact HS.out⟩
end Go.Proofs.YtjcleokfpohpdaaGreatDoor
namespace Go.Proofs.YtjcleokfpohpdaaGreatDoor
open Go.RowKit Go.Shelf Go.Lib Go.Sort
variable {α:Type} [Inhabited α] {P:Program} {k:Nat} {enc:α→List Value}
def TurnOut (lt:α→α→Bool) (a st mid e b:Nat) (d d1:Array α):Prop :=
  Seg lt a b d d1∧SortedIn lt a st d1∧SortedIn lt st mid d1∧SortedIn lt mid e d1∧SortedIn lt e b d1∧∀ x y,a≤x→x < mid→mid≤y→y < b→lt d1[y]! d1[x]! = false
theorem Idx.size_eq {d d1:Array α} {f:Nat→Nat} {sz:Nat} (h:Idx d d1 f) (hs:d.size=sz):d1.size=sz:=h.1.trans hs
theorem Merged.size_eq {lt:α→α→Bool} {a b sz:Nat} {d d1:Array α} (h:Merged lt a b d d1) (hs:d.size=sz):d1.size=sz:=h.1.stab.1.trans hs
set_option maxRecDepth 100000 in
set_option maxHeartbeats 8000000 in
theorem sym_one (T:TyB P k) (Fsym:P.funcs[(260:Nat)]? = some Tryz.f260) (Frot:P.funcs[(262:Nat)]? = some Tryz.f262) (Fswr:P.funcs[(263:Nat)]? = some Tryz.f263) (cf:α→α→Int) (g:Nat) (eg:∀ args w,(callFunc g args).run P w=.ok (.enter g args) w) (hO:SWO (ltOf cf)) (blk off cap sz:Nat) (d0:Array α) (w0:World) (hcmp:CmpLays P g #[] enc k cf blk off sz w0) (R:RowK enc k w0 blk off d0) (h0:d0.size=sz) (hsz:sz≤1000000) (N:Nat) (ih:∀ (a m b:Nat) (d:Array α) (w:World),b - a≤N→a < m→m < b→b≤sz→d.size=sz→SWK enc k w0 blk off d w→SortedIn (ltOf cf) a m d→SortedIn (ltOf cf) m b d →
    Calls P 260 #[.slice (some ⟨blk,off,none⟩) sz cap,.int .i64 a,.int .i64 m,.int .i64 b,.func (.func g) #[] #[]] w fun e w' =>
      e=.returned (.tuple #[])∧∃ d',Merged (ltOf cf) a b d d'∧SWK enc k w0 blk off d' w') (a m b:Nat) (d:Array α) (w:World) (_:b - a≤N + 1) (ham:a < m) (hmb:m < b) (hb:b≤sz) (hs:d.size=sz) (S:SWK enc k w0 blk off d w) (hA:SortedIn (ltOf cf) a m d) (hB:SortedIn (ltOf cf) m b d) (c1:m=a + 1) :
    Calls P 260 #[.slice (some ⟨blk,off,none⟩) sz cap,.int .i64 a,.int .i64 m,.int .i64 b,.func (.func g) #[] #[]] w fun e w' =>
      e=.returned (.tuple #[])∧∃ d',Merged (ltOf cf) a b d d'∧SWK enc k w0 blk off d' w':=by
  have IH:=Lib.hid ih
  have ROT:=Lib.hid (fun (s x e:Nat) (dk:Array α) (W:World) (hS:SWK enc k w0 blk off dk W) (hk:dk.size=sz) (h1:s < x) (h2:x < e) (h3:e≤sz)=>rot_gen T Frot Fswr (.func (.func g) #[] #[]) blk off cap s x e sz dk d0 w0 W R hS hk h0 h1 h2 h3 hsz)
  have HC:=Lib.hid hcmp
  have HS0:=Lib.hid S
  have HZ:=Lib.hid hs
  have HZ0:=Lib.hid h0
  have HA:=Lib.hid hA
  have HB:=Lib.hid hB
  have HO:=Lib.hid hO
  have esym:∀ args w,(callFunc 260 args).run P w=.ok (.enter 260 args) w:=enters_of Fsym (by kernel_rfl) rfl
  have erot:∀ args w,(callFunc 262 args).run P w=.ok (.enter 262 args) w:=enters_of Frot (by kernel_rfl) rfl
  have HESY:=Lib.hid esym
  have HERO:=Lib.hid erot
  clear ih S hs h0 hcmp hA hB hO esym erot
  have mixed:=T.mixed;have t0:=T.t0;have a0:=T.a0;have z0:=T.z0;have v0:=T.v0;have t3:=T.t3;have a3:=T.a3;have z3:=T.z3;have v3:=T.v3;have t4:=T.t4;have a4:=T.a4;have z4:=T.z4;have v4:=T.v4;have t77:=T.t77;have a77:=T.a77;have z77:=T.z77;have v77:=T.v77;have t22:=T.t22;have a22:=T.a22;have z22:=T.z22;have v22:=T.v22;have t53:=T.t53;have a53:=T.a53;have z53:=T.z53;have v53:=T.v53;have aE:=T.aE;have zE:=T.zE
  have u0:=run_underlying T.t0;have u3:=run_underlying T.t3;have u4:=run_underlying T.t4;have u22:=run_underlying T.t22;have u53:=run_underlying T.t53;have u77:=run_underlying T.t77
  have q1:(m:Int) - (a:Int)=1:=by omega
  have HM:=Lib.hid c1
  clear c1
  go_enter Fsym,Tryz.ntmps260
  go_wp2_with fail
  go_loopg [10,11] (b - m) (fun kx s10 s11 wr=>∃ i j:Nat,s10=.int .i64 i∧s11=.int .i64 j∧m≤i∧i≤j∧j≤b∧j - i≤kx∧Hid ((i=m∨ltOf cf d[i - 1]! d[a]! = true)∧(j=b∨ltOf cf d[j]! d[a]! = false))∧Hid (SWK enc k w0 blk off d wr))
  case atStart=>exact ⟨m,b,rfl,rfl,Nat.le_refl _,by omega,Nat.le_refl _,Nat.le_refl _,Lib.hid ⟨.inl rfl,.inl rfl⟩,HS0⟩
  case round =>
    clear HS0
    obtain ⟨i,j,rfl,rfl,hmi,hij,hjb,hkx,HI,HS⟩:=hrel
    by_cases hlt:i < j
    · obtain ⟨h,hh⟩:∃ h,h=(i + j) / 2:=⟨_,rfl⟩
      have rh:((i:Int) + (j:Int)) / 2=(h:Int):=by omega
      have hltz:(i:Int) < (j:Int):=by omega
      have ph:(0:Int)≤(h:Int):=by omega
      have bh:(h:Int) < (sz:Int):=by omega
      have pa:(0:Int)≤(a:Int):=by omega
      have ba:(a:Int) < (sz:Int):=by omega
      have h1:i≤h:=by omega
      have h2:h < j:=by omega
      clear hh
      cases hl:ltOf cf d[h]! d[a]! with
      | true =>
        have HL:=Lib.hid hl
        clear hl
        obtain ⟨x,hx⟩:∃ x,x=d[h]! := ⟨_,rfl⟩
        obtain ⟨y,hy⟩:∃ y,y=d[a]! := ⟨_,rfl⟩
        have la:=HS.out.ld R (HZ.out.trans HZ0.out.symm) P (h) (by rw [HZ.out];omega)
        have lb:=HS.out.ld R (HZ.out.trans HZ0.out.symm) P (a) (by rw [HZ.out];omega)
        rw [← hx] at la
        rw [← hy] at lb
        have hc:=HS.out.cmp HC.out HZ.out x y
        have hv:cf x y < 0:=by rw [hx,hy];exact of_decide_eq_true HL.out
        have hd:decide (cf x y < 0)=true:=decide_eq_true hv
        clear hx hy
        go_wp2_with fail
        go_quiet_grown (first | (go_at_fn g;refine Calls.grown_of (hc _ _)))
        have S2:=Lib.hid (HS.out.grown nq osq)
        clear la lb hc hv hd
        generalize grow (wr.drewN nq) osq=w2 at S2 ⊢
        clear nq osq
        go_wp2_with fail
        go_roundg (j - (h + 1))
        case measure=>omega
        case rel=>exact ⟨h + 1,j,by go_num,rfl,by omega,by omega,hjb,Nat.le_refl _,Lib.hid ⟨.inr (by rw [Nat.add_sub_cancel];exact HL.out),HI.out.2⟩,S2⟩
      | false =>
        have HL:=Lib.hid hl
        clear hl
        obtain ⟨x,hx⟩:∃ x,x=d[h]! := ⟨_,rfl⟩
        obtain ⟨y,hy⟩:∃ y,y=d[a]! := ⟨_,rfl⟩
        have la:=HS.out.ld R (HZ.out.trans HZ0.out.symm) P (h) (by rw [HZ.out];omega)
        have lb:=HS.out.ld R (HZ.out.trans HZ0.out.symm) P (a) (by rw [HZ.out];omega)
        rw [← hx] at la
        rw [← hy] at lb
        have hc:=HS.out.cmp HC.out HZ.out x y
        have hv:¬ cf x y < 0:=by rw [hx,hy];exact of_decide_eq_false HL.out
        have hd:decide (cf x y < 0)=false:=decide_eq_false hv
        clear hx hy
        go_wp2_with fail
        go_quiet_grown (first | (go_at_fn g;refine Calls.grown_of (hc _ _)))
        have S2:=Lib.hid (HS.out.grown nq osq)
        clear la lb hc hv hd
        generalize grow (wr.drewN nq) osq=w2 at S2 ⊢
        clear nq osq
        go_wp2_with fail
        go_roundg (h - i)
        case measure=>omega
        case rel=>exact ⟨i,h,rfl,rfl,hmi,h1,by omega,Nat.le_refl _,Lib.hid ⟨HI.out.1,.inr HL.out⟩,S2⟩
    · obtain rfl:i=j:=by omega
      have hltz:¬ (i:Int) < (i:Int):=by omega
      obtain ⟨i1,hi1⟩:∃ i1,i=i1 + 1:=⟨i - 1,by have:=HM.out;omega⟩
      have ri:(i:Int) - 1=(i1:Int):=by omega
      have HI1:=Lib.hid hi1
      have hai:a≤i1:=by have:=HM.out;omega
      have HR0:=Lib.hid (show Idx d d (rotI a (a + 1) (a + 1)) from idx_rot_none d (by omega) (by omega) (.inr rfl))
      clear hi1
      go_wp2_with fail
      go_loopg [13] (i1 - a) (fun kx s13 wr=>∃ (q:Nat) (dk:Array α),s13=.int .i64 q∧a≤q∧q≤i1∧i1 - q≤kx∧Hid (Idx d dk (rotI a (a + 1) (q + 1)))∧Hid (SWK enc k w0 blk off dk wr))
      case atStart=>exact ⟨a,d,rfl,Nat.le_refl _,hai,Nat.le_refl _,HR0,HS⟩
      case round =>
        clear HS HR0
        obtain ⟨x,dk,rfl,hax,hxi,hkx2,HR,HSK⟩:=hrel
        by_cases hlt2:x < i1
        · have hltz2:(x:Int) < (i1:Int):=by omega
          have hid:x + 1 < d.size:=by rw [HZ.out];have:=HI1.out;omega
          obtain ⟨q,hq⟩:∃ q,q=x + 1:=⟨_,rfl⟩
          have rq:IntKind.i64.wrap ((x:Int) + 1)=(q:Int):=by rw [IntKind.wrap_i64];have:=HI1.out;omega
          have px:(0:Int)≤(x:Int):=by omega
          have pq:(0:Int)≤(q:Int):=by omega
          have bx:(x:Int) < (sz:Int):=by have:=HI1.out;omega
          have bq:(q:Int) < (sz:Int):=by have:=HI1.out;omega
          have HN:=Lib.hid (show Idx d (swp dk x q) (rotI a (a + 1) (x + 1 + 1)) by rw [hq];exact rot_right HR.out hax hid)
          have hsk:=HR.out.size_eq HZ.out
          have hpd:x < dk.size:=by omega
          have hqd:q < dk.size:=by omega
          have hd0:dk.size=d0.size:=hsk.trans HZ0.out.symm
          have HQ:=Lib.hid hq
          clear hq hid hsk HR
          have S3:=Lib.hid (HSK.out.swapped R (x) (q) hpd hqd)
          have la:=HSK.out.ld1 R hd0 P (x) hpd
          have lb:=HSK.out.ld1 R hd0 P (q) hqd
          have sa:=HSK.out.st1 R hd0 P (x) hpd dk[q]!
          have sb:=HSK.out.st2 R hd0 P (x) (q) hpd hqd dk[q]! dk[x]!
          have na:(enc dk[x]!).length=k:=R.hk _
          have nb:(enc dk[q]!).length=k:=R.hk _
          generalize enc dk[x]! = cP at S3 la sb na
          generalize enc dk[q]! = cQ at S3 lb sa sb nb
          clear hpd hqd hd0
          go_wp2_with fail
          go_big_region_o
          clear la lb sa sb na nb
          generalize (wr.drew.setCells blk (off + (x) * k) cQ).setCells blk (off + (q) * k) cP=w3 at S3 ⊢
          go_wp2_with fail
          go_roundg (i1 - (x + 1))
          case measure=>omega
          case rel =>
            have hq:=HQ.out
            subst hq
            exact ⟨x + 1,swp dk x (x + 1),by first | rfl | go_num,by omega,by omega,Nat.le_refl _,HN,S3⟩
        · obtain rfl:x=i1:=by omega
          have hltz2:¬ (x:Int) < (x:Int):=by omega
          have HF:=Lib.hid (show Merged (ltOf cf) a b d dk by
            have h1:=HM.out
            have h2:=HI1.out
            subst h1 h2
            exact merged_right HO.out HR.out (by omega) hjb (by rw [HZ.out];exact hb) HB.out (by rcases HI.out.1 with h | h;exact .inl h;exact .inr h) HI.out.2)
          go_wp2_with fail
          (try simp only [Exit.inBlock,Exit.then])
          refine bodyPost_ret (results_none rfl _ _ _) rfl ?_
          exact ⟨rfl,dk,HF.out,HSK.out⟩
set_option maxRecDepth 100000 in
set_option maxHeartbeats 8000000 in
theorem sym_two (T:TyB P k) (Fsym:P.funcs[(260:Nat)]? = some Tryz.f260) (Frot:P.funcs[(262:Nat)]? = some Tryz.f262) (Fswr:P.funcs[(263:Nat)]? = some Tryz.f263) (cf:α→α→Int) (g:Nat) (eg:∀ args w,(callFunc g args).run P w=.ok (.enter g args) w) (hO:SWO (ltOf cf)) (blk off cap sz:Nat) (d0:Array α) (w0:World) (hcmp:CmpLays P g #[] enc k cf blk off sz w0) (R:RowK enc k w0 blk off d0) (h0:d0.size=sz) (hsz:sz≤1000000) (N:Nat) (ih:∀ (a m b:Nat) (d:Array α) (w:World),b - a≤N→a < m→m < b→b≤sz→d.size=sz→SWK enc k w0 blk off d w→SortedIn (ltOf cf) a m d→SortedIn (ltOf cf) m b d →
    Calls P 260 #[.slice (some ⟨blk,off,none⟩) sz cap,.int .i64 a,.int .i64 m,.int .i64 b,.func (.func g) #[] #[]] w fun e w' =>
      e=.returned (.tuple #[])∧∃ d',Merged (ltOf cf) a b d d'∧SWK enc k w0 blk off d' w') (a m b:Nat) (d:Array α) (w:World) (hN:b - a≤N + 1) (ham:a < m) (hmb:m < b) (hb:b≤sz) (hs:d.size=sz) (S:SWK enc k w0 blk off d w) (hA:SortedIn (ltOf cf) a m d) (hB:SortedIn (ltOf cf) m b d) (c1:¬ m=a + 1) (c2:b=m + 1) :
    Calls P 260 #[.slice (some ⟨blk,off,none⟩) sz cap,.int .i64 a,.int .i64 m,.int .i64 b,.func (.func g) #[] #[]] w fun e w' =>
      e=.returned (.tuple #[])∧∃ d',Merged (ltOf cf) a b d d'∧SWK enc k w0 blk off d' w':=by
  have IH:=Lib.hid ih
  have ROT:=Lib.hid (fun (s x e:Nat) (dk:Array α) (W:World) (hS:SWK enc k w0 blk off dk W) (hk:dk.size=sz) (h1:s < x) (h2:x < e) (h3:e≤sz)=>rot_gen T Frot Fswr (.func (.func g) #[] #[]) blk off cap s x e sz dk d0 w0 W R hS hk h0 h1 h2 h3 hsz)
  have HC:=Lib.hid hcmp
  have HS0:=Lib.hid S
  have HZ:=Lib.hid hs
  have HZ0:=Lib.hid h0
  have HA:=Lib.hid hA
  have HB:=Lib.hid hB
  have HO:=Lib.hid hO
  have esym:∀ args w,(callFunc 260 args).run P w=.ok (.enter 260 args) w:=enters_of Fsym (by kernel_rfl) rfl
  have erot:∀ args w,(callFunc 262 args).run P w=.ok (.enter 262 args) w:=enters_of Frot (by kernel_rfl) rfl
  have HESY:=Lib.hid esym
  have HERO:=Lib.hid erot
  clear ih S hs h0 hcmp hA hB hO esym erot
  have mixed:=T.mixed;have t0:=T.t0;have a0:=T.a0;have z0:=T.z0;have v0:=T.v0;have t3:=T.t3;have a3:=T.a3;have z3:=T.z3;have v3:=T.v3;have t4:=T.t4;have a4:=T.a4;have z4:=T.z4;have v4:=T.v4;have t77:=T.t77;have a77:=T.a77;have z77:=T.z77;have v77:=T.v77;have t22:=T.t22;have a22:=T.a22;have z22:=T.z22;have v22:=T.v22;have t53:=T.t53;have a53:=T.a53;have z53:=T.z53;have v53:=T.v53;have aE:=T.aE;have zE:=T.zE
  have u0:=run_underlying T.t0;have u3:=run_underlying T.t3;have u4:=run_underlying T.t4;have u22:=run_underlying T.t22;have u53:=run_underlying T.t53;have u77:=run_underlying T.t77
  obtain ⟨u,hu⟩:∃ u,m=a + u:=⟨m - a,by omega⟩
  have ru:(m:Int) - (a:Int)=(u:Int):=by omega
  have hu1:¬ (u:Int)=1:=by omega
  have hu2:((u:Int)==1)=false:=by rw [beq_eq_false_iff_ne];omega
  have hu3:¬ u=1:=by omega
  have HU:=Lib.hid hu
  clear hu c1
  have q2:(b:Int) - (m:Int)=1:=by omega
  have HM:=Lib.hid c2
  clear c2
  go_enter Fsym,Tryz.ntmps260
  go_wp2_with fail
  go_loopg [14,15] (m - a) (fun kx s14 s15 wr=>∃ i j:Nat,s14=.int .i64 i∧s15=.int .i64 j∧a≤i∧i≤j∧j≤m∧j - i≤kx∧Hid ((i=a∨ltOf cf d[m]! d[i - 1]! = false)∧(j=m∨ltOf cf d[m]! d[j]! = true))∧Hid (SWK enc k w0 blk off d wr))
  case atStart=>exact ⟨a,m,rfl,rfl,Nat.le_refl _,by omega,Nat.le_refl _,Nat.le_refl _,Lib.hid ⟨.inl rfl,.inl rfl⟩,HS0⟩
  case round =>
    clear HS0
    obtain ⟨i,j,rfl,rfl,hai,hij,hjm,hkx,HI,HS⟩:=hrel
    by_cases hlt:i < j
    · obtain ⟨h,hh⟩:∃ h,h=(i + j) / 2:=⟨_,rfl⟩
      have rh:((i:Int) + (j:Int)) / 2=(h:Int):=by omega
      have hltz:(i:Int) < (j:Int):=by omega
      have ph:(0:Int)≤(h:Int):=by omega
      have bh:(h:Int) < (sz:Int):=by omega
      have pm:(0:Int)≤(m:Int):=by omega
      have bm:(m:Int) < (sz:Int):=by omega
      have h1:i≤h:=by omega
      have h2:h < j:=by omega
      clear hh
      cases hl:ltOf cf d[m]! d[h]! with
      | false =>
        have HL:=Lib.hid hl
        clear hl
        obtain ⟨x,hx⟩:∃ x,x=d[m]! := ⟨_,rfl⟩
        obtain ⟨y,hy⟩:∃ y,y=d[h]! := ⟨_,rfl⟩
        have la:=HS.out.ld R (HZ.out.trans HZ0.out.symm) P (m) (by rw [HZ.out];omega)
        have lb:=HS.out.ld R (HZ.out.trans HZ0.out.symm) P (h) (by rw [HZ.out];omega)
        rw [← hx] at la
        rw [← hy] at lb
        have hc:=HS.out.cmp HC.out HZ.out x y
        have hv:¬ cf x y < 0:=by rw [hx,hy];exact of_decide_eq_false HL.out
        have hd:decide (cf x y < 0)=false:=decide_eq_false hv
        clear hx hy
        go_wp2_with fail
        go_quiet_grown (first | (go_at_fn g;refine Calls.grown_of (hc _ _)))
        have S2:=Lib.hid (HS.out.grown nq osq)
        clear la lb hc hv hd
        generalize grow (wr.drewN nq) osq=w2 at S2 ⊢
        clear nq osq
        go_wp2_with fail
        go_roundg (j - (h + 1))
        case measure=>omega
        case rel=>exact ⟨h + 1,j,by go_num,rfl,by omega,by omega,hjm,Nat.le_refl _,Lib.hid ⟨.inr (by rw [Nat.add_sub_cancel];exact HL.out),HI.out.2⟩,S2⟩
      | true =>
        have HL:=Lib.hid hl
        clear hl
        obtain ⟨x,hx⟩:∃ x,x=d[m]! := ⟨_,rfl⟩
        obtain ⟨y,hy⟩:∃ y,y=d[h]! := ⟨_,rfl⟩
        have la:=HS.out.ld R (HZ.out.trans HZ0.out.symm) P (m) (by rw [HZ.out];omega)
        have lb:=HS.out.ld R (HZ.out.trans HZ0.out.symm) P (h) (by rw [HZ.out];omega)
        rw [← hx] at la
        rw [← hy] at lb
        have hc:=HS.out.cmp HC.out HZ.out x y
        have hv:cf x y < 0:=by rw [hx,hy];exact of_decide_eq_true HL.out
        have hd:decide (cf x y < 0)=true:=decide_eq_true hv
        clear hx hy
        go_wp2_with fail
        go_quiet_grown (first | (go_at_fn g;refine Calls.grown_of (hc _ _)))
        have S2:=Lib.hid (HS.out.grown nq osq)
        clear la lb hc hv hd
        generalize grow (wr.drewN nq) osq=w2 at S2 ⊢
        clear nq osq
        go_wp2_with fail
        go_roundg (h - i)
        case measure=>omega
        case rel=>exact ⟨i,h,rfl,rfl,hai,h1,by omega,Nat.le_refl _,Lib.hid ⟨HI.out.1,.inr HL.out⟩,S2⟩
    · obtain rfl:i=j:=by omega
      have hltz:¬ (i:Int) < (i:Int):=by omega
      have HR0:=Lib.hid (show Idx d d (rotI m m (m + 1)) from idx_rot_none d (by omega) (by omega) (.inl rfl))
      go_wp2_with fail
      go_loopg [17] (m - i) (fun kx s17 wr=>∃ (x:Nat) (dk:Array α),s17=.int .i64 x∧i≤x∧x≤m∧x - i≤kx∧Hid (Idx d dk (rotI x m (m + 1)))∧Hid (SWK enc k w0 blk off dk wr))
      case atStart=>exact ⟨m,d,rfl,hjm,Nat.le_refl _,Nat.le_refl _,HR0,HS⟩
      case round =>
        clear HS HR0
        obtain ⟨x,dk,rfl,hix,hxm,hkx2,HR,HSK⟩:=hrel
        by_cases hlt2:i < x
        · obtain ⟨xp,rfl⟩:∃ xp,x=xp + 1:=⟨x - 1,by omega⟩
          have hltz2:(i:Int) < (xp:Int) + 1:=by omega
          have hwp:IntKind.i64.wrap (xp:Int)=(xp:Int):=by rw [IntKind.wrap_i64];omega
          have jz:(xp:Int) + 1 < (sz:Int):=by omega
          have jz1:(xp:Int) < (sz:Int):=by omega
          have p0:(0:Int)≤(xp:Int) + 1:=by omega
          have e0:((xp:Int) + 1).toNat=xp + 1:=by omega
          have HN:=Lib.hid (show Idx d (swp dk (xp + 1) xp) (rotI xp m (m + 1)) from rot_left HR.out hxm (by rw [HZ.out];omega))
          have hsk:=HR.out.size_eq HZ.out
          have hpd:xp + 1 < dk.size:=by omega
          have hqd:xp < dk.size:=by omega
          have hd0:dk.size=d0.size:=hsk.trans HZ0.out.symm
          clear hsk HR
          have S3:=Lib.hid (HSK.out.swapped R (xp + 1) (xp) hpd hqd)
          have la:=HSK.out.ld1 R hd0 P (xp + 1) hpd
          have lb:=HSK.out.ld1 R hd0 P (xp) hqd
          have sa:=HSK.out.st1 R hd0 P (xp + 1) hpd dk[xp]!
          have sb:=HSK.out.st2 R hd0 P (xp + 1) (xp) hpd hqd dk[xp]! dk[xp + 1]!
          have na:(enc dk[xp + 1]!).length=k:=R.hk _
          have nb:(enc dk[xp]!).length=k:=R.hk _
          generalize enc dk[xp + 1]! = cP at S3 la sb na
          generalize enc dk[xp]! = cQ at S3 lb sa sb nb
          clear hpd hqd hd0
          go_wp2_with fail
          go_big_region_o
          clear la lb sa sb na nb
          generalize (wr.drew.setCells blk (off + (xp + 1) * k) cQ).setCells blk (off + (xp) * k) cP=w3 at S3 ⊢
          go_wp2_with fail
          go_roundg (xp - i)
          case measure=>omega
          case rel=>exact ⟨xp,swp dk (xp + 1) xp,by first | rfl | go_num | (congr 1;omega),by omega,by omega,Nat.le_refl _,HN,S3⟩
        · obtain rfl:x=i:=by omega
          have hltz2:¬ (x:Int) < (x:Int):=by omega
          have HF:=Lib.hid (show Merged (ltOf cf) a b d dk by
            have h1:=HM.out
            subst h1
            exact merged_left HO.out HR.out hai hjm (by rw [HZ.out];omega) HA.out HI.out.1 HI.out.2)
          go_wp2_with fail
          (try simp only [Exit.inBlock,Exit.then])
          refine bodyPost_ret (results_none rfl _ _ _) rfl ?_
          exact ⟨rfl,dk,HF.out,HSK.out⟩
end Go.Proofs.YtjcleokfpohpdaaGreatDoor
