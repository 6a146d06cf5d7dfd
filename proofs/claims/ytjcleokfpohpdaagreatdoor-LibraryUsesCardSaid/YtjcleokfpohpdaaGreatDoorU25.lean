/-
  Two sorted parts of a row merged in place, by the library's own text.
  A row sorted so that equal ones stay in their order, by the library's own text.
-/
import Derived.Test.YtjcleokfpohpdaaGreatDoorU23
import Derived.Test.YtjcleokfpohpdaaGreatDoorU24
namespace Go.Proofs.YtjcleokfpohpdaaGreatDoor
open Go.RowKit Go.Shelf Go.Lib Go.Sort
variable {α:Type} [Inhabited α] {P:Program} {k:Nat} {enc:α→List Value}
set_option maxRecDepth 100000 in
set_option maxHeartbeats 8000000 in
theorem sym_gen (T:TyB P k) (Fsym:P.funcs[(260:Nat)]? = some Tryz.f260) (Frot:P.funcs[(262:Nat)]? = some Tryz.f262) (Fswr:P.funcs[(263:Nat)]? = some Tryz.f263) (cf:α→α→Int) (g:Nat) (eg:∀ args w,(callFunc g args).run P w=.ok (.enter g args) w) (hO:SWO (ltOf cf)) (blk off cap sz:Nat) (d0:Array α) (w0:World) (hcmp:CmpLays P g #[] enc k cf blk off sz w0) (R:RowK enc k w0 blk off d0) (h0:d0.size=sz) (hsz:sz≤1000000) (N:Nat) :
    ∀ (a m b:Nat) (d:Array α) (w:World),b - a≤N→a < m→m < b→b≤sz→d.size=sz→SWK enc k w0 blk off d w→SortedIn (ltOf cf) a m d→SortedIn (ltOf cf) m b d →
    Calls P 260 #[.slice (some ⟨blk,off,none⟩) sz cap,.int .i64 a,.int .i64 m,.int .i64 b,.func (.func g) #[] #[]] w fun e w' =>
      e=.returned (.tuple #[])∧∃ d',Merged (ltOf cf) a b d d'∧SWK enc k w0 blk off d' w':=by
  induction N with
  | zero=>intro a m b d w h1 h2 h3;omega
  | succ N ih =>
    intro a m b d w hN ham hmb hb hs S hA hB
    by_cases c1:m=a + 1
    · exact sym_one T Fsym Frot Fswr cf g eg hO blk off cap sz d0 w0 hcmp R h0 hsz N ih a m b d w hN ham hmb hb hs S hA hB c1
    · by_cases c2:b=m + 1
      · exact sym_two T Fsym Frot Fswr cf g eg hO blk off cap sz d0 w0 hcmp R h0 hsz N ih a m b d w hN ham hmb hb hs S hA hB c1 c2
      · by_cases hz:(a + b) / 2 < m
        · exact sym_lo T Fsym Frot Fswr cf g eg hO blk off cap sz d0 w0 hcmp R h0 hsz N ih a m b d w hN ham hmb hb hs S hA hB c1 c2 hz
        · exact sym_hi T Fsym Frot Fswr cf g eg hO blk off cap sz d0 w0 hcmp R h0 hsz N ih a m b d w hN ham hmb hb hs S hA hB c1 c2 (by omega)
end Go.Proofs.YtjcleokfpohpdaaGreatDoor
namespace Go.Proofs.YtjcleokfpohpdaaGreatDoor
open Go.RowKit Go.Shelf Go.Lib Go.Sort
variable {α:Type} [Inhabited α] {P:Program} {k:Nat} {enc:α→List Value}
set_option maxRecDepth 100000 in
set_option maxHeartbeats 8000000 in
theorem stb_gen (T:TyB P k) (Fstb:P.funcs[(253:Nat)]? = some Tryz.f253) (Fins:P.funcs[(259:Nat)]? = some Tryz.f259) (Fsym:P.funcs[(260:Nat)]? = some Tryz.f260) (Frot:P.funcs[(262:Nat)]? = some Tryz.f262) (Fswr:P.funcs[(263:Nat)]? = some Tryz.f263) (cf:α→α→Int) (g:Nat) (eg:∀ args w,(callFunc g args).run P w=.ok (.enter g args) w) (hO:SWO (ltOf cf)) (blk off cap sz:Nat) (d d0:Array α) (w0 w:World) (hcmp:CmpLays P g #[] enc k cf blk off sz w0) (R:RowK enc k w0 blk off d0) (h0:d0.size=sz) (hsz:sz≤1000000) (hs:d.size=sz) (S:SWK enc k w0 blk off d w) :
    Calls P 253 #[.slice (some ⟨blk,off,none⟩) sz cap,.int .i64 sz,.func (.func g) #[] #[]] w fun e w' =>
      e=.returned (.tuple #[])∧∃ d',Stab (ltOf cf) d d'∧SortedIn (ltOf cf) 0 sz d'∧SWK enc k w0 blk off d' w':=by
  have INS:=Lib.hid (fun (x y:Nat) (dk:Array α) (W:World) (hS:SWK enc k w0 blk off dk W) (hk:dk.size=sz) (h1:x≤y) (h2:y≤sz)=>ins_gen T Fins cf g eg blk off cap x y sz dk d0 w0 W hcmp R hS hk h0 h1 h2 hsz)
  have SYM:=Lib.hid (fun (a m b:Nat) (dk:Array α) (W:World) (hS:SWK enc k w0 blk off dk W) (hk:dk.size=sz) (h1:a < m) (h2:m < b) (h3:b≤sz) (h4:SortedIn (ltOf cf) a m dk) (h5:SortedIn (ltOf cf) m b dk)=>sym_gen T Fsym Frot Fswr cf g eg hO blk off cap sz d0 w0 hcmp R h0 hsz (b - a) a m b dk W (Nat.le_refl _) h1 h2 h3 hk hS h4 h5)
  have HS0:=Lib.hid S
  have HZ:=Lib.hid hs
  have HO:=Lib.hid hO
  have esym:∀ args w,(callFunc 260 args).run P w=.ok (.enter 260 args) w:=enters_of Fsym (by kernel_rfl) rfl
  have eins:∀ args w,(callFunc 259 args).run P w=.ok (.enter 259 args) w:=enters_of Fins (by kernel_rfl) rfl
  clear S hs h0 hcmp hO
  have mixed:=T.mixed;have t0:=T.t0;have a0:=T.a0;have z0:=T.z0;have v0:=T.v0;have t3:=T.t3;have a3:=T.a3;have z3:=T.z3;have v3:=T.v3;have t4:=T.t4;have a4:=T.a4;have z4:=T.z4;have v4:=T.v4;have t77:=T.t77;have a77:=T.a77;have z77:=T.z77;have v77:=T.v77;have t22:=T.t22;have a22:=T.a22;have z22:=T.z22;have v22:=T.v22;have t53:=T.t53;have a53:=T.a53;have z53:=T.z53;have v53:=T.v53;have aE:=T.aE;have zE:=T.zE
  have u0:=run_underlying T.t0;have u3:=run_underlying T.t3;have u4:=run_underlying T.t4;have u22:=run_underlying T.t22;have u53:=run_underlying T.t53;have u77:=run_underlying T.t77
  go_enter Fstb,Tryz.ntmps253
  go_wp2_with fail
  go_loopg [7,8] sz (fun kx s7 s8 wr=>∃ (q a b:Nat) (dk:Array α),s7=.int .i64 a∧s8=.int .i64 b∧Hid (a=q * 20)∧Hid (b=a + 20)∧a≤sz∧sz - a≤kx∧Hid (dk.size=sz∧Stab (ltOf cf) d dk∧TilesTo (ltOf cf) 20 sz q dk)∧Hid (SWK enc k w0 blk off dk wr))
  case atStart=>exact ⟨0,0,20,d,rfl,rfl,Lib.hid rfl,Lib.hid rfl,Nat.zero_le _,Nat.sub_le _ _,Lib.hid ⟨HZ.out,Stab.refl d,fun q h=>by omega⟩,HS0⟩
  case round =>
    clear HS0
    obtain ⟨q,a,b,dk,rfl,rfl,HAQ,HAB,has,hkx,HT,HS⟩:=hrel
    by_cases hlt:b≤sz
    · have hltz:(b:Int)≤(sz:Int):=by omega
      have hab:a≤b:=by have:=HAB.out;omega
      have D:=Lib.hid (INS.out a b dk wr HS.out HT.out.1 hab hlt)
      have HM:=Lib.hid (seg_insertion HO.out dk hab (by rw [HT.out.1];exact hlt))
      have HN:=Lib.hid (show (Sort.insertionSort (ltOf cf) dk a b).size=sz∧Stab (ltOf cf) d (Sort.insertionSort (ltOf cf) dk a b)∧TilesTo (ltOf cf) 20 sz (q + 1) (Sort.insertionSort (ltOf cf) dk a b) from ⟨HM.out.1.stab.1.trans HT.out.1,HT.out.2.1.trans HM.out.1.stab,tiles_one HT.out.2.2 (by rw [← HAQ.out,← HAB.out];exact HM.out) (by rw [← HAQ.out,← HAB.out];exact hlt)⟩)
      have bb:b≤1000000:=by omega
      go_wp2_with fail
      go_at_fn 259;refine D.out.mono ?_;rintro e' w' ⟨rfl,hw'⟩
      have HWW:=Lib.hid hw'
      clear hw'
      go_wp2_with fail
      go_roundg (sz - b)
      case measure=>have:=HAB.out;omega
      case rel=>exact ⟨q + 1,b,b + 20,_,rfl,by go_num,Lib.hid (by have:=HAB.out;have:=HAQ.out;omega),Lib.hid rfl,hlt,Nat.le_refl _,HN,HWW⟩
    · have hltz:¬ (b:Int)≤(sz:Int):=by omega
      have D:=Lib.hid (INS.out a sz dk wr HS.out HT.out.1 has (Nat.le_refl _))
      have HM:=Lib.hid (seg_insertion HO.out dk has (by rw [HT.out.1];exact Nat.le_refl _))
      have HN:=Lib.hid (show (Sort.insertionSort (ltOf cf) dk a sz).size=sz∧Stab (ltOf cf) d (Sort.insertionSort (ltOf cf) dk a sz)∧Tiles (ltOf cf) 20 sz 0 (Sort.insertionSort (ltOf cf) dk a sz) from ⟨HM.out.1.stab.1.trans HT.out.1,HT.out.2.1.trans HM.out.1.stab,tiles_all HT.out.2.2 (by rw [← HAQ.out];exact HM.out) (by have:=HAQ.out;have:=HAB.out;omega)⟩)
      go_wp2_with fail
      go_at_fn 259;refine D.out.mono ?_;rintro e' w' ⟨rfl,hw'⟩
      have HWW:=Lib.hid hw'
      clear hw' HS HT D HAB HAQ
      go_wp2_with fail
      go_loopg [6] sz (fun kx s6 wr=>∃ (bs:Nat) (dj:Array α),s6=.int .i64 bs∧0 < bs∧bs≤2000000∧sz - bs≤kx∧Hid (dj.size=sz∧Stab (ltOf cf) d dj∧Tiles (ltOf cf) bs sz 0 dj)∧Hid (SWK enc k w0 blk off dj wr))
      case atStart=>exact ⟨20,_,rfl,by omega,by omega,Nat.sub_le _ _,HN,HWW⟩
      case round =>
        clear HWW HN HM
        obtain ⟨bs,dj,rfl,hb0,hbm,hkx2,HT,HS⟩:=hrel
        by_cases hlt2:bs < sz
        · have hltz2:(bs:Int) < (sz:Int):=by omega
          obtain ⟨c2,hc2⟩:∃ c2,c2=2 * bs:=⟨_,rfl⟩
          have r2:2 * (bs:Int)=(c2:Int):=by omega
          have r2':(bs:Int) * 2=(c2:Int):=by omega
          have bc2:c2≤2000000:=by omega
          have hbc:bs < c2:=by omega
          have HC2:=Lib.hid hc2
          clear hc2
          go_wp2_with fail
          go_loopg [7,8] sz (fun kx s7 s8 wr=>∃ (q a b:Nat) (dk:Array α),s7=.int .i64 a∧s8=.int .i64 b∧Hid (a=q * (2 * bs))∧Hid (b=a + c2)∧a≤sz∧sz - a≤kx∧Hid (dk.size=sz∧Stab (ltOf cf) d dk∧TilesTo (ltOf cf) (2 * bs) sz q dk∧Tiles (ltOf cf) bs sz (2 * q) dk)∧Hid (SWK enc k w0 blk off dk wr))
          case atStart=>exact ⟨0,0,c2,dj,rfl,rfl,Lib.hid (by rw [Nat.zero_mul]),Lib.hid (by rw [Nat.zero_add]),Nat.zero_le _,Nat.sub_le _ _,Lib.hid ⟨HT.out.1,HT.out.2.1,fun q h=>by omega,fun q h=>HT.out.2.2 q (Nat.zero_le _)⟩,HS⟩
          case round =>
            clear HS HT
            obtain ⟨q,a,b,dk,rfl,rfl,HAQ,HAB,has,hkx3,HT,HS⟩:=hrel
            obtain ⟨m,hm⟩:∃ m,m=a + bs:=⟨_,rfl⟩
            have rm:(a:Int) + (bs:Int)=(m:Int):=by omega
            have HM:=Lib.hid hm
            have bm:m≤4000000:=by omega
            clear hm
            by_cases hlt3:b≤sz
            · have hltz3:(b:Int)≤(sz:Int):=by omega
              have hab:a < m∧m < b:=by have:=HAB.out;have:=HM.out;omega
              have D:=Lib.hid (SYM.out a m b dk wr HS.out HT.out.1 hab.1 hab.2 hlt3 (by
                have h:=tile_fst HT.out.2.2.2
                rw [← HAQ.out,← HM.out,Nat.min_eq_left (by omega)] at h
                exact h) (by
                have h:=tile_snd HT.out.2.2.2
                rw [← HAQ.out,← HM.out,← HC2.out,← HAB.out,Nat.min_eq_left hlt3] at h
                exact h))
              have bb:b≤1000000:=by omega
              clear hab
              go_wp2_with fail
              go_at_fn 260;refine D.out.mono ?_;rintro e' w' ⟨rfl,d2,hd2,hw'⟩
              have HWW:=Lib.hid hw'
              have HD2:=Lib.hid hd2
              clear hw' hd2
              go_wp2_with fail
              go_roundg (sz - b)
              case measure=>have:=HAB.out;omega
              case rel =>
                have e1:=HAQ.out
                have e2:=HAB.out
                have e3:=HC2.out
                have e4:(q + 1) * (2 * bs)=q * (2 * bs) + 2 * bs:=by rw [Nat.add_mul,Nat.one_mul]
                have hd:=HD2.out
                rw [e2,e3,e1] at hd
                refine ⟨q + 1,b,b + c2,d2,rfl,by first | rfl | go_num,Lib.hid (by omega),Lib.hid rfl,hlt3,Nat.le_refl _,Lib.hid ⟨hd.size_eq HT.out.1,HT.out.2.1.trans hd.1.stab,tiles_one HT.out.2.2.1 hd (by omega),tiles_rest HT.out.2.2.2 hd⟩,HWW⟩
            · have hltz3:¬ (b:Int)≤(sz:Int):=by omega
              have HTT:=Lib.hid (fun (d2:Array α) (h:Merged (ltOf cf) a sz dk d2)=>(show d2.size=sz∧Stab (ltOf cf) d d2∧Tiles (ltOf cf) c2 sz 0 d2 by
                have e1:=HAQ.out
                have e2:=HAB.out
                have e3:=HC2.out
                rw [e1] at h
                rw [e3]
                exact ⟨h.size_eq HT.out.1,HT.out.2.1.trans h.1.stab,tiles_all HT.out.2.2.1 h (by omega)⟩))
              by_cases hlt4:m < sz
              · have hltz4:(m:Int) < (sz:Int):=by omega
                have hab:a < m:=by have:=HM.out;omega
                have D:=Lib.hid (SYM.out a m sz dk wr HS.out HT.out.1 hab hlt4 (Nat.le_refl _) (by
                  have h:=tile_fst HT.out.2.2.2
                  rw [← HAQ.out,← HM.out,Nat.min_eq_left (by omega)] at h
                  exact h) (by
                  have h:=tile_snd HT.out.2.2.2
                  rw [← HAQ.out,← HM.out,← HC2.out,← HAB.out,Nat.min_eq_right (by omega)] at h
                  exact h))
                clear hab
                go_wp2_with fail
                go_at_fn 260;refine D.out.mono ?_;rintro e' w' ⟨rfl,d2,hd2,hw'⟩
                have HWW:=Lib.hid hw'
                have HD2:=Lib.hid hd2
                clear hw' hd2
                go_wp2_with fail
                go_roundg (sz - c2)
                case measure=>omega
                case rel=>exact ⟨c2,d2,rfl,by omega,bc2,Nat.le_refl _,Lib.hid (HTT.out d2 HD2.out),HWW⟩
              · have hltz4:¬ (m:Int) < (sz:Int):=by omega
                have HD2:=Lib.hid (show Merged (ltOf cf) a sz dk dk by
                  have h:=tile_fst HT.out.2.2.2
                  rw [← HAQ.out,← HM.out,Nat.min_eq_right (by omega)] at h
                  exact ⟨Seg.refl _ _ _,h⟩)
                go_wp2_with fail
                go_roundg (sz - c2)
                case measure=>omega
                case rel=>exact ⟨c2,dk,rfl,by omega,bc2,Nat.le_refl _,Lib.hid (HTT.out dk HD2.out),HS⟩
        · have hltz2:¬ (bs:Int) < (sz:Int):=by omega
          go_wp2_with fail
          go_end0
          exact ⟨rfl,dj,HT.out.2.1,tiles_whole HT.out.2.2 (by omega),HS.out⟩
end Go.Proofs.YtjcleokfpohpdaaGreatDoor
