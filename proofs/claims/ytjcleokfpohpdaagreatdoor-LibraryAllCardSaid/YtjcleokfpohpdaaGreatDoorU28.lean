/-
  A name looked for in binds that are in order, by the library's binary search at the program's byName.
  What stands for a variable, by the closure that the program's putter makes.
  What puts binds into a term, by the program's putter, and Apply.
  Binds put into a term, by the program's Apply.
  What a listed package variable gives a walk: one of a list, its block, and the table of powers of ten.
  What the listed table of powers of ten gives a walk.
  A number in decimal, by the program's Digits (the table of powers of ten: Pw).
  What stands for names that are numbered, as values. No function of the program.
-/
import Derived.Test.YtjcleokfpohpdaaGreatDoorU20
import Derived.Test.YtjcleokfpohpdaaGreatDoorU26
import Derived.Test.YtjcleokfpohpdaaGreatDoorU27
import Derived.Test.YtjcleokfpohpdaaGreatDoorU08
import Derived.Laws.EntriesVeiled
import Derived.Deep.RegionWith
import Derived.Test.YtjcleokfpohpdaaGreatDoorU01
import Derived.Test.YtjcleokfpohpdaaGreatDoorRows
import Derived.WalkKit
import Derived.ProofKit
import Derived.Lib.Hide
import Derived.Stop.LaidErr
import Derived.WalkSmall
import Derived.Deep.DeepHandedRow
import Derived.Lib.LaidTab
import Derived.MakeChecks
import Derived.Lib.ItoaLen
import Derived.Test.YtjcleokfpohpdaaGreatDoorShelf
import Derived.Test.YtjcleokfpohpdaaGreatDoorU09
namespace Go.Proofs.YtjcleokfpohpdaaGreatDoor
open Go.RowKit Go.Shelf Go.Lib Go.Sort
theorem below_self {α:Type} [Inhabited α] {enc:α→List Value} {k:Nat} {w W:World} {g:Nat} {d:Array α} (hH:HoldsK enc k w g 0 d) (h:SWK enc k w g 0 d W):Below w.heap.size w W:=by
  obtain ⟨n,os,rfl⟩:=h
  unfold sortWorldK
  have e:putRowK enc k (Sort.ahead w n) g 0 d=Sort.ahead w n:=putRowK_self enc k (Sort.ahead w n) g 0 d (holdsK_ahead enc k w n g 0 d hH)
  rw [e]
  exact ⟨rfl,rfl,rfl,by rw [size_grow];exact Nat.le_add_right _ _,fun b hb=>by rw [heap_grow_old _ _ (by exact hb)];rfl⟩
theorem rising_get:∀ {l:List Bn} {x:Bn},Rising l→x ∈ l→getB l x.1=some x.2
  | [],_,_,h=>nomatch h
  | y :: r,x,hr,h=>by
    unfold Rising at hr
    rw [List.pairwise_cons] at hr
    rcases List.mem_cons.1 h with rfl | h
    · exact getB_hit _ _ rfl
    · rw [getB_miss _ _ (ltN_ne (hr.1 x h)),rising_get hr.2 h]
def tgt (s:ByteArray):Bv:=⟨s,zeroV⟩
theorem cmpS_self {s t:ByteArray}:cmpS s t=0 ↔ s=t:=by
  rw [cmpS_zero]
  constructor
  · intro h;exact beq_name.1 (by rw [h];simp)
  · intro h;rw [h]
set_option maxRecDepth 100000 in
set_option maxHeartbeats 1000000 in
theorem find_none (s:ByteArray) (fv:Value) (w:World):Calls Tryz.prog 228 #[.slice none 0 0,.agg (tgt s).cells.toArray,fv] w fun e w' =>
    e=.returned (.tuple #[.int .i64 0,.bool false])∧Below w.heap.size w w':=by
  simp only [tgt,Bv.cells,zeroV,zeroT,Tm.kind,Tm.name,Tm.n,Tm.args,List.length_nil]
  have hB:=Lib.hid (show Below w.heap.size w (w.alloc (.cells #[.string s,.int .i64 0,.string ⟨#[]⟩,.int .i64 0,.slice none 0 0] 233)) from (Below.refl _ _).alloc (Nat.le_refl _) _)
  have mixed : Tryz.prog.follows Departure.mixedOrders=true:=by kernel_rfl
  go_enter Tryz.func228,Tryz.ntmps228
  go_wp2_with fail
  refine wp_loop_rounds 1 ?_;rw [rounds_succ]
  go_wp2_with fail
  go_big_region_o
  go_wp2_with fail
  go_ret2
  exact ⟨rfl,below_drewN hB.out 1⟩
theorem find_vs (g cap:Nat) (vs:List Bv) (w:World) (hH:HoldsK Bv.cells 5 w g 0 vs.toArray) (hg:g < w.heap.size) (hr:Rising (vs.map Bv.bn)) (hlen:vs.length≤1000000) (s:ByteArray) :
    Calls Tryz.prog 228 #[.slice (some ⟨g,0,none⟩) vs.length cap,.agg (tgt s).cells.toArray,.func (.func 229) #[] #[]] w fun e w' =>
      Below w.heap.size w w'∧∃ i:Nat,(e=.returned (.tuple #[.int .i64 i,.bool false])∧getB (vs.map Bv.bn) s=none)∨(∃ h:i < vs.length,vs[i].s=s∧e=.returned (.tuple #[.int .i64 i,.bool true])):=by
  have eg:∀ args w,(callFunc 229 args).run Tryz.prog w=.ok (.enter 229 args) w:=enters_of Tryz.func229 (by kernel_rfl) rfl
  have get:∀ (t:Nat) (ht:t < vs.length),vs.toArray[t]! = vs[t]:=fun t ht=>by rw [getElem!_pos vs.toArray t (by simpa using ht)];simp
  have hsz:vs.toArray.size=vs.length:=by simp
  have rise:∀ a b (hb:b < vs.length) (hab:a < b),ltN (vs[a]'(by omega)).s vs[b].s=true:=fun a b hb hab=>by
    unfold Rising at hr
    rw [List.pairwise_map,List.pairwise_iff_getElem] at hr
    exact hr a b (by omega) hb hab
  have mono:∀ a b,a≤b→b < vs.length→cfN vs.toArray[b]! (tgt s) < 0→cfN vs.toArray[a]! (tgt s) < 0:=fun a b hab hb h=>by
    rcases Nat.lt_or_ge a b with h1 | h1
    · rw [get b hb] at h
      rw [get a (by omega)]
      exact cmpS_lt.2 (ltN_trans (rise a b hb h1) (cmpS_lt.1 h))
    · obtain rfl:a=b:=by omega
      exact h
  refine (bsf_gen tyC Tryz.func228 cfN 229 eg (tgt s) g 0 cap vs.length vs.toArray vs.toArray w w (cmpLaysN g 0 vs.length w) (rowKBv hH hg) (SWK.start hH) hsz hsz hlen mono).mono ?_
  rintro e w' ⟨i,hi,h1,h2,rfl,hS⟩
  refine ⟨below_self hH hS,i,?_⟩
  by_cases hin:i < vs.length
  · rw [get i hin]
    by_cases he:vs[i].s=s
    · refine .inr ⟨hin,he,?_⟩
      rw [decide_eq_true hin,decide_eq_true (show cfN vs[i] (tgt s)=0 from cmpS_self.2 he)];rfl
    · refine .inl ⟨?_,getB_none fun x hx hxs=>?_⟩
      · rw [decide_eq_false (show ¬ cfN vs[i] (tgt s)=0 from fun h=>he (cmpS_self.1 h)),Bool.and_false]
      · obtain ⟨y,hy,rfl⟩:=List.mem_map.1 hx
        obtain ⟨t,ht,rfl⟩:=List.getElem_of_mem hy
        have hts:cfN vs[t] (tgt s)=0:=cmpS_self.2 hxs
        rcases Nat.lt_trichotomy t i with h3 | h3 | h3
        · have:=h1 t h3
          rw [get t ht,hts] at this;omega
        · subst h3;exact he hxs
        · have h4:=rise i t ht h3
          have h5:=h2 i (Nat.le_refl _) hin
          rw [get i hin] at h5
          have:cfN vs[i] (tgt s) < 0:=cmpS_lt.2 (by show ltN vs[i].s s=true;rw [← hxs];exact h4)
          omega
  · refine .inl ⟨by rw [decide_eq_false hin];rfl,getB_none fun x hx hxs=>?_⟩
    obtain ⟨y,hy,rfl⟩:=List.mem_map.1 hx
    obtain ⟨t,ht,rfl⟩:=List.getElem_of_mem hy
    have:=h1 t (by omega)
    rw [get t ht,show cfN vs[t] (tgt s)=0 from cmpS_self.2 hxs] at this
    omega
end Go.Proofs.YtjcleokfpohpdaaGreatDoor
namespace Go.Proofs.YtjcleokfpohpdaaGreatDoor
open Go.RowKit Go.Shelf Go.Lib Go.Sort
def SortedAt (w0:World) (B g3:Nat) (bs:List Bn) (W:World):Prop :=
  ∃ (u:Value) (vs:List Bv),W.cell? ⟨g3,0,none⟩=some u∧g3 < B∧vs.map Bv.bn=ofB bs∧(∀ x ∈ vs,x.v.ok w0∧x.s.size≤9223372036854775807)∧vs.length≤1000000 ∧
    ((u=.slice none 0 0∧vs=[])∨∃ blk cap,u=.slice (some ⟨blk,0,none⟩) vs.length cap∧blk < B∧blk < W.heap.size∧HoldsK Bv.cells 5 W blk 0 vs.toArray)
theorem holdsK_below {w w':World} {blk B:Nat} {d:Array Bv} (h:HoldsK Bv.cells 5 w blk 0 d) (hb:Below B w w') (hB:blk < B):HoldsK Bv.cells 5 w' blk 0 d:=fun j hj=>by
  obtain ⟨h1,h2⟩:=h j hj
  exact ⟨(hb.cell (p:=⟨blk,0 + j,none⟩) hB).trans h1,(hb.frozen (p:=⟨blk,0 + j,none⟩) hB).trans h2⟩
theorem SortedAt.below {w0:World} {B g3:Nat} {bs:List Bn} {W W':World} (h:SortedAt w0 B g3 bs W) (hb:Below B W W'):SortedAt w0 B g3 bs W':=by
  obtain ⟨u,vs,h1,h2,h3,h4,h5,h6⟩:=h
  refine ⟨u,vs,(hb.cell (p:=⟨g3,0,none⟩) h2).trans h1,h2,h3,h4,h5,?_⟩
  rcases h6 with h6 | ⟨blk,cap,hu,hB,hl,hH⟩
  · exact .inl h6
  · exact .inr ⟨blk,cap,hu,hB,Nat.lt_of_lt_of_le hl hb.size,holdsK_below hH hb hB⟩
def fB (bs:List Bn) (t:Tm):Option Tm:=if t.kind=1 then getB bs t.name else none
def QB (w0:World) (B g3:Nat) (bs:List Bn) (b:Bool) (W:World):Prop:=b=true∧SortedAt w0 B g3 bs W
mutual
theorem appT_rep (bs:List Bn):∀ t:Tm,repT (fB bs) t=appT bs t
  | .mk k s n xs=>by
    rw [repT,appT]
    unfold fB
    by_cases hk:k=1
    · rw [if_pos (show (Tm.mk k s n xs).kind=1 from hk),if_pos hk]
      show (match getB bs s with | some u=>u | none=>Tm.mk k s n (repL (fB bs) xs))=_
      rw [appL_rep bs xs]
      cases getB bs s<;>rfl
    · rw [if_neg (show ¬ (Tm.mk k s n xs).kind=1 from hk),if_neg hk]
      show Tm.mk k s n (repL (fB bs) xs)=_
      rw [appL_rep bs xs]
theorem appL_rep (bs:List Bn):∀ l:List Tm,repL (fB bs) l=appL bs l
  | []=>by rw [repL,appL]
  | t :: r=>by rw [repL,appL,appT_rep bs t,appL_rep bs r]
end
mutual
theorem okT_true (f:Tm→Option Tm):∀ t:Tm,okT (fun _=>true) f t=true
  | .mk k s n xs=>by rw [okT,okL_true f xs];simp
theorem okL_true (f:Tm→Option Tm):∀ l:List Tm,okL (fun _=>true) f l=true
  | []=>by rw [okL]
  | t :: r=>by rw [okL,okT_true f t,okL_true f r];rfl
end
set_option maxRecDepth 100000 in
set_option maxHeartbeats 4000000 in
theorem stand_any (bs:List Bn) (w0:World) (B g3:Nat):Tells 227 #[.pointer (some ⟨g3,0,none⟩)] (fB bs) (fun _=>true) w0 B none (QB w0 B g3 bs):=by
  intro b x w hx hb0 hBW hq
  obtain ⟨rfl,hS⟩:=hq
  show Calls Tryz.prog 227 #[x.val,.pointer (some ⟨g3,0,none⟩)] w _
  obtain ⟨t,ax,cx⟩:=x
  have hz1:(w.alloc (.cells #[.int .i64 t.kind,.string t.name,.int .i64 t.n,.slice ax t.args.length cx] 70)).heap.size=w.heap.size + 1:=by simp
  have hB2:Below w.heap.size w ((w.alloc (.cells #[.int .i64 t.kind,.string t.name,.int .i64 t.n,.slice ax t.args.length cx] 70)).alloc (.cells #[.int .i64 0,.string ⟨#[]⟩,.int .i64 0,.slice none 0 0] 70)):=((Below.refl _ _).alloc (Nat.le_refl _) _).alloc (by rw [hz1];omega) _
  obtain ⟨wz,hwz⟩:∃ wz,wz=((w.alloc (.cells #[.int .i64 t.kind,.string t.name,.int .i64 t.n,.slice ax t.args.length cx] 70)).alloc (.cells #[.int .i64 0,.string ⟨#[]⟩,.int .i64 0,.slice none 0 0] 70)):=⟨_,rfl⟩
  have hzs:wz.heap.size=w.heap.size + 2:=by rw [hwz];simp
  have bX:=(box_new w (.int .i64 t.kind) (.string t.name) (.int .i64 t.n) (.slice ax t.args.length cx) 70).below ((Below.refl _ _).alloc (Nat.le_refl _) (.cells #[.int .i64 0,.string ⟨#[]⟩,.int .i64 0,.slice none 0 0] 70)) (by rw [hz1];omega)
  have bR:=box_new (w.alloc (.cells #[.int .i64 t.kind,.string t.name,.int .i64 t.n,.slice ax t.args.length cx] 70)) (.int .i64 0) (.string ⟨#[]⟩) (.int .i64 0) (.slice none 0 0) 70
  rw [hz1] at bR
  rw [← hwz] at bX bR hB2
  have HBZ:=Lib.hid hB2
  have HZS:=Lib.hid hzs
  have HS:=Lib.hid hS
  have HBX:=Lib.hid bX
  have HBR:=Lib.hid bR
  obtain ⟨p0,p1,p2,p3,_,_,_,_⟩:=bX
  have HSZ0:=Lib.hid hB2.size
  have ZERO:=Lib.hid (fun (V:World) (hV:Below wz.heap.size wz V)=>(show w.grownBy ((((V.setCell ⟨w.heap.size + 1,0,none⟩ (.int .i64 0)).setCell ⟨w.heap.size + 1,1,none⟩ (.string ⟨#[]⟩)).setCell ⟨w.heap.size + 1,2,none⟩ (.int .i64 0)).setCell ⟨w.heap.size + 1,3,none⟩ (.slice none 0 0)) none∧QB w0 B g3 bs true ((((V.setCell ⟨w.heap.size + 1,0,none⟩ (.int .i64 0)).setCell ⟨w.heap.size + 1,1,none⟩ (.string ⟨#[]⟩)).setCell ⟨w.heap.size + 1,2,none⟩ (.int .i64 0)).setCell ⟨w.heap.size + 1,3,none⟩ (.slice none 0 0)) from
    ⟨grown_sets (grown_trans (grown_by_below hB2 none) (grown_by_below hV none)) (Nat.le_succ _) _ _ _ _ _ _ _ _,rfl,(hS.below (hB2.mono hBW)).below (bsets (hV.mono (by omega)) (by omega) _ _ _ _ _ _ _ _)⟩))
  have HB2M:=Lib.hid (hB2.mono hBW)
  clear hz1 hB2 bR hS
  simp only [Tv.val] at *
  by_cases hk:t.kind=1
  · have hkd:(t.kind==1)=true:=by rw [hk];rfl
    have hkn:(t.kind != 1)=false:=by rw [hk];rfl
    have HF:=Lib.hid (show fB bs t=getB bs t.name from if_pos hk)
    obtain ⟨u,vs,c3,hg3,hvt,hvo,hvl,hu⟩:=HS.out
    have HVT:=Lib.hid hvt
    have HVO:=Lib.hid hvo
    have hne3:g3 < w.heap.size:=by omega
    have hne4:g3 < w.heap.size + 1:=by omega
    clear hk hvt hvo
    rcases hu with ⟨rfl,rfl⟩ | ⟨blk,cap,rfl,hblk,hbw,hH⟩
    · have HN:=Lib.hid (show getB bs t.name=none by rw [← ofB_get,← HVT.out];rfl)
      have C:=Lib.hid (show Calls Tryz.prog 228 #[.slice none 0 0,.agg #[.string t.name,.int .i64 0,.string ⟨#[]⟩,.int .i64 0,.slice none 0 0],.func (.func 229) #[] #[]] wz _ from find_none t.name (.func (.func 229) #[] #[]) wz)
      go_enter Tryz.func227,Tryz.ntmps227
      go_wp2_with fail
      rw [← hwz]
      clear hwz
      refine C.out.mono ?_;rintro e w1 ⟨rfl,hb1⟩
      have Z:=Lib.hid (ZERO.out w1 hb1)
      have hbR:=HBR.out.below hb1 (by omega)
      have BR8:=Lib.hid (hbR.sets (.int .i64 0) (.string ⟨#[]⟩) (.int .i64 0) (.slice none 0 0))
      obtain ⟨q0,q1,q2,q3,f0,f1,f2,f3⟩:=hbR
      clear hb1 ZERO p0 p1 p2 p3 c3
      go_wp2_with fail
      obtain ⟨q0,q1,q2,q3,f0,f1,f2,f3⟩:=BR8.out
      refine bodyPost_ret (v:=.tuple #[.agg #[.int .i64 0,.string ⟨#[]⟩,.int .i64 0,.slice none 0 0],.bool false]) (by simp [results,Tryz.results227,go_sem,q0,q1,q2,q3]) rfl ?_
      exact ⟨zeroV,by rw [HF.out,HN.out];rfl,by rw [HF.out,HN.out];rfl,zeroV_ok _,Z.out.1,Z.out.2⟩
    · have hHz:HoldsK Bv.cells 5 wz blk 0 vs.toArray:=holdsK_below hH HB2M.out hblk
      have C:=Lib.hid (show Calls Tryz.prog 228 #[.slice (some ⟨blk,0,none⟩) vs.length cap,.agg #[.string t.name,.int .i64 0,.string ⟨#[]⟩,.int .i64 0,.slice none 0 0],.func (.func 229) #[] #[]] wz _ from find_vs blk cap vs wz hHz (by omega) (by rw [HVT.out];exact ofB_rising bs) hvl t.name)
      have HH:=Lib.hid hHz
      clear hHz hH
      go_enter Tryz.func227,Tryz.ntmps227
      go_wp2_with fail
      rw [← hwz]
      clear hwz
      refine C.out.mono ?_;rintro e w1 ⟨hb1,i,⟨rfl,hn⟩ | ⟨hi,his,rfl⟩⟩
      · have HN:=Lib.hid (show getB bs t.name=none by rw [← ofB_get,← HVT.out];exact hn)
        have Z:=Lib.hid (ZERO.out w1 hb1)
        have hbR:=HBR.out.below hb1 (by omega)
        have BR8:=Lib.hid (hbR.sets (.int .i64 0) (.string ⟨#[]⟩) (.int .i64 0) (.slice none 0 0))
        obtain ⟨q0,q1,q2,q3,f0,f1,f2,f3⟩:=hbR
        clear hb1 ZERO p0 p1 p2 p3 c3 hn
        go_wp2_with fail
        obtain ⟨q0,q1,q2,q3,f0,f1,f2,f3⟩:=BR8.out
        refine bodyPost_ret (v:=.tuple #[.agg #[.int .i64 0,.string ⟨#[]⟩,.int .i64 0,.slice none 0 0],.bool false]) (by simp [results,Tryz.results227,go_sem,q0,q1,q2,q3]) rfl ?_
        exact ⟨zeroV,by rw [HF.out,HN.out];rfl,by rw [HF.out,HN.out];rfl,zeroV_ok _,Z.out.1,Z.out.2⟩
      · have hm:(vs[i].s,vs[i].v.t) ∈ ofB bs:=by rw [← HVT.out];exact List.mem_map.2 ⟨vs[i],List.getElem_mem hi,rfl⟩
        have HN:=Lib.hid (show getB bs t.name=some vs[i].v.t by rw [← ofB_get,← his];exact rising_get (ofB_rising bs) hm)
        have HOK:=Lib.hid (HVO.out _ (List.getElem_mem hi)).1
        have hbv:=holdsK_bv (holdsK_below HH.out hb1 (by have:=HSZ0.out;omega)) i (by simpa using hi)
        have hget:vs.toArray[i]! = vs[i]:=by rw [getElem!_pos vs.toArray i (by simpa using hi)];simp
        rw [hget,Nat.zero_add] at hbv
        have hx1:=HB2M.out.trans (hb1.mono (Nat.le_trans hBW HSZ0.out))
        have c31:w1.cell? ⟨g3,0,none⟩=some (.slice (some ⟨blk,0,none⟩) vs.length cap):=(hx1.cell (p:=⟨g3,0,none⟩) hg3).trans c3
        generalize vs[i]=y at hbv HOK HN hm his hget
        obtain ⟨ys,⟨yt,ya,yc⟩⟩:=y
        have hi0:(0:Int)≤(i:Int):=by omega
        have hi1:(i:Int) < (vs.length:Int):=by omega
        have hbR:=HBR.out.below hb1 (by omega)
        simp only at hbv hx1 HOK HN
        obtain ⟨m0,m1,m2,m3,m4⟩:=hbv
        simp only at m0 m1 m2 m3 m4
        have BR8:=Lib.hid (hbR.sets (.int .i64 yt.kind) (.string yt.name) (.int .i64 yt.n) (.slice ya yt.args.length yc))
        obtain ⟨q0,q1,q2,q3,f0,f1,f2,f3⟩:=hbR
        have HX1:=Lib.hid hx1
        have HB1:=Lib.hid hb1
        clear hb1 ZERO p0 p1 p2 p3 c3 hget hm his hx1
        go_wp2_with fail
        obtain ⟨q0,q1,q2,q3,f0,f1,f2,f3⟩:=BR8.out
        refine bodyPost_ret (v:=.tuple #[.agg #[.int .i64 yt.kind,.string yt.name,.int .i64 yt.n,.slice ya yt.args.length yc],.bool true]) (by simp [results,Tryz.results227,go_sem,q0,q1,q2,q3]) rfl ?_
        exact ⟨⟨yt,ya,yc⟩,by rw [HF.out,HN.out];rfl,by rw [HF.out,HN.out];rfl,HOK.out,grown_sets (grown_trans (grown_by_below HBZ.out none) (grown_by_below HB1.out none)) (Nat.le_succ _) _ _ _ _ _ _ _ _,rfl,(HS.out.below HX1.out).below (bsets (Below.refl _ _) (by omega) _ _ _ _ _ _ _ _)⟩
  · have hkd:(t.kind==1)=false:=by rw [beq_eq_false_iff_ne];exact hk
    have hkn:(t.kind != 1)=true:=by rw [bne,hkd];rfl
    have HF:=Lib.hid (show fB bs t=none from if_neg hk)
    have HQZ:=Lib.hid (HS.out.below HB2M.out)
    clear hk ZERO
    go_enter Tryz.func227,Tryz.ntmps227
    go_wp2_with fail
    rw [← hwz]
    obtain ⟨q0,q1,q2,q3,f0,f1,f2,f3⟩:=HBR.out
    refine bodyPost_ret (v:=.tuple #[.agg #[.int .i64 0,.string ⟨#[]⟩,.int .i64 0,.slice none 0 0],.bool false]) (by simp [results,Tryz.results227,go_sem,q0,q1,q2,q3]) rfl ?_
    exact ⟨zeroV,by rw [HF.out];rfl,by rw [HF.out];rfl,zeroV_ok _,grown_by_below HBZ.out none,rfl,HQZ.out⟩
end Go.Proofs.YtjcleokfpohpdaaGreatDoor
namespace Go.Proofs.YtjcleokfpohpdaaGreatDoor
open Go.RowKit Go.Shelf Go.Lib Go.Sort
def PutsAt (w0:World) (B g4:Nat) (bs:List Bn) (W:World):Prop :=
  ∃ g3,W.cell? ⟨g4,0,none⟩=some (.func (.func 227) #[] #[.pointer (some ⟨g3,0,none⟩)])∧g4 < B∧SortedAt w0 B g3 bs W
theorem PutsAt.below {w0:World} {B g4:Nat} {bs:List Bn} {W W':World} (h:PutsAt w0 B g4 bs W) (hb:Below B W W'):PutsAt w0 B g4 bs W':=by
  obtain ⟨g3,h1,h2,h3⟩:=h
  exact ⟨g3,(hb.cell (p:=⟨g4,0,none⟩) h2).trans h1,h2,h3.below hb⟩
set_option maxRecDepth 100000 in
set_option maxHeartbeats 2000000 in
theorem putter_any (v:Value) (bs:List Bn) (w0 w:World) (hv:Bds w0 v bs) (hb0:Reads w0 w) (hlen:bs.length≤1000000) :
    Calls Tryz.prog 220 #[v] w fun e w'=>∃ g4,e=.returned (.func (.func 230) #[] #[.pointer (some ⟨g4,0,none⟩)])∧PutsAt w0 w'.heap.size g4 bs w'∧Below w.heap.size w w':=by
  have C:=Lib.hid ((of_rd v bs w0 w hv hb0 hlen).mono fun _ _ ⟨u,h1,h2,_,h4⟩=>(show ∃ u,_=Ending.returned u∧HoldBd w0 _ w.heap.size u (ofB bs)∧Below w.heap.size w _ from ⟨u,h1,h2,h4⟩))
  obtain ⟨a,c,rfl,_⟩:=hv
  go_enter Tryz.func220,Tryz.ntmps220
  go_wp2_with fail
  refine C.out.mono ?_;rintro e w1 ⟨u,rfl,hu,hb1⟩
  obtain ⟨au,nu,cu,rfl⟩:∃ au nu cu,u=.slice au nu cu:=by
    obtain ⟨vs,_,_,⟨h,_⟩ | ⟨blk,cap,h,_⟩⟩:=hu
    · exact ⟨_,_,_,h⟩
    · exact ⟨_,_,_,h⟩
  have HU:=Lib.hid hu
  have HB1:=Lib.hid hb1
  clear hu hb1 C
  go_wp2_with fail
  go_ret
  have h2:=below_two w1 (.cells #[.slice au nu cu] 230) (.cells #[.func (.func 227) #[] #[.pointer (some ⟨w1.heap.size,0,none⟩)]] 275)
  have hs:((w1.alloc (.cells #[.slice au nu cu] 230)).alloc (.cells #[.func (.func 227) #[] #[.pointer (some ⟨w1.heap.size,0,none⟩)]] 275)).heap.size=w1.heap.size + 2:=by simp
  refine ⟨w1.heap.size + 1,rfl,⟨w1.heap.size,by simp [go_sem],by rw [hs];omega,?_⟩,below_next HB1.out h2⟩
  obtain ⟨vs,hvt,hvo,hh⟩:=HU.out
  have hvl:vs.length≤1000000:=by
    have:=congrArg List.length hvt
    rw [List.length_map] at this
    have:=ofB_length bs
    omega
  refine ⟨.slice au nu cu,vs,by simp [go_sem],by rw [hs];omega,hvt,hvo,hvl,?_⟩
  rcases hh with hh | ⟨blk,cap,he,_,hlt,_,_,hH⟩
  · exact .inl hh
  · exact .inr ⟨blk,cap,he,by rw [hs];omega,by rw [hs];omega,holdsK_below hH h2 hlt⟩
set_option maxRecDepth 100000 in
set_option maxHeartbeats 2000000 in
theorem put_any (bs:List Bn) (x:Tv) (w0 w:World) (B g4:Nat) (hx:x.ok w0) (hp:x.t.parts≤2300000000000) (hb0:Reads w0 w) (hB:B≤w.heap.size) (hP:PutsAt w0 B g4 bs w) :
    Calls Tryz.prog 230 #[x.val,.pointer (some ⟨g4,0,none⟩)] w (ApPost (appT bs x.t) w0 w):=by
  have eg:∀ args w,(callFunc 227 args).run Tryz.prog w=.ok (.enter 227 args) w:=enters_of Tryz.func227 (by kernel_rfl) rfl
  obtain ⟨g3,c4,hg4,hS⟩:=hP
  obtain ⟨t,ax,cx⟩:=x
  have h2:=below_two w (.cells #[.int .i64 t.kind,.string t.name,.int .i64 t.n,.slice ax t.args.length cx] 70) (.cells #[.int .i64 0,.string ⟨#[]⟩,.int .i64 0,.slice none 0 0] 70)
  have hR:=alloc_two w (.cells #[.int .i64 t.kind,.string t.name,.int .i64 t.n,.slice ax t.args.length cx] 70) (.int .i64 0) (.string ⟨#[]⟩) (.int .i64 0) (.slice none 0 0) 70
  obtain ⟨wz,hwz⟩:∃ wz,wz=((w.alloc (.cells #[.int .i64 t.kind,.string t.name,.int .i64 t.n,.slice ax t.args.length cx] 70)).alloc (.cells #[.int .i64 0,.string ⟨#[]⟩,.int .i64 0,.slice none 0 0] 70)):=⟨_,rfl⟩
  have hzs:wz.heap.size=w.heap.size + 2:=by rw [hwz];simp
  rw [← hwz] at h2 hR
  have C:=Lib.hid (rep_tm 227 #[.pointer (some ⟨g3,0,none⟩)] eg (fB bs) (fun _=>true) w0 B none (QB w0 B g3 bs) (fun k hk=>by cases hk) (fun b W W' h hb=>⟨h.1,h.2.below hb⟩) (stand_any bs w0 B g3) t.parts true ⟨t,ax,cx⟩ wz (Nat.le_refl _) hp hx (hb0.trans (reads_below h2)) (by omega) ⟨rfl,hS.below (h2.mono hB)⟩)
  have HB2:=Lib.hid h2
  have HR:=Lib.hid hR
  have HZS:=Lib.hid hzs
  have hg4w:g4 < w.heap.size:=by omega
  have hg4w2:g4 < w.heap.size + 1:=by omega
  simp only [Tv.val] at *
  clear hS hx hb0 eg h2 hR hzs
  go_enter Tryz.func230,Tryz.ntmps230
  go_wp2_with fail
  rw [← hwz]
  clear hwz
  refine C.out.mono ?_;rintro e w1 ⟨⟨vt,vA,vC⟩,rfl,hzt,hzf,hg1,_⟩
  simp only [Tv.val]
  have hsz1:=hg1.size
  have hzw:=HZS.out
  have hr1:w.heap.size + 1 < w1.heap.size:=by omega
  have HZT:=Lib.hid (show vt=appT bs t by rw [← appT_rep];exact hzt)
  have hR1:=HR.out.frm hg1 (by omega) (fun k hk=>by cases hk)
  have HBW:=Lib.hid (HB2.out.grown hg1 HB2.out.size (fun k hk=>by cases hk))
  have OUT:=Lib.hid (fun (O:Obj) (u0 u1 u2 u3:Value)=>(show Below w.heap.size w (((((w1.setCell ⟨w.heap.size + 1,0,none⟩ u0).setCell ⟨w.heap.size + 1,1,none⟩ u1).setCell ⟨w.heap.size + 1,2,none⟩ u2).setCell ⟨w.heap.size + 1,3,none⟩ u3).alloc O)∧Fresh w0 w (((((w1.setCell ⟨w.heap.size + 1,0,none⟩ u0).setCell ⟨w.heap.size + 1,1,none⟩ u1).setCell ⟨w.heap.size + 1,2,none⟩ u2).setCell ⟨w.heap.size + 1,3,none⟩ u3).alloc O) ⟨vt,vA,vC⟩ from
    ⟨(bsets HBW.out (by omega) _ _ _ _ _ _ _ _).alloc (by simp;omega) _,hzf.widen HB2.out.size (by simp) (fun b h1 h2=>by
      rw [((Below.refl _ _).alloc (Nat.le_refl _) O).block b (by simpa using h2),Below.heap_setCell _ _ _ _ (show b≠w.heap.size + 1 by omega),Below.heap_setCell _ _ _ _ (show b≠w.heap.size + 1 by omega),Below.heap_setCell _ _ _ _ (show b≠w.heap.size + 1 by omega),Below.heap_setCell _ _ _ _ (show b≠w.heap.size + 1 by omega)])⟩))
  have HA:=Lib.hid (hR1.sets (.int .i64 vt.kind) (.string vt.name) (.int .i64 vt.n) (.slice vA vt.args.length vC))
  obtain ⟨q0,q1,q2,q3,f0,f1,f2,f3⟩:=hR1
  clear hzt hzf hg1 hsz1 hzw
  go_wp2_with fail
  (try simp only [Nat.add_assoc,Nat.reduceAdd])
  obtain ⟨q0,q1,q2,q3,f0,f1,f2,f3⟩:=HA.out.below ((Below.refl _ _).alloc (Nat.le_refl _) (.cells #[.int .i64 vt.kind,.string vt.name,.int .i64 vt.n,.slice vA vt.args.length vC] 70)) (by simpa using hr1)
  refine bodyPost_ret (v:=.agg #[.int .i64 vt.kind,.string vt.name,.int .i64 vt.n,.slice vA vt.args.length vC]) (by simp [results,Tryz.results230,go_sem,q0,q1,q2,q3]) rfl ?_
  exact ⟨⟨vt,vA,vC⟩,rfl,HZT.out,(OUT.out _ _ _ _ _).2,(OUT.out _ _ _ _ _).1⟩
end Go.Proofs.YtjcleokfpohpdaaGreatDoor
namespace Go.Proofs.YtjcleokfpohpdaaGreatDoor
open Go.RowKit Go.Shelf Go.Lib Go.Sort
set_option maxRecDepth 100000 in
set_option maxHeartbeats 4000000 in
theorem apply_rd (v:Value) (bs:List Bn) (x:Tv) (w0 w:World) (hv:Bds w0 v bs) (hlen:bs.length≤1000000) (hx:x.ok w0) (hp:x.t.parts≤2300000000000) (hb0:Reads w0 w) :
    Calls Tryz.prog 214 #[v,x.val] w (ApPost (appT bs x.t) w0 w):=by
  obtain ⟨t,ax,cx⟩:=x
  have h2:=below_two w (.cells #[.int .i64 t.kind,.string t.name,.int .i64 t.n,.slice ax t.args.length cx] 70) (.cells #[.int .i64 0,.string ⟨#[]⟩,.int .i64 0,.slice none 0 0] 70)
  have hR:=alloc_two w (.cells #[.int .i64 t.kind,.string t.name,.int .i64 t.n,.slice ax t.args.length cx] 70) (.int .i64 0) (.string ⟨#[]⟩) (.int .i64 0) (.slice none 0 0) 70
  have hX:=(box_new w (.int .i64 t.kind) (.string t.name) (.int .i64 t.n) (.slice ax t.args.length cx) 70).below ((Below.refl _ _).alloc (Nat.le_refl _) (.cells #[.int .i64 0,.string ⟨#[]⟩,.int .i64 0,.slice none 0 0] 70)) (by simp)
  obtain ⟨wz,hwz⟩:∃ wz,wz=((w.alloc (.cells #[.int .i64 t.kind,.string t.name,.int .i64 t.n,.slice ax t.args.length cx] 70)).alloc (.cells #[.int .i64 0,.string ⟨#[]⟩,.int .i64 0,.slice none 0 0] 70)):=⟨_,rfl⟩
  have hzs:wz.heap.size=w.heap.size + 2:=by rw [hwz];simp
  rw [← hwz] at h2 hR hX
  have hd:Below wz.heap.size wz wz.drew:=(Below.refl _ _).drew
  have hb0z:=hb0.trans (reads_below (h2.trans (hd.mono h2.size)))
  have PU:=Lib.hid ((putter_any v bs w0 wz.drew hv hb0z hlen).mono (fun e w3 ⟨g4,he,hP,hb⟩=>(show ∃ g4,e=Ending.returned (.func (.func 230) #[] #[.pointer (some ⟨g4,0,none⟩)])∧PutsAt w0 w3.heap.size g4 bs w3∧Below wz.heap.size wz w3 from ⟨g4,he,hP,hd.trans hb⟩)))
  have PT:=Lib.hid (fun (w3:World) (g4:Nat) (hP:PutsAt w0 w3.heap.size g4 bs w3) (hb:Below wz.heap.size wz w3)=>(put_any bs ⟨t,ax,cx⟩ w0 w3 w3.heap.size g4 hx hp (hb0.trans (reads_below (h2.trans (hb.mono h2.size)))) (Nat.le_refl _) hP).mono (fun e w4 ⟨z,he,h1,h3,h4⟩=>(show ∃ (ty:Tm) (aY:Option Addr) (cY:Nat),e=Ending.returned (.agg #[.int .i64 ty.kind,.string ty.name,.int .i64 ty.n,.slice aY ty.args.length cY])∧ty=appT bs t∧Fresh w0 w3 w4 ⟨ty,aY,cY⟩∧Below w3.heap.size w3 w4 from ⟨z.t,z.a,z.c,he,h1,h3,h4⟩)))
  have HBX:=Lib.hid (fun (V:World) (h:Below wz.heap.size wz V)=>hX.below h (by omega))
  have HBR:=Lib.hid (fun (V:World) (h:Below wz.heap.size wz V)=>hR.below h (by omega))
  have HB2:=Lib.hid h2
  have HZS:=Lib.hid hzs
  obtain ⟨p0,p1,p2,p3,_,_,_,_⟩:=hX
  obtain ⟨a,c,rfl,_⟩:=hv
  simp only [Tv.val] at *
  clear h2 hR hzs hd hb0z hx hb0 hp
  go_enter Tryz.func214,Tryz.ntmps214
  go_wp2_with fail
  rw [← hwz]
  clear hwz
  go_region_with (first
    | (go_at_call 220;refine PU.out.mono ?_;rintro e w3 ⟨g4,rfl,hP,hb3⟩;have HP:=Lib.hid hP;have HB3:=Lib.hid hb3;clear hP hb3;obtain ⟨x0,x1,x2,x3,_,_,_,_⟩:=HBX.out w3 HB3.out)
    | (go_at_call 230;refine (PT.out _ _ HP.out HB3.out).mono ?_;rintro e w4 ⟨ty,aY,cY,rfl,hyt,hyf,hb4⟩;have HY:=Lib.hid (And.intro hyt (And.intro hyf hb4));have HB4:=Lib.hid (below_next HB3.out hb4);clear hyt hyf hb4;obtain ⟨b0,b1,b2,b3,g0,g1,g2,g3⟩:=HBR.out w4 HB4.out))
  all_goals
    have hA:=(Box.mk b0 b1 b2 b3 g0 g1 g2 g3).sets (.int .i64 ty.kind) (.string ty.name) (.int .i64 ty.n) (.slice aY ty.args.length cY)
    have HA:=Lib.hid hA
    clear hA b0 b1 b2 b3 g0 g1 g2 g3
    go_wp2_with fail
    obtain ⟨q0,q1,q2,q3,f0,f1,f2,f3⟩:=HA.out
    refine bodyPost_ret (v:=.agg #[.int .i64 ty.kind,.string ty.name,.int .i64 ty.n,.slice aY ty.args.length cY]) (by simp [results,Tryz.results214,go_sem,q0,q1,q2,q3]) rfl ?_
    have hz:=HZS.out
    have h3:=HB3.out.size
    exact ⟨⟨ty,aY,cY⟩,rfl,HY.out.1,HY.out.2.1.widen (Nat.le_trans HB2.out.size h3) (by simp) (fun b h1 h2=>by
      rw [Below.heap_setCell _ _ _ _ (show b≠w.heap.size + 1 by omega),Below.heap_setCell _ _ _ _ (show b≠w.heap.size + 1 by omega),Below.heap_setCell _ _ _ _ (show b≠w.heap.size + 1 by omega),Below.heap_setCell _ _ _ _ (show b≠w.heap.size + 1 by omega)]),below_sets (HB2.out.trans (HB4.out.mono HB2.out.size)) (Nat.le_succ _) _ _ _ _⟩
theorem apply_bd (v:Value) (bs:List Bn) (x:Tv) (w0 w:World) (hv:Bds w0 v bs) (hlen:bs.length≤1000000) (hx:x.ok w0) (hp:x.t.parts≤2300000000000) (hb0:Below w0.heap.size w0 w) :
    Calls Tryz.prog 214 #[v,x.val] w (ApPost (appT bs x.t) w0 w):=apply_rd v bs x w0 w hv hlen hx hp (reads_below hb0)
end Go.Proofs.YtjcleokfpohpdaaGreatDoor
namespace Go.Proofs.YtjcleokfpohpdaaGreatDoor
open Go.RowKit
theorem laidMet_head {P:Program} {x:String × DataW Unit} {r:List (String × DataW Unit)} {w:World} (h:laidMet P (x :: r) w):laidMet P [x] w:=by
  obtain ⟨ps,hv,hnd,hrows⟩:=h
  obtain ⟨n,d⟩:=x
  obtain ⟨g,t,cs,fuel,p,q,h1,h2,h3,h4,hq,rfl⟩:=hv
  refine ⟨_,⟨g,t,cs,fuel,p,[],h1,h2,h3,h4,rfl,rfl⟩,?_,?_⟩
  · rw [List.append_nil]
    exact List.Nodup.sublist (List.sublist_append_left _ _) hnd
  · intro b off hm
    rw [List.append_nil] at hm
    exact hrows b off (List.mem_append_left _ hm)
theorem laidMet_one {P:Program} {x:String × DataW Unit} {w:World}:∀ {l:List (String × DataW Unit)},laidMet P l w→x ∈ l→laidMet P [x] w
  | [],_,hm=>by cases hm
  | y :: r,h,hm=>by
    rcases List.mem_cons.1 hm with rfl | hm
    · exact laidMet_head h
    · exact laidMet_one h.tail hm
theorem gPow : Tryz.prog.globalNamed "internal/strconv.uint64pow10" = some 2 := by kernel_rfl
theorem gPowType:(Tryz.prog.globals[2]?).map (·.type)=some 299:=by kernel_rfl
theorem cellsPow : Tryz.prog.cellsOf 299=20:=by kernel_rfl
theorem cellsU64 : Tryz.prog.cellsOf 251=1:=by kernel_rfl
theorem lt_of_var {w:World} {n:String} {g:Nat} {cs:Array Value} (hg : Tryz.prog.globalNamed n=some g) (h:w.var? Tryz.prog n=some cs):g < w.heap.size:=by
  unfold World.var? at h
  rw [hg] at h
  simp only [Option.bind_some] at h
  rcases Nat.lt_or_ge g w.heap.size with h' | h'
  · exact h'
  · simp [Array.getElem?_eq_none h'] at h
theorem below_grow (w:World) (k:Nat) (os:Array Obj):Below w.heap.size w (Sort.grow (w.drewN k) os) :=
  ⟨rfl,rfl,rfl,by show w.heap.size≤(w.heap ++ os).size;simp,fun i hi=>by show (w.heap ++ os)[i]? = _;rw [Array.getElem?_append_left hi]⟩
end Go.Proofs.YtjcleokfpohpdaaGreatDoor
namespace Go.Proofs.YtjcleokfpohpdaaGreatDoor
open Go.RowKit
structure Pow (w:World):Prop where
  pow : Lib.TabIs Tryz.prog w "internal/strconv.uint64pow10" .u64 Lib.pow10Tab
  size:2 < w.heap.size
theorem Pow.below {w w':World} (h:Pow w) (hb:Below w.heap.size w w'):Pow w' where
  pow:=by
    have h1:=h.pow
    unfold Lib.TabIs World.var? at h1 ⊢
    rw [gPow] at h1 ⊢
    simp only [Option.bind_some] at h1 ⊢
    rw [hb.block _ h.size]
    exact h1
  size:=Nat.lt_of_lt_of_le h.size hb.size
theorem pow_of {l:List (String × DataW Unit)} {w:World} (h:laidMetH Tryz.prog l w) (hp:(l.all fun x=>x.2.handleName?.isNone)=true)
    (h1 : ("internal/strconv.uint64pow10", Rows.laid_internal_strconv_uint64pow10) ∈ l) : Pow w := by
  rw [MakeChecks.laidMetH_plain _ _ _ hp] at h
  have a1 : Lib.TabIs Tryz.prog w "internal/strconv.uint64pow10" .u64 Lib.pow10Tab :=
    Lib.tabIs_of_head (rest:=[]) gPow gPowType Tryz.underlying299 Tryz.underlying251 cellsU64 cellsPow (laidMet_one h h1)
  exact ⟨a1,lt_of_var gPow a1⟩
end Go.Proofs.YtjcleokfpohpdaaGreatDoor
namespace Go.Proofs.YtjcleokfpohpdaaGreatDoor
open Go.RowKit
set_option maxHeartbeats 400000 in
theorem pdigits_any (n:Int) (h0 : -9223372036854775808≤n) (h1:n≤9223372036854775807) (w:World) (hT:Pow w) :
    Calls Tryz.prog 200 #[.int .i64 n] w fun e w'=>e=.returned (.string ⟨(Lib.itoa n).toArray⟩)∧Below w.heap.size w w':=by
  have c:=Tryz.strconv_Itoa n h0 h1 w hT.pow
  have C:=Lib.hid c
  clear c hT
  go_enter Tryz.func200,Tryz.ntmps200
  go_wp2_with (go_at_call 213;refine C.out.mono ?_;rintro e w' ⟨rfl,k,os,rfl⟩)
  go_ret
  exact ⟨rfl,below_grow _ _ _⟩
end Go.Proofs.YtjcleokfpohpdaaGreatDoor
namespace Go.Proofs.YtjcleokfpohpdaaGreatDoor
open Go.RowKit
def canBv (i:Nat) (v:ByteArray):Bv:=⟨v,⟨.mk 1 ⟨(88 :: Lib.itoa i).toArray⟩ 0 [],none,0⟩⟩
def canBvs:Nat→List ByteArray→List Bv
  | _,[]=>[]
  | i,v :: r=>canBv i v :: canBvs (i + 1) r
theorem canBvs_bn:∀ (i:Nat) (l:List ByteArray),(canBvs i l).map Bv.bn=canonB i l
  | _,[]=>rfl
  | i,v :: r=>by rw [canBvs,canonB,List.map_cons,canBvs_bn (i + 1) r];rfl
theorem canBvs_append:∀ (i:Nat) (l:List ByteArray) (v:ByteArray),canBvs i (l ++ [v])=canBvs i l ++ [canBv (i + l.length) v]
  | i,[],v=>rfl
  | i,u :: r,v=>by
    rw [List.cons_append,canBvs,canBvs,canBvs_append (i + 1) r v,List.cons_append,List.length_cons,show i + 1 + r.length=i + (r.length + 1) by omega]
theorem canBvs_length:∀ (i:Nat) (l:List ByteArray),(canBvs i l).length=l.length
  | _,[]=>rfl
  | i,_ :: r=>by rw [canBvs,List.length_cons,List.length_cons,canBvs_length (i + 1) r]
theorem itoa_small (i:Nat) (h:i≤1000000):(Lib.itoa i).length≤42:=by
  have:=Lib.itoa_length_le (i:Int) (by omega) (by omega)
  omega
theorem canBv_ok (i:Nat) (v:ByteArray) (hi:i≤1000000) (W:World):(canBv i v).v.ok W:=by
  have:=itoa_small i hi
  exact ⟨⟨by simp [Tm.kind,canBv],by simp [Tm.kind,canBv],by simp [Tm.n,canBv],by simp [Tm.n,canBv],by simp [Tm.name,canBv,ByteArray.size];omega⟩,⟨by simp [Tm.args,canBv],.inl rfl⟩⟩
theorem canBvs_ok (W:World):∀ (i:Nat) (l:List ByteArray),i + l.length≤1000000→(∀ v ∈ l,v.size≤9223372036854775807)→∀ x ∈ canBvs i l,x.v.ok W∧x.s.size≤9223372036854775807
  | _,[],_,_,x,hx=>by cases hx
  | i,v :: r,hl,hs,x,hx=>by
    rw [List.length_cons] at hl
    rw [canBvs] at hx
    rcases List.mem_cons.1 hx with rfl | hx
    · exact ⟨canBv_ok i v (by omega) W,hs v (List.mem_cons_self ..)⟩
    · exact canBvs_ok W (i + 1) r (by omega) (fun u hu=>hs u (List.mem_cons_of_mem _ hu)) x hx
def ShortN (l:List ByteArray):Prop:=∀ v ∈ l,v.size≤9223372036854775807
theorem addN_len (acc:List ByteArray) (v:ByteArray):(addN acc v).length≤acc.length + 1:=by unfold addN;split<;>simp
theorem foldN_len:∀ (l acc:List ByteArray),(l.foldl addN acc).length≤acc.length + l.length
  | [],acc=>by simp
  | v :: r,acc=>by
    rw [List.foldl_cons,List.length_cons]
    have:=foldN_len r (addN acc v)
    have:=addN_len acc v
    omega
theorem vars_parts (t:Tm):t.vars.length≤t.parts:=by
  have h1:t.vars.length≤t.all.length:=varsL_len _
  have h2:t.all.length=t.parts:=all_length t
  omega
end Go.Proofs.YtjcleokfpohpdaaGreatDoor
