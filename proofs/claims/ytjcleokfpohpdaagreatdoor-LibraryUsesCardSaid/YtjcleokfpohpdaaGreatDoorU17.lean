/-
  All parts of a term, one after the other, as long as they are asked for: the program's All, for any term in memory: what the range over it tells.
  A box of four cells that a range over a function leaves as it was. No function of the program.
  A box of four cells that a range over a function leaves as it was (BoxOw), with the range over All. No function of the program.
  The set that goes with a row of names, as data. No function of the program.
  What variables a term has, each once, by the program's Vars: a range over All that keeps a set and a row.
-/
import Derived.RangeFuncNested
import Derived.RangeFuncBound
import Derived.RangeFuncCalls
import Derived.RangeFuncLeaves
import Derived.Shelf.Abstract
import Derived.Shelf.RegionOpen
import Derived.WalkKit
import Derived.OwnWalkIn
import Derived.TacticsInMore
import Derived.LoopNIn
import Derived.LoopIn
import Derived.Test.YtjcleokfpohpdaaGreatDoorU01
import Derived.Maps.OwnSet
import Derived.Maps.Views
import Derived.StringKeys
import Derived.Test.YtjcleokfpohpdaaGreatDoorU02
import Derived.Maps.OwnIn
import Derived.Maps.AppendAt
namespace Go.Proofs.YtjcleokfpohpdaaGreatDoor
open Go.RowKit Go.Shelf
attribute [local go_sem] Oper.semAt_some
theorem room_of_none {F:Fence} (hd:F.depth=none) (k:Nat):F.room k:=fun d h=>by rw [hd] at h;cases h
theorem round_anyDepth {F:Fence} (hd:F.depth=none) {m m':Nat} {P:Program} {l:Nat} {f:FuncId} {tmps:Array Value} {assign body:Code} {w:World} {R:Ending→World→Prop}
    (h:RoundIn F m P l f tmps assign body w R):RoundIn F m' P l f tmps assign body w R:=⟨h.1,fun c cs _=>h.2 c cs (room_of_none hd _)⟩
theorem yield_anyDepth {F:Fence} (hd:F.depth=none) {m:Nat} (m':Nat) {P:Program} {l:Nat} {args:Array Value} {W:World} {R:Ending→World→Prop} (h:YieldAt F m P l args W R):YieldAt F m' P l args W R:=by
  obtain ⟨fn,tmps,assign,body,hy,hR⟩:=h
  exact ⟨fn,tmps,assign,body,hy,round_anyDepth hd hR⟩
abbrev TvIn (w0:World):={ x:Tv // x.ok w0 }
def tms {w0:World} (l:List (TvIn w0)):List Tm:=l.map fun x=>x.1.t
theorem tms_append {w0:World} (a b:List (TvIn w0)):tms (a ++ b)=tms a ++ tms b:=List.map_append
theorem tms_length {w0:World} (a:List (TvIn w0)):(tms a).length=a.length:=List.length_map ..
theorem prefix_deep {t:Tm} {xs:List Tm} {j:Nat} {k:Int} {s:ByteArray} {n:Int} (ht:t=.mk k s n xs) (hj:j < xs.length) {q:List Tm} (hq:q <+: xs[j].all):(t :: (allL (xs.take j) ++ q)) <+: t.all:=by
  subst ht
  rw [Tm.all,List.cons_prefix_cons]
  refine ⟨rfl,?_⟩
  obtain ⟨r,hr⟩:=hq
  refine ⟨r ++ allL (xs.drop (j + 1)),?_⟩
  rw [List.append_assoc,← List.append_assoc q,hr,← List.append_assoc,← allL_take hj,← allL_append,List.take_append_drop]
structure KeepsT (n₀:Nat) (W W':World):Prop where
  below:Below n₀ W W'
  same:∀ (k:Nat) (c:Array Value) (f:Nat × Nat),c.size=4→W.heap[k]? = some (Obj.cells c 70 f)→W'.heap[k]? = some (Obj.cells c 70 f)
theorem KeepsT.refl (n₀:Nat) (W:World):KeepsT n₀ W W:=⟨Below.refl _ _,fun _ _ _ _ h=>h⟩
theorem KeepsT.trans {n₀:Nat} {A B C:World} (h:KeepsT n₀ A B) (k:KeepsT n₀ B C):KeepsT n₀ A C:=⟨h.below.trans k.below,fun i c f h4 hi=>k.same i c f h4 (h.same i c f h4 hi)⟩
theorem KeepsT.alloc {n₀:Nat} {A B:World} (h:KeepsT n₀ A B) (hn:n₀≤B.heap.size) (o:Obj):KeepsT n₀ A (B.alloc o) :=
  ⟨h.below.alloc hn o,fun k c f h4 hk=>by
    have:=h.same k c f h4 hk
    rw [Below.heap_alloc _ _ _ (Array.getElem?_eq_some_iff.1 this).1];exact this⟩
theorem KeepsT.grown {n₀:Nat} {A B C:World} (h:KeepsT n₀ A B) {row:Option Nat} (hg:B.grownBy C row) (hn:n₀≤B.heap.size) (hr:∀ k,row=some k→n₀≤k∧∀ c f,B.heap[k]? ≠ some (Obj.cells c 70 f)):KeepsT n₀ A C :=
  ⟨h.below.grown hg hn (fun k e=>(hr k e).1),fun k c f h4 hk=>by
    have:=h.same k c f h4 hk
    rw [hg.block k (Array.getElem?_eq_some_iff.1 this).1 (fun e=>(hr k e.symm).2 c f this)];exact this⟩
theorem KeepsT.setBox {n₀:Nat} {A W:World} (h:KeepsT n₀ A W) {B:Nat} {t:TypeId} {v:Value} (hb:Boxed W B t v) (ht:t≠70) (hB:n₀≤B) (u:Value):KeepsT n₀ A (W.setCell ⟨B,0,none⟩ u) :=
  ⟨h.below.setCell (p:=⟨B,0,none⟩) hB u,fun k c f h4 hk=>by
    have h1:=h.same k c f h4 hk
    have h2:W.heap[B]? = some (Obj.cells #[v] t (0,0)):=hb
    rw [Below.heap_setCell _ _ _ _ (fun e=>by
      subst e
      rw [h2] at h1
      injection h1 with h1
      injection h1 with _ h1 _
      exact ht h1)]
    exact h1⟩
theorem keepsT_t {n₀:Nat} {A B C:World} (h:KeepsT n₀ A B) (k:KeepsT n₀ B C):KeepsT n₀ A C:=h.trans k
theorem keepsT_b {n₀:Nat} {w:World} (hn:n₀≤w.heap.size) (W:World) (l:Nat) (o o':Obj) (hl:w.heap.size≤l) (h:W.heap[l]? = some o) (hc:o.isCells=false) (_:o.isWalk=false):KeepsT n₀ W (W.putObj l o') :=
  (KeepsT.refl n₀ W).grown (grownBy_putObj' W l o') (by have:=(Array.getElem?_eq_some_iff.1 h).1;omega) (fun k e=>by
    cases e
    refine ⟨by omega,fun c f e=>?_⟩
    rw [h] at e
    injection e with e
    subst e
    cases hc)
theorem KeepsT.box {n₀:Nat} {W W':World} {x0 x1 x2 x3:Value} (h:KeepsT n₀ (W.alloc (.cells #[x0,x1,x2,x3] 70)) W'):Box W' W.heap.size x0 x1 x2 x3:=by
  have h1:=h.same W.heap.size #[x0,x1,x2,x3] (0,0) rfl (World.alloc_heap_new W _)
  constructor<;>simp [World.cell?,World.frozen?,h1]
def TellPost (w0:World) (J Jx:List (TvIn w0)→World→Prop) (pre:List (TvIn w0)) (t:Tm) (W:World) (e:Ending) (W':World):Prop :=
  (e=.returned (.bool true)∧∃ ys:List (TvIn w0),tms ys=t.all∧J (pre ++ ys) W'∧KeepsT w0.heap.size W W')∨(e=.returned (.bool false)∧∃ ys:List (TvIn w0),tms ys <+: t.all∧Jx (pre ++ ys) W')
set_option maxRecDepth 100000 in
set_option maxHeartbeats 2000000 in
theorem tell_in (F:Fence) (hd:F.depth=none) (hF:F.fn 207) (hro:F.round=none) (w0:World) (l N:Nat) (J Jx:List (TvIn w0)→World→Prop)
    (hJ:∀ pre W o,J pre W→J pre (W.alloc o))
    (hY:∀ m pre (x:TvIn w0) W,J pre W→pre.length < N→YieldAt F m Tryz.prog l #[x.1.val] W fun e W' =>
      (e=.returned (.bool true)∧J (pre ++ [x]) W'∧KeepsT w0.heap.size W W')∨(e=.returned (.bool false)∧Jx (pre ++ [x]) W')) (m:Nat) :
    ∀ (n:Nat) (x:TvIn w0) (pre:List (TvIn w0)) (W:World),x.1.t.parts≤m→Below w0.heap.size w0 W→J pre W→pre.length + x.1.t.parts≤N →
      CallsIn F n Tryz.prog 207 #[x.1.val,.func (.yield l) #[] #[]] W (TellPost w0 J Jx pre x.1.t W):=by
  induction m with
  | zero=>intro n x pre W h;have:=parts_pos x.1.t;omega
  | succ m ih =>
    intro n x pre W hm hB hJ0 hN
    have hdd:∀ k:Nat,(F.depth.isSome=true→1≤k):=fun k h=>by rw [hd] at h;cases h
    obtain ⟨⟨⟨k,s,z,xs⟩,a,c⟩,hx⟩:=x
    have hxk:=hx
    obtain ⟨_,hxl,hxr⟩:=hxk
    have hpe:(Tm.mk k s z xs).parts=partsL xs + 1:=parts_eq _
    simp only [Tm.args] at hxl hxr hm hN ⊢
    have hpl:∀ j (h:j < xs.length),xs[j].parts≤m:=fun j h=>by
      have:=parts_arg (.mk k s z xs) (j:=j) h
      have e:(Tm.mk k s z xs).args[j]=xs[j]:=rfl
      rw [e] at this;omega
    have hy1:=hY (n - 1) pre ⟨⟨.mk k s z xs,a,c⟩,hx⟩ (W.alloc (.cells #[.int .i64 k,.string s,.int .i64 z,.slice a xs.length c] 70)) (hJ _ _ _ hJ0) (by omega)
    simp only [Tv.val,Tm.kind,Tm.name,Tm.n,Tm.args] at hy1 ⊢
    have hBa:KeepsT w0.heap.size W (W.alloc (.cells #[.int .i64 k,.string s,.int .i64 z,.slice a xs.length c] 70)):=(KeepsT.refl _ _).alloc hB.size _
    have IH:=Lib.hid ih
    have HY:=Lib.hid hY
    have HJ:=Lib.hid hJ
    have HP:=Lib.hid hpl
    have HN:=Lib.hid (show pre.length + (partsL xs + 1)≤N by omega)
    obtain ⟨x,hxx⟩:∃ x:TvIn w0,x=⟨⟨.mk k s z xs,a,c⟩,hx⟩:=⟨_,rfl⟩
    have hxt:x.1.t=.mk k s z xs:=by rw [hxx]
    have HT:=Lib.hid hxt
    rw [← hxx] at hy1
    clear ih hY hJ hpl hm hN hpe hxx hxt
    refine callsIn_of_wp Tryz.func207 rfl hF ?_ hro
    simp only [Tryz.ntmps207,List.size_toArray,List.length_cons,List.length_nil,Nat.reduceAdd,Nat.reduceSub,Array.replicate_succ,Array.replicate_zero,List.push_toArray,List.append_toArray,List.nil_append,List.cons_append]
    obtain ⟨fn,tmps,assign,body,hy,hR⟩:=hy1
    gi_wp2_with fail
    (try refine ⟨hdd _,?_⟩)
    refine hR.mono ?_;clear hR hy;rintro e W2 (⟨rfl,hJ2,hk2⟩ | ⟨rfl,hx2⟩)
    · obtain ⟨_,_,_,b3,_,_,_,_⟩:=hk2.box
      have hK:=hBa.trans hk2
      have hB2:Below w0.heap.size w0 W2:=hB.trans hK.below
      clear hk2 hBa
      rcases hxr with rfl | ⟨b,off,rfl,hlt,hr⟩
      · gi_wp2_with fail
        refine wpIn_loop_rounds 1 ?_;rw [roundsIn_succ]
        gi_wp2_with fail
        go_ret
        exact .inl ⟨rfl,[x],by show [x.1.t]=_;rw [HT.out];rfl,hJ2,hK⟩
      have HR:=Lib.hid hr
      clear hr
      gi_wp2_with fail
      gi_loopw [14] (fun i wr=>∃ (j:Nat) (ys:List (TvIn w0)),j≤xs.length∧i=.int .i64 j∧tms ys=x.1.t :: allL (xs.take j)∧J (pre ++ ys) wr∧KeepsT w0.heap.size W wr) (fun i _=>xs.length - (intOf i).toNat)
      case atStart=>exact ⟨0,[x],Nat.zero_le _,rfl,by rw [List.take_zero,allL];rfl,hJ2,hK⟩
      case round =>
        obtain ⟨j,ys,hj,rfl,hys,hJs,hKs⟩:=hrel
        have hBr:=hB.trans hKs.below
        have hbs:=hBr.size
        by_cases hjl:j < xs.length
        · have hil:(j:Int) < (xs.length:Int):=by omega
          obtain ⟨u,hu,huk,hat⟩:=tmAt_tv (rowAt_get HR.out hjl)
          obtain ⟨d0,d1,d2,d3⟩:=hat.below hBr
          have hKa:=hKs.alloc hbs (.cells #[.int .i64 u.t.kind,.string u.t.name,.int .i64 u.t.n,.slice u.a u.t.args.length u.c] 70)
          have hlen:ys.length=1 + partsL (xs.take j):=by
            have:=congrArg List.length hys
            rw [tms_length,List.length_cons,allL_length] at this;omega
          have hfit:partsL (xs.take j) + xs[j].parts≤partsL xs:=by
            rw [← partsL_take xs hjl]
            have e:=partsL_append (xs.take (j + 1)) (xs.drop (j + 1))
            rw [List.take_append_drop] at e;omega
          have C:=Lib.hid (IH.out (n - 1) ⟨u,huk⟩ (pre ++ ys) (wr.alloc (.cells #[.int .i64 u.t.kind,.string u.t.name,.int .i64 u.t.n,.slice u.a u.t.args.length u.c] 70)) (by rw [hu];exact HP.out j hjl) (hB.trans hKa.below) (HJ.out _ _ _ hJs) (by have:=HN.out;rw [hu,List.length_append];omega))
          simp only [Tv.val] at C
          have HU:=Lib.hid hu
          have HYS:=Lib.hid hys
          clear hu huk hat hys hlen hfit
          gi_wp2_with fail
          (try refine ⟨hdd _,?_⟩)
          refine C.out.mono ?_;clear C;rintro e W3 (⟨rfl,zs,hzs,hJ3,hk3⟩ | ⟨rfl,zs,hzs,hx3⟩)
          · have HZS:=Lib.hid hzs
            clear hzs
            gi_wp2_with fail
            go_roundw
            case rel=>exact ⟨j + 1,ys ++ zs,by omega,by go_num,by rw [tms_append,HYS.out,HZS.out,allL_take hjl,HU.out,List.cons_append],by rw [← List.append_assoc];exact hJ3,hKa.trans hk3⟩
            case measure=>simp [intOf];omega
          · have HZS:=Lib.hid hzs
            clear hzs
            gi_wp2_with fail
            go_ret
            exact .inr ⟨rfl,ys ++ zs,by rw [tms_append,HYS.out,List.cons_append,HT.out];exact prefix_deep rfl hjl (by rw [← HU.out];exact HZS.out),by rw [← List.append_assoc];exact hx3⟩
        · obtain rfl:j=xs.length:=by omega
          have HYS:=Lib.hid hys
          clear hys
          gi_wp2_with fail
          go_ret
          exact .inl ⟨rfl,ys,by rw [HYS.out,HT.out,List.take_length,Tm.all],hJs,hKs⟩
    · gi_wp2_with fail
      go_ret
      exact .inr ⟨rfl,[x],by show [x.1.t] <+: _;rw [HT.out,Tm.all,List.cons_prefix_cons];exact ⟨rfl,List.nil_prefix⟩,hx2⟩
theorem abides_alloc {β:Type} {B:Nat} {J:β→World→Prop} (h:AbidesFrom B J):∀ pre W o,J pre W→J pre (W.alloc o):=fun pre W o hj=>h pre W _ none hj (World.grownBy_alloc W o none) (fun r e=>by cases e)
set_option maxHeartbeats 1000000 in
theorem all1_in (F:Fence) (hd:F.depth=none) (n:Nat) (hF:F.fn 206) (hF2:F.fn 207) (hro:F.round=none) (w0:World) (l Bt:Nat) (x:TvIn w0) (J Jx:List (TvIn w0)→World→Prop)
    (hJ:∀ pre W o,J pre W→J pre (W.alloc o))
    (hY:∀ pre (y:TvIn w0) W,J pre W→pre.length < x.1.t.parts→YieldAt F (n - 1) Tryz.prog l #[y.1.val] W fun e W' =>
      (e=.returned (.bool true)∧J (pre ++ [y]) W'∧KeepsT w0.heap.size W W')∨(e=.returned (.bool false)∧Jx (pre ++ [y]) W'))
    (W:World) (hBt:Box W Bt (.int .i64 x.1.t.kind) (.string x.1.t.name) (.int .i64 x.1.t.n) (.slice x.1.a x.1.t.args.length x.1.c)) (hB:Below w0.heap.size w0 W) (h0:J [] W) :
    CallsIn F n Tryz.prog 206 #[.func (.yield l) #[] #[],.pointer (some ⟨Bt,0,none⟩)] W fun e W'=>(∃ v,e=.returned v) ∧
      ((∃ ys,tms ys=x.1.t.all∧J ys W')∨(∃ pre,tms pre <+: x.1.t.all∧Jx pre W')):=by
  have hdd:∀ k:Nat,(F.depth.isSome=true→1≤k):=fun k h=>by rw [hd] at h;cases h
  have hp:=Lib.hid (tell_in F hd hF2 hro w0 l x.1.t.parts J Jx hJ (fun m pre y W hj hl=>yield_anyDepth hd m (hY pre y W hj hl)) x.1.t.parts (n - 1) x [] W (Nat.le_refl _) hB h0 (by simp))
  obtain ⟨⟨t,a,c⟩,hx⟩:=x
  obtain ⟨c0,c1,c2,c3,_,_,_,_⟩:=hBt
  simp only [Tv.val] at hp c0 c1 c2 c3 ⊢
  clear hY hJ h0
  refine callsIn_of_wp Tryz.func206 rfl hF ?_ hro
  simp only [Tryz.ntmps206,List.size_toArray,List.length_cons,List.length_nil,Nat.reduceAdd,Nat.reduceSub,Array.replicate_succ,Array.replicate_zero,List.push_toArray,List.append_toArray,List.nil_append,List.cons_append]
  gi_wp2_with fail
  (try refine ⟨hdd _,?_⟩)
  refine hp.out.mono ?_;clear hp;rintro e W1 (⟨rfl,ys,hys,hJ1,_⟩ | ⟨rfl,ys,hys,hx1⟩)
  · have H:=Lib.hid hys
    clear hys
    gi_wp2_with fail
    go_end0
    exact ⟨⟨_,rfl⟩,.inl ⟨ys,H.out,hJ1⟩⟩
  · have H:=Lib.hid hys
    clear hys
    gi_wp2_with fail
    go_end0
    exact ⟨⟨_,rfl⟩,.inr ⟨ys,H.out,hx1⟩⟩
set_option maxHeartbeats 1000000 in
theorem all_in (F:Fence) (n:Nat) (hF:F.fn 189) (hro:F.round=none) (x:Tv) (w:World) :
    CallsIn F n Tryz.prog 189 #[x.val] w fun e w'=>e=.returned (.func (.func 206) #[] #[.pointer (some ⟨w.heap.size,0,none⟩)])∧w'=w.alloc (.cells #[.int .i64 x.t.kind,.string x.t.name,.int .i64 x.t.n,.slice x.a x.t.args.length x.c] 70):=by
  obtain ⟨t,a,c⟩:=x
  simp only [Tv.val]
  refine callsIn_of_wp Tryz.func189 rfl hF ?_ hro
  simp only [Tryz.ntmps189,List.size_toArray,List.length_cons,List.length_nil,Nat.reduceAdd,Nat.reduceSub,Array.replicate_succ,Array.replicate_zero,List.push_toArray,List.append_toArray,List.nil_append,List.cons_append]
  gi_wp2_with fail
  go_ret
  exact ⟨rfl,rfl⟩
theorem all_stops (F:Fence) (hd:F.depth=none) (n:Nat) (hF:F.fn 206) (hF2:F.fn 207) (hro:F.round=none) (w0:World) (Bt:Nat) (x:TvIn w0) (w:World) (hBt:Bt < w.heap.size)
    (hc:Box w Bt (.int .i64 x.1.t.kind) (.string x.1.t.name) (.int .i64 x.1.t.n) (.slice x.1.a x.1.t.args.length x.1.c)) (hB:Below w0.heap.size w0 w) :
    SeqStopsK F n Tryz.prog 206 #[.pointer (some ⟨Bt,0,none⟩)] (fun y:TvIn w0=>#[y.1.val]) (KeepsT w0.heap.size) (fun ys=>tms ys=x.1.t.all) (fun pre=>tms pre <+: x.1.t.all) x.1.t.parts w:=fun l J Jx W hW hJ _ hY h0 =>
  all1_in F hd n hF hF2 hro w0 l Bt x J Jx (abides_alloc hJ) hY W (hc.below hW hBt) (hB.trans (hW.mono hB.size)) h0
end Go.Proofs.YtjcleokfpohpdaaGreatDoor
namespace Go.Proofs.YtjcleokfpohpdaaGreatDoor
open Go.RowKit
theorem box_kept {W W':World} {B:Nat} {x0 x1 x2 x3:Value} (h:Box W B x0 x1 x2 x3) (hb:W'.heap[B]? = W.heap[B]?):Box W' B x0 x1 x2 x3:=by
  obtain ⟨c0,c1,c2,c3,f0,f1,f2,f3⟩:=h
  constructor<;>simp only [World.cell?,World.frozen?,hb] at * <;> assumption
theorem box_own {β:Type} (B:Nat) (x0 x1 x2 x3:Value):Own (fun (_:β) W=>Box W B x0 x1 x2 x3):=fun _ X Y row hs hg hrow=>by
  have hc:=hs.c0
  have hlt:=lt_of_cell hc
  refine box_kept hs (hg.block B hlt fun e=>?_)
  obtain ⟨o,ho,hoc⟩:=hrow B e.symm
  simp only [World.cell?,ho] at hc
  cases o<;>simp_all [Obj.isCells]
theorem box_lt {W:World} {B:Nat} {x0 x1 x2 x3:Value} (h:Box W B x0 x1 x2 x3):B < W.heap.size:=lt_of_cell h.c0
end Go.Proofs.YtjcleokfpohpdaaGreatDoor
namespace Go.Proofs.YtjcleokfpohpdaaGreatDoor
open Go.RowKit
def nameSet (zs:List ByteArray):DataW Unit:=Maps.setOf (.agg []) (zs.map fun s=>Lit.string s.data.toList)
theorem nameSet_has (zs:List ByteArray) (s:ByteArray):Maps.has (nameSet zs) (.string s.data.toList)=Lib.containsS zs s:=by
  unfold nameSet
  rw [Maps.has_setOf _ _ _ (by
    intro x hx
    obtain ⟨z,_,rfl⟩:=List.mem_map.1 hx
    simp [WideAt.IsKeyLit])]
  rw [Bool.eq_iff_iff,List.any_eq_true,Lib.containsS_iff]
  constructor
  · rintro ⟨x,hx,he⟩
    obtain ⟨z,hz,rfl⟩:=List.mem_map.1 hx
    have e:z.data.toList=s.data.toList:=by simpa [Lit.sameKey] using he
    have:z=s:=by
      apply ByteArray.ext;apply Array.ext';exact e
    rw [← this];exact hz
  · intro h
    exact ⟨_,List.mem_map.2 ⟨s,h,rfl⟩,by simp [Lit.sameKey]⟩
theorem nameSet_put (zs:List ByteArray) (s:ByteArray):(nameSet zs).put (.string s.data.toList) (.agg [])=nameSet (zs ++ [s]):=by
  unfold nameSet
  rw [List.map_append,← Maps.setOf_snoc];rfl
theorem grown_of_below {w w':World} (h:Below w.heap.size w w'):w.grownBy w' none:=⟨h.os,h.tape,h.output,h.size,fun k hk _=>h.block k hk⟩
end Go.Proofs.YtjcleokfpohpdaaGreatDoor
namespace Go.Proofs.YtjcleokfpohpdaaGreatDoor
open Go.RowKit Go.Shelf
attribute [local go_sem] Oper.semAt_some
theorem varsL_snoc (l:List Tm) (t:Tm):varsL (l ++ [t])=varStep (varsL l) t:=by unfold varsL;rw [List.foldl_append];rfl
theorem map_obj {H:Type} {P:Program} {k:TypeId} {R:Value→Option (DataW H × List MemPlace)} {b n:Nat} {D:DataW H} {w:World} (h:w.ownsMap P k R b n D):∃ es ck,w.heap[b]? = some (Obj.map es ck):=by
  obtain ⟨es,ck,hh,_⟩:=h
  exact ⟨es,ck,hh⟩
theorem row_not_map {w:World} {base:Nat} {e:TypeId} {size n b:Nat} {v:Value} {xs:List Value} (h:w.ownsRow base e size v n xs) (hm:∃ es ck,w.heap[b]? = some (Obj.map es ck)):v.ownBlock≠some b:=by
  obtain ⟨es,ck,hm⟩:=hm
  rcases h.2 with ⟨rfl,_⟩ | ⟨g,cap,cur,rfl,_,hg,_⟩
  · simp [Value.ownBlock]
  · intro e
    simp only [Value.ownBlock,Option.some.injEq] at e
    subst e
    rw [hg] at hm;cases hm
set_option maxRecDepth 100000 in
set_option maxHeartbeats 4000000 in
theorem pvars_tm (x:Tv) (w:World) (hx:x.ok w) (hp:x.t.parts≤2300000000000) :
    Calls Tryz.prog 149 #[x.val] w fun e w'=>∃ v,e=.returned v∧(Strs w' v x.t.vars∧w'.ownsRow w.heap.size 9 1 v x.t.vars.length (x.t.vars.map Value.string))∧Below w.heap.size w w':=by
  obtain ⟨i0,hi,hi0,hi1,hi2⟩:=info_parts strInfo
  have hS:=fun w1 Bt h1 h2 h3=>all_stops Fence.wide rfl (5 - 1) trivial trivial rfl w Bt ⟨x,hx⟩ w1 h1 h2 h3
  have hA:=fun w1=>all_in Fence.wide (5 - 1) trivial rfl x w1
  have hmm:=@run_makeMap Tryz.prog
  obtain ⟨t,a,c⟩:=x
  simp only [Tv.val] at hS hA hp ⊢
  refine callsIn_wide.1 (callsIn_of_wp_marks (n:=5) Tryz.func149 rfl trivial ?_ rfl)
  simp only [Tryz.ntmps149,List.size_toArray,List.length_cons,List.length_nil,Nat.reduceAdd,Nat.reduceSub,Array.replicate_succ,Array.replicate_zero,List.push_toArray,List.append_toArray,List.nil_append,List.cons_append]
  gi_wp2_with fail
  refine ⟨trivial,(hA _).mono ?_⟩;rintro e w1 ⟨rfl,rfl⟩
  have hz1:(w.alloc (.cells #[.int .i64 t.kind,.string t.name,.int .i64 t.n,.slice a t.args.length c] 70)).heap.size=w.heap.size + 1:=by simp
  have hz2:((w.alloc (.cells #[.int .i64 t.kind,.string t.name,.int .i64 t.n,.slice a t.args.length c] 70)).alloc (.cells #[.slice none 0 0] 27)).heap.size=w.heap.size + 2:=by simp
  have hz3:(((w.alloc (.cells #[.int .i64 t.kind,.string t.name,.int .i64 t.n,.slice a t.args.length c] 70)).alloc (.cells #[.slice none 0 0] 27)).alloc (.map #[] 0)).heap.size=w.heap.size + 3:=by simp
  have hz4:((((w.alloc (.cells #[.int .i64 t.kind,.string t.name,.int .i64 t.n,.slice a t.args.length c] 70)).alloc (.cells #[.slice none 0 0] 27)).alloc (.map #[] 0)).alloc (.cells #[.map (some (w.heap.size + 2))] 204)).heap.size=w.heap.size + 4:=by simp
  have hz5:(((((w.alloc (.cells #[.int .i64 t.kind,.string t.name,.int .i64 t.n,.slice a t.args.length c] 70)).alloc (.cells #[.slice none 0 0] 27)).alloc (.map #[] 0)).alloc (.cells #[.map (some (w.heap.size + 2))] 204)).alloc (.cells #[.int .i64 t.kind,.string t.name,.int .i64 t.n,.slice a t.args.length c] 70)).heap.size=w.heap.size + 5:=by simp
  have hB0:Below w.heap.size w (((((w.alloc (.cells #[.int .i64 t.kind,.string t.name,.int .i64 t.n,.slice a t.args.length c] 70)).alloc (.cells #[.slice none 0 0] 27)).alloc (.map #[] 0)).alloc (.cells #[.map (some (w.heap.size + 2))] 204)).alloc (.cells #[.int .i64 t.kind,.string t.name,.int .i64 t.n,.slice a t.args.length c] 70)):=(((((Below.refl _ w).alloc (Nat.le_refl _) _).alloc (by rw [hz1];omega) _).alloc (by rw [hz2];omega) _).alloc (by rw [hz3];omega) _).alloc (by rw [hz4];omega) _
  have bN:=(((Boxed.new (w.alloc (.cells #[.int .i64 t.kind,.string t.name,.int .i64 t.n,.slice a t.args.length c] 70)) 27 (.slice none 0 0)).alloc (.map #[] 0)).alloc (.cells #[.map (some (w.heap.size + 2))] 204)).alloc (.cells #[.int .i64 t.kind,.string t.name,.int .i64 t.n,.slice a t.args.length c] 70)
  have bM:=((World.ownsMap_made ((w.alloc (.cells #[.int .i64 t.kind,.string t.name,.int .i64 t.n,.slice a t.args.length c] 70)).alloc (.cells #[.slice none 0 0] 27)) Tryz.prog 9 (unitElem (H:=Unit))).alloc (.cells #[.map (some (w.heap.size + 2))] 204)).alloc (.cells #[.int .i64 t.kind,.string t.name,.int .i64 t.n,.slice a t.args.length c] 70)
  have bS:=(Boxed.new (((w.alloc (.cells #[.int .i64 t.kind,.string t.name,.int .i64 t.n,.slice a t.args.length c] 70)).alloc (.cells #[.slice none 0 0] 27)).alloc (.map #[] 0)) 204 (.map (some (w.heap.size + 2)))).alloc (.cells #[.int .i64 t.kind,.string t.name,.int .i64 t.n,.slice a t.args.length c] 70)
  have bX:=box_new ((((w.alloc (.cells #[.int .i64 t.kind,.string t.name,.int .i64 t.n,.slice a t.args.length c] 70)).alloc (.cells #[.slice none 0 0] 27)).alloc (.map #[] 0)).alloc (.cells #[.map (some (w.heap.size + 2))] 204)) (.int .i64 t.kind) (.string t.name) (.int .i64 t.n) (.slice a t.args.length c) 70
  rw [hz1] at bN
  rw [hz2] at bM
  rw [hz3] at bS
  rw [hz4] at bX
  clear hz1 hz2 hz3
  simp only [Nat.add_assoc,Nat.reduceAdd] at hz4 hz5 bN bM bS bX hB0 ⊢
  rw [hz4]
  clear hz4
  obtain ⟨W0,hW0⟩:∃ W0,(((((w.alloc (.cells #[.int .i64 t.kind,.string t.name,.int .i64 t.n,.slice a t.args.length c] 70)).alloc (.cells #[.slice none 0 0] 27)).alloc (.map #[] 0)).alloc (.cells #[.map (some (w.heap.size + 2))] 204)).alloc (.cells #[.int .i64 t.kind,.string t.name,.int .i64 t.n,.slice a t.args.length c] 70))=W0:=⟨_,rfl⟩
  rw [hW0] at bN bM bS bX hB0 hz5 ⊢
  clear hW0
  gi_wp2_with fail
  refine wpIn_rangeFunc_ownH rfl (by omega) (gf:=206) (lb:=#[.pointer (some ⟨w.heap.size + 4,0,none⟩)]) rfl trivial (enters_of Tryz.func206 (by kernel_rfl) rfl)
    (hS W0 (w.heap.size + 4) (by omega) bX hB0) keepsT_t (keepsT_b (by omega)) (Below.refl _ _) (fun _=>rfl)
    (fun (pre:List (TvIn w)) W=>((∃ v,Boxed W (w.heap.size + 1) 27 v∧W.ownsRow w.heap.size 9 1 v (varsL (tms pre)).length ((varsL (tms pre)).map Value.string)∧True)∧Boxed W (w.heap.size + 3) 204 (.map (some (w.heap.size + 2)))) ∧
      (W.ownsMap Tryz.prog 9 (unitElem (H:=Unit)) (w.heap.size + 2) pre.length (nameSet (varsL (tms pre)))∧Below w.heap.size w W))
    (fun _ _ _=>False)
    (OwnFrom.and (OwnFrom.and (Own.from (holdsRow_own _ _ _ _ _ (fun pre:List (TvIn w)=>(varsL (tms pre)).length) (fun pre=>(varsL (tms pre)).map Value.string) (fun _ _=>True)) _) (Own.from (boxed_own _ _ (fun _:List (TvIn w)=>.map (some (w.heap.size + 2)))) _))
      (OwnFrom.and (fun s X Y row hs hg hr=>World.ownsMap.kept hs hg (fun e=>by have:=(hr _ e.symm).1;omega)) (ownFrom_below (Nat.le_refl _) (by omega))))
    (fun _ _ _ _ _ hs _ _=>hs)
    ⟨⟨⟨_,bN,World.ownsRow_nil _ _ _ _,trivial⟩,bS⟩,bM,hB0⟩
    (fun y a' Wv=>∃ Bx,w.heap.size + 3 < Bx∧Box Wv Bx (.int .i64 y.1.t.kind) (.string y.1.t.name) (.int .i64 y.1.t.n) (.slice y.1.a y.1.t.args.length y.1.c)∧a'={ tmps:=#[.agg #[.int .i64 t.kind,.string t.name,.int .i64 t.n,.slice a t.args.length c],.pointer (some ⟨w.heap.size,0,none⟩),.slice none 0 0,.pointer (some ⟨w.heap.size + 1,0,none⟩),.pointer (some ⟨w.heap.size + 3,0,none⟩),.pointer (some ⟨Bx,0,none⟩),undef,undef,.map (some (w.heap.size + 2)),.agg #[.int .i64 t.kind,.string t.name,.int .i64 t.n,.slice a t.args.length c],.func (.func 206) #[] #[.pointer (some ⟨w.heap.size + 4,0,none⟩)],.agg #[.int .i64 y.1.t.kind,.string y.1.t.name,.int .i64 y.1.t.n,.slice y.1.a y.1.t.args.length y.1.c],undef,undef,undef,undef,undef,undef,undef,undef,undef,undef,undef,undef,undef,undef,undef,undef,undef,undef,undef,undef,undef,undef],defers:=[] })
    (fun y a' _ X Y row hs hg hr=>by obtain ⟨Bx,h1,h2,h3⟩:=hs;exact ⟨Bx,h1,box_own Bx _ _ _ _ () X Y row h2 hg (fun r e=>(hr r e).2),h3⟩)
    ?assign ?body ?done ?stop
  case assign =>
    rintro l pre y W K ⟨⟨⟨v,bN1,hr1,_⟩,bS1⟩,hM1,hB1⟩ hK
    gi_wp2_with fail
    exact hK _ _ ((KeepsOthers.alloc _ _).from _) ((KeepsT.refl _ W).alloc hB1.size _) ⟨⟨⟨v,bN1.alloc _,hr1.alloc _,trivial⟩,bS1.alloc _⟩,hM1.alloc _,hB1.alloc hB1.size _⟩ ⟨W.heap.size,bS1.lt,box_new W _ _ _ _ _,rfl⟩
  case body =>
    rintro l pre y a' W hl _ ⟨⟨⟨v,bN1,hr1,_⟩,bS1⟩,hM1,hB1⟩ ⟨Bx,hBx,bX1,rfl⟩ hlt
    have hbX:=bX1
    obtain ⟨x0,x1,x2,x3,_,_,_,_⟩:=bX1
    have cS:=bS1.cell
    have cN:=bN1.cell
    have hkey:keyOf Tryz.prog 9 (.string y.1.t.name)=some (.string y.1.t.name.data.toList):=Go.WideMaps.keyOf_string_mk Tryz.underlying9 (by have:=y.2.1.len;unfold maxLen;exact this)
    have HV:=Lib.hid (varsL_snoc (tms pre) y.1.t)
    have hT:tms (pre ++ [y])=tms pre ++ [y.1.t]:=by rw [tms_append];rfl
    have HT:=Lib.hid hT
    clear hT
    have hlen:(varsL (tms pre)).length≤pre.length:=by have:=varsL_len (tms pre);rw [tms_length] at this;exact this
    have hB1s:=hB1.size
    cases hk:(y.1.t.kind==1) with
    | false =>
      have hk2:(y.1.t.kind != 1)=true:=by simpa using hk
      have HE:=Lib.hid (show varsL (tms (pre ++ [y]))=varsL (tms pre) by rw [HT.out,HV.out];unfold varStep;rw [if_neg (by rw [hk];simp)])
      gi_wp2_with fail
      exact ⟨KeepsFrom.refl _ _,KeepsT.refl _ _,⟨⟨v,bN1,by rw [HE.out];exact hr1,trivial⟩,bS1⟩,by rw [HE.out];exact hM1.mono (by simp),hB1⟩
    | true =>
      have hk2:(y.1.t.kind != 1)=false:=by simpa using hk
      have hh:=nameSet_has (varsL (tms pre)) y.1.t.name
      cases hc:Lib.containsS (varsL (tms pre)) y.1.t.name with
      | true =>
        have HE:=Lib.hid (show varsL (tms (pre ++ [y]))=varsL (tms pre) by rw [HT.out,HV.out];unfold varStep;rw [if_neg (by rw [hc];simp)])
        rw [hc] at hh
        gi_wp2_with (gi_at_lookup;refine wpListIn_lookup_own_unit _ rfl _ _ 204 rfl 9 205 (Maps.string_keyed Tryz.underlying9) Tryz.underlying204 (Tryz.zeroValue205 _) (w.heap.size + 2) pre.length _ rfl hM1 _ _ rfl hkey ?_)
        exact ⟨(KeepsOthers.alloc _ _).from _,(KeepsT.refl _ _).alloc hB1s _,⟨⟨v,bN1.alloc _,by rw [HE.out];exact hr1.alloc _,trivial⟩,bS1.alloc _⟩,by rw [HE.out];exact (hM1.alloc _).mono (by simp),hB1.alloc hB1s _⟩
      | false =>
        have HE:=Lib.hid (show varsL (tms (pre ++ [y]))=varsL (tms pre) ++ [y.1.t.name] by rw [HT.out,HV.out];unfold varStep;rw [if_pos ⟨hk,hc⟩])
        have HP:=Lib.hid (nameSet_put (varsL (tms pre)) y.1.t.name)
        rw [hc] at hh
        have hM2:=hM1.alloc (.cells #[] 205)
        have bS2:=bS1.alloc (.cells #[] 205)
        have bN2:=bN1.alloc (.cells #[] 205)
        have hr2:=hr1.alloc (.cells #[] 205)
        have bX2:=hbX.below ((Below.refl W.heap.size W).alloc (Nat.le_refl _) (.cells #[] 205)) (box_lt hbX)
        have cS2:=bS2.cell
        have cN2:=bN2.cell
        obtain ⟨z0,z1,z2,z3,_,_,_,_⟩:=id bX2
        gi_wp2_with (first
          | (gi_at_lookup;refine wpListIn_lookup_own_unit _ rfl _ _ 204 rfl 9 205 (Maps.string_keyed Tryz.underlying9) Tryz.underlying204 (Tryz.zeroValue205 _) (w.heap.size + 2) pre.length _ rfl hM1 _ _ rfl hkey ?_)
          | (gi_at_mapUpdate;refine wpListIn_mapUpdate_own _ rfl _ _ _ 204 rfl 9 205 (Maps.string_keyed Tryz.underlying9) Tryz.underlying204 _ (w.heap.size + 2) pre.length _ rfl hM2 (by unfold maxLen;omega) _ _ _ rfl rfl hkey (.agg []) [] unitElem_mk ?_;intro w2 hM3 hgrow2;have hmo:=map_obj hM2;have hbx3:=box_kept bX2 (hgrow2.block Bx (box_lt bX2) (fun e=>by cases e;omega));have hr3:=hr2.kept hgrow2 (.inr (row_not_map hr2 hmo));have bN3:=bN2.kept hgrow2 (by simp);have bS3:=bS2.kept hgrow2 (by simp);have cN3:=bN3.cell;obtain ⟨y0,y1,y2,y3,_,_,_,_⟩:=id hbx3)
          | (gi_at_builtin;refine wpListIn_append_own _ rfl _ _ 27 rfl w.heap.size 9 i0 (.string ⟨#[]⟩) 1 16 Tryz.underlying27 hi hi0 hi1 hi2 rfl (by decide) _ _ _ rfl (hr3.alloc _) ⟨w2.heap.size,0,none⟩ 1 1 [.string y.1.t.name] rfl rfl (cell_one_new _ _ _) (by simp [Value.oneCell']) (by unfold maxLen;omega) (by omega) (by have:=hgrow2.size;simp at this ⊢;omega) ?_;intro v' w3 hown' hgrow3 _;obtain ⟨g',cap',rfl⟩:=ownsRow_succ hown';obtain ⟨hv1,hv2,hr9,hk9,hb9⟩:=bN3.appended (by decide) hr3 (by have:=hgrow2.size;simp at this;omega) (by omega) hown' hgrow3;have hc1:=hv1.cell;have hf1:=hv1.frozen))
        have hgs:=hgrow2.size
        simp at hgs
        have hg3:(w2.alloc (Obj.cells #[.string y.1.t.name] 9)).grownBy w3 v.ownBlock:=hgrow3
        have hkT:KeepsT w.heap.size W (w3.setCell ⟨w.heap.size + 1,0,none⟩ (.slice (some ⟨g',0,none⟩) ((varsL (tms pre)).length + 1) cap')):=by
          have k1:=((KeepsT.refl w.heap.size W).alloc hB1s (.cells #[] 205)).grown hgrow2 (by simp;omega) (fun k e=>by
            cases e
            obtain ⟨es,ck,hm⟩:=map_obj hM2
            exact ⟨by omega,fun c f e=>by rw [hm] at e;cases e⟩)
          have k2:=(k1.alloc (by omega) (Obj.cells #[.string y.1.t.name] 9)).grown hg3 (by simp;omega) (fun k e=>by
            obtain ⟨_,⟨rfl,_⟩ | ⟨g,cap,cur,rfl,hb,hg,_⟩⟩:=hr3.alloc (Obj.cells #[.string y.1.t.name] 9)
            · cases e
            · cases e
              exact ⟨hb,fun c f e=>by rw [hg] at e;injection e with e;injection e with _ e _;exact absurd e (by decide)⟩)
          exact k2.setBox hv1 (by decide) (by omega) _
        have hM9:(w3.setCell ⟨w.heap.size + 1,0,none⟩ (.slice (some ⟨g',0,none⟩) ((varsL (tms pre)).length + 1) cap')).ownsMap Tryz.prog 9 (unitElem (H:=Unit)) (w.heap.size + 2) (pre.length + 1) (nameSet (varsL (tms pre ++ [y.1.t]))):=by
          have m1:=(hM3.alloc (Obj.cells #[.string y.1.t.name] 9)).kept hg3 (fun e=>(row_not_map (hr3.alloc (Obj.cells #[.string y.1.t.name] 9)) (map_obj (hM3.alloc (Obj.cells #[.string y.1.t.name] 9)))) e.symm)
          have m2:=m1.kept (grownBy_setCell' w3 (w.heap.size + 1) (.slice (some ⟨g',0,none⟩) ((varsL (tms pre)).length + 1) cap')) (by simp)
          rw [← HT.out,HE.out,← HP.out];exact m2
        have bS9:=(((bS3.alloc (Obj.cells #[.string y.1.t.name] 9)).kept hg3 ((bS3.alloc (Obj.cells #[.string y.1.t.name] 9)).not_row (by decide) (hr3.alloc (Obj.cells #[.string y.1.t.name] 9))))).other (B':=w.heap.size + 1) (by omega) (.slice (some ⟨g',0,none⟩) ((varsL (tms pre)).length + 1) cap')
        refine ⟨((KeepsOthers.alloc _ _).from _).trans ((KeepsFrom.of_grownBy hgrow2 (fun j e=>by cases e;omega)).trans (hk9.from _)),hkT,⟨⟨_,hv2,?_,trivial⟩,bS9⟩,?_,hB1.trans hkT.below⟩
        · rw [HE.out,List.length_append,List.map_append];exact hr9
        · rw [HT.out,List.length_append];exact hM9
  case done =>
    rintro D ys W hD hys ⟨⟨⟨v,bN1,hr1,_⟩,bS1⟩,hM1,hB1⟩ hK
    have cN:=bN1.cell
    have fN:=bN1.frozen
    rw [hys] at hr1
    have hl:t.vars.length≤2300000000000:=by have:=varsL_len t.all;rw [all_length] at this;show (varsL t.all).length≤_;omega
    have hr2:=ownsRow_putObj hr1 (.deferred none) hK rfl
    have H:=Lib.hid (And.intro hys hr2)
    clear hys hr1 hr2 hM1
    gi_wp2_with fail
    refine ⟨by simp,.inl ⟨_,_,rfl,run_takeDeferred hK,?_⟩⟩
    exact ⟨_,results_tmp rfl _ _ _,v,rfl,⟨strs_of_own H.out.2 (by show t.vars.length≤_;omega),H.out.2⟩,hB1.trans (belowK_b (w:=w) (Nat.le_refl _) W D _ _ (by omega) hK rfl rfl)⟩
  case stop =>
    rintro D cc pre W hD hpre h hK
    exact h.elim
end Go.Proofs.YtjcleokfpohpdaaGreatDoor
