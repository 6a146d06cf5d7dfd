/-
  The program's library, an entry that is filled: a function more, a rule more.
  A row of the call's own, with the elements of a slice behind it that may have none and no memory. No function of the program.
  A term that the program makes of others: where it lies. copied, Var, Fun.
  A row of cells in a block; a row of terms that is made of values. No function of the program.
  What the methods that fill an entry walk by: a row that a call is handed, terms that live on.
  The program's library: the primitives: primitives, Names.
-/
import Derived.Test.YtjcleokfpohpdaaGreatDoorU09
import Derived.Deep.RegionLaw
import Derived.Lib.Hide
import Derived.WalkKit
import Derived.Test.YtjcleokfpohpdaaGreatDoorU01
import Derived.Maps.AppendAt
import Derived.Laws.AppendOwnNone
import Derived.Test.YtjcleokfpohpdaaGreatDoorU05
import Derived.Laws.AppendOwn
import Derived.Deep.LoopGhost
import Derived.WalkMore
import Derived.OwnWalk
import Derived.Laws.EntriesVeiled
namespace Go.Proofs.YtjcleokfpohpdaaGreatDoor
open Go.RowKit
structure OnlyE (W W':World) (eb base:Nat):Prop where
  os:W'.os=W.os
  tape:W'.tape=W.tape
  output:W'.output=W.output
  size:W.heap.size≤W'.heap.size
  block:∀ k,k < base→k≠eb→W'.heap[k]? = W.heap[k]?
theorem OnlyE.refl (W:World) (eb base:Nat):OnlyE W W eb base:=⟨rfl,rfl,rfl,Nat.le_refl _,fun _ _ _=>rfl⟩
theorem OnlyE.trans {A B C:World} {eb base:Nat} (h:OnlyE A B eb base) (k:OnlyE B C eb base):OnlyE A C eb base :=
  ⟨k.os.trans h.os,k.tape.trans h.tape,k.output.trans h.output,Nat.le_trans h.size k.size,fun i h1 h2=>(k.block i h1 h2).trans (h.block i h1 h2)⟩
theorem onlyE_below {A B:World} {eb base:Nat} (h:Below A.heap.size A B) (hb:base≤A.heap.size):OnlyE A B eb base :=
  ⟨h.os,h.tape,h.output,h.size,fun i h1 _=>h.block i (by omega)⟩
theorem OnlyE.below {A B:World} {eb base n:Nat} (h:OnlyE A B eb base) (h1:n≤eb) (h2:n≤base):Below n A B :=
  ⟨h.os,h.tape,h.output,h.size,fun i h3=>h.block i (by omega) (by omega)⟩
theorem OnlyE.less {A B:World} {eb base base':Nat} (h:OnlyE A B eb base) (h1:base'≤base):OnlyE A B eb base' :=
  ⟨h.os,h.tape,h.output,h.size,fun i h3 h4=>h.block i (by omega) h4⟩
structure EB (w0 W:World) (eb base:Nat) (nm:ByteArray) (fs:List Fn) (rs:List Rl) (vf vr:Value):Prop where
  c0:W.cell? ⟨eb,0,none⟩=some (.string nm)
  c1:W.cell? ⟨eb,1,none⟩=some vf
  c2:W.cell? ⟨eb,2,none⟩=some vr
  f1:W.frozen? ⟨eb,1,none⟩=false
  f2:W.frozen? ⟨eb,2,none⟩=false
  lt:eb < base
  le:base≤W.heap.size
  ent:Ent w0 W (fun k=>k=eb) 140 82 base vf fs vr rs
section
variable {w0 W W':World} {eb base:Nat} {nm:ByteArray} {fs:List Fn} {rs:List Rl} {vf vr:Value}
theorem EB.below (h:EB w0 W eb base nm fs rs vf vr) (hb:Below W.heap.size W W'):EB w0 W' eb base nm fs rs vf vr:=by
  have hl:=h.lt
  have he:=h.le
  have hk:=hb.block eb (by omega)
  exact ⟨(World.cell?_of_block hk).trans h.c0,(World.cell?_of_block hk).trans h.c1,(World.cell?_of_block hk).trans h.c2,(World.frozen?_of_block hk).trans h.f1,(World.frozen?_of_block hk).trans h.f2,hl,Nat.le_trans he hb.size,h.ent.below hb⟩
theorem EB.addF {f:Fn} (h:EB w0 W eb base nm fs rs vf vr) (hf:FnOk f) (hl:fs.length≤1000000) :
    ∃ a' c' w',(Builtin.append_ #[23,23] 23 #[vf,.slice (some ⟨W.heap.size,0,none⟩) 1 1]).run Tryz.prog (W.alloc (.cells #[.string f.1,.int .i64 f.2] 140))=.ok (.slice a' (fs.length + 1) c') w' ∧
      (w'.cell? ⟨eb,1,none⟩=some vf∧w'.frozen? ⟨eb,1,none⟩=false)∧EB w0 (w'.setCell ⟨eb,1,none⟩ (.slice a' (fs.length + 1) c')) eb base nm (fs ++ [f]) rs (.slice a' (fs.length + 1) c') vr∧OnlyE W (w'.setCell ⟨eb,1,none⟩ (.slice a' (fs.length + 1) c')) eb base:=by
  have hlt:=h.lt
  have hle:=h.le
  obtain ⟨v',w',hr,hent,⟨a',c',rfl⟩,hgrow,hge⟩:=add_fun h.ent f hf hl (fun k hk=>by omega) h.le
  have hne:some eb≠vf.ownBlock:=fun e=>by have:=hge eb e.symm;omega
  have hk:=hgrow.block eb (by omega) hne
  have hset:∀ k,k≠eb→(w'.setCell ⟨eb,1,none⟩ (.slice a' (fs.length + 1) c')).heap[k]? = w'.heap[k]? := fun k hk=>Below.heap_setCell _ _ _ _ hk
  refine ⟨a',c',w',hr,⟨(World.cell?_of_block hk).trans h.c1,(World.frozen?_of_block hk).trans h.f1⟩,?_,hgrow.os,hgrow.tape,hgrow.output,by have:=hgrow.size;simp;omega,fun k h1 h2=>?_⟩
  · have hent2:=hent.aside (W':=w'.setCell ⟨eb,1,none⟩ (.slice a' (fs.length + 1) c')) (by simp) hset
    have c0:=(World.cell?_of_block hk).trans h.c0
    have c1:=(World.cell?_of_block hk).trans h.c1
    have c2:=(World.cell?_of_block hk).trans h.c2
    have f1:=(World.frozen?_of_block hk).trans h.f1
    have f2:=(World.frozen?_of_block hk).trans h.f2
    refine ⟨?_,?_,?_,?_,?_,hlt,by have:=hgrow.size;simp;omega,hent2⟩
    · rw [World.cell?_setCell_other _ _ _ _ (by simp)];exact c0
    · exact World.cell?_setCell_same _ _ _ c1
    · rw [World.cell?_setCell_other _ _ _ _ (by simp)];exact c2
    · simpa using f1
    · simpa using f2
  · rw [hset k h2]
    exact hgrow.block k (by omega) (fun e=>by have:=hge k e.symm;omega)
theorem EB.addR {y:Qv} (h:EB w0 W eb base nm fs rs vf vr) (hy:LiveQ w0 W (rowsZ (fun k=>k=eb) vf vr) base y) (hl:rs.length≤1000000) :
    ∃ a' c' w',(Builtin.append_ #[24,24] 24 #[vr,.slice (some ⟨W.heap.size,0,none⟩) 1 1]).run Tryz.prog (W.alloc (.cells y.cells.toArray 82))=.ok (.slice a' (rs.length + 1) c') w' ∧
      (w'.cell? ⟨eb,2,none⟩=some vr∧w'.frozen? ⟨eb,2,none⟩=false)∧EB w0 (w'.setCell ⟨eb,2,none⟩ (.slice a' (rs.length + 1) c')) eb base nm fs (rs ++ [y.rl]) vf (.slice a' (rs.length + 1) c')∧OnlyE W (w'.setCell ⟨eb,2,none⟩ (.slice a' (rs.length + 1) c')) eb base:=by
  have hlt:=h.lt
  have hle:=h.le
  obtain ⟨v',w',hr,hent,⟨a',c',rfl⟩,hgrow,hge⟩:=add_rule h.ent y hy hl (fun k hk=>by omega) h.le
  have hne:some eb≠vr.ownBlock:=fun e=>by have:=hge eb e.symm;omega
  have hk:=hgrow.block eb (by omega) hne
  have hset:∀ k,k≠eb→(w'.setCell ⟨eb,2,none⟩ (.slice a' (rs.length + 1) c')).heap[k]? = w'.heap[k]? := fun k hk=>Below.heap_setCell _ _ _ _ hk
  refine ⟨a',c',w',hr,⟨(World.cell?_of_block hk).trans h.c2,(World.frozen?_of_block hk).trans h.f2⟩,?_,hgrow.os,hgrow.tape,hgrow.output,by have:=hgrow.size;simp;omega,fun k h1 h2=>?_⟩
  · have hent2:=hent.aside (W':=w'.setCell ⟨eb,2,none⟩ (.slice a' (rs.length + 1) c')) (by simp) hset
    have c0:=(World.cell?_of_block hk).trans h.c0
    have c1:=(World.cell?_of_block hk).trans h.c1
    have c2:=(World.cell?_of_block hk).trans h.c2
    have f1:=(World.frozen?_of_block hk).trans h.f1
    have f2:=(World.frozen?_of_block hk).trans h.f2
    refine ⟨?_,?_,?_,?_,?_,hlt,by have:=hgrow.size;simp;omega,hent2⟩
    · rw [World.cell?_setCell_other _ _ _ _ (by simp)];exact c0
    · rw [World.cell?_setCell_other _ _ _ _ (by simp)];exact c1
    · exact World.cell?_setCell_same _ _ _ c2
    · simpa using f1
    · simpa using f2
  · rw [hset k h2]
    exact hgrow.block k (by omega) (fun e=>by have:=hge k e.symm;omega)
end
theorem wpList_append_run {P:Program} {ops:Array Oper} {rest:List Oper} {o:Oper} {a:Act} {w w':World} {Q:Exit→Act→World→Prop} (hgd:o.guard=none) (s x:Operand) (t:TypeId)
    (ho:o.op=.call { callee:=.builtin .append,args:=#[s,x],argTypes:=#[t,t] }) (v u q:Value) (hs:a.eval s=v) (hx:a.eval x=u)
    (hr:(Builtin.append_ #[t,t] o.type #[v,u]).run P w=.ok q w') (h:wpList P ops Q rest (a.put o.dst q) w'):wpList P ops Q (o :: rest) a w:=by
  refine wpList_plain hgd fun K hK=>?_
  unfold Oper.wp execOp
  simp only [ho,resolve,invoke,builtin,Sem.run_bind,Sem.run_pure,Result.andThen_ok,List.map_toArray,List.map_cons,List.map_nil,hs,hx,hr]
  exact hK _ _ h
set_option maxRecDepth 100000 in
set_option maxHeartbeats 1000000 in
theorem pent_fun (w0 W:World) (eb base:Nat) (nm:ByteArray) (fs:List Fn) (rs:List Rl) (vf vr:Value) (f:Fn) (h:EB w0 W eb base nm fs rs vf vr) (hf:FnOk f) (hl:fs.length≤1000000) :
    Calls Tryz.prog 166 #[.pointer (some ⟨eb,0,none⟩),.string f.1,.int .i64 f.2] W fun e w'=>e=.returned (.tuple #[])∧(∃ vf',EB w0 w' eb base nm (fs ++ [f]) rs vf' vr)∧OnlyE W w' eb base:=by
  obtain ⟨⟨a1,c1,rfl⟩,⟨a2,c2,rfl⟩⟩:=h.ent.slices
  obtain ⟨s,n⟩:=f
  have hc1:=h.c1
  have hf1:=h.f1
  obtain ⟨a',c',w',hr,⟨hd1,hd2⟩,hE,hO⟩:=h.addF hf hl
  have HR:=Lib.hid hr
  have HE:=Lib.hid hE
  have HO:=Lib.hid hO
  simp only at HR
  clear h hr hE hO
  go_enter Tryz.func166,Tryz.ntmps166
  go_wp2_with (at_builtin;refine wpList_append_run rfl _ _ 23 rfl _ _ _ rfl rfl HR.out ?_)
  go_end0
  exact ⟨rfl,⟨_,HE.out⟩,HO.out⟩
set_option maxRecDepth 100000 in
set_option maxHeartbeats 1000000 in
theorem pent_rule (w0 W:World) (eb base:Nat) (nm:ByteArray) (fs:List Fn) (rs:List Rl) (vf vr:Value) (y:Qv) (h:EB w0 W eb base nm fs rs vf vr) (hy:LiveQ w0 W (rowsZ (fun k=>k=eb) vf vr) base y) (hl:rs.length≤1000000) :
    Calls Tryz.prog 167 #[.pointer (some ⟨eb,0,none⟩),y.l.val,y.r.val] W fun e w'=>e=.returned (.tuple #[])∧(∃ vr',EB w0 w' eb base nm fs (rs ++ [y.rl]) vf vr')∧OnlyE W w' eb base:=by
  obtain ⟨⟨a1,c1,rfl⟩,⟨a2,c2,rfl⟩⟩:=h.ent.slices
  have hl1:=h.lt
  have hl2:=h.le
  have hb1:Below W.heap.size W (W.alloc (.cells y.l.cells.toArray 70)):=(Below.refl _ _).alloc (Nat.le_refl _) _
  have hb2':Below (W.heap.size + 1) (W.alloc (.cells y.l.cells.toArray 70)) ((W.alloc (.cells y.l.cells.toArray 70)).alloc (.cells y.r.cells.toArray 70)):=(Below.refl _ _).alloc (by simp) _
  have hb2:Below W.heap.size W ((W.alloc (.cells y.l.cells.toArray 70)).alloc (.cells y.r.cells.toArray 70)):=hb1.trans (hb2'.mono (Nat.le_succ _))
  have hs2:((W.alloc (.cells y.l.cells.toArray 70)).alloc (.cells y.r.cells.toArray 70)).heap.size=W.heap.size + 1 + 1:=by simp
  have hx:=(box_new W (.int .i64 y.l.t.kind) (.string y.l.t.name) (.int .i64 y.l.t.n) (.slice y.l.a y.l.t.args.length y.l.c) 70).below hb2' (Nat.lt_succ_self _)
  have hz:=(box_new (W.alloc (.cells y.l.cells.toArray 70)) (.int .i64 y.r.t.kind) (.string y.r.t.name) (.int .i64 y.r.t.n) (.slice y.r.a y.r.t.args.length y.r.c) 70)
  rw [show (W.alloc (.cells y.l.cells.toArray 70)).heap.size=W.heap.size + 1 from by simp] at hz
  obtain ⟨⟨xt,xa,xc⟩,⟨zt,za,zc⟩⟩:=y
  unfold Tv.val
  unfold Tv.cells at hb1 hb2 hs2 hx hz
  simp only at hb1 hb2 hs2 hx hz ⊢
  obtain ⟨W2,hW2⟩:∃ W2,((W.alloc (.cells [.int .i64 xt.kind,.string xt.name,.int .i64 xt.n,.slice xa xt.args.length xc].toArray 70)).alloc (.cells [.int .i64 zt.kind,.string zt.name,.int .i64 zt.n,.slice za zt.args.length zc].toArray 70))=W2:=⟨_,rfl⟩
  rw [hW2] at hb2 hs2 hx
  have hz':Box W2 (W.heap.size + 1) (.int .i64 zt.kind) (.string zt.name) (.int .i64 zt.n) (.slice za zt.args.length zc):=hW2 ▸ hz
  obtain ⟨x0,x1,x2,x3,_,_,_,_⟩:=hx
  obtain ⟨z0,z1,z2,z3,_,_,_,_⟩:=hz'
  have h2:=h.below hb2.drew
  obtain ⟨a',c',w',hr,⟨hd1,hd2⟩,hE,hO⟩:=h2.addR (hy.below hb2.drew) hl
  rw [show W2.drew.heap.size=W.heap.size + 1 + 1 from hs2] at hr
  unfold Qv.cells at hr
  simp only at hr
  have hdr:∀ (A:World) (o:Obj),A.drew.alloc o=(A.alloc o).drew:=fun _ _=>rfl
  rw [hdr] at hr
  have HR:=Lib.hid hr
  have HE:=Lib.hid hE
  have HO:=Lib.hid ((onlyE_below (eb:=eb) hb2.drew h.le).trans hO)
  have hc1:W2.cell? ⟨eb,2,none⟩=some (.slice a2 rs.length c2):=h2.c2
  have hf1:W2.frozen? ⟨eb,2,none⟩=false:=h2.f2
  have hc2:∀ o:Obj,(W2.alloc o).cell? ⟨eb,2,none⟩=some (.slice a2 rs.length c2):=fun o=>(World.cell?_alloc_lt _ _ _ (by show eb < _;omega)).trans hc1
  clear h h2 hr hE hO hy hb2 hb1 hb2' hdr hz
  go_enter Tryz.func167,Tryz.ntmps167
  go_wp2_with fail
  (try rw [hW2])
  clear hW2
  go_region_law ((refine step_val (v:=.slice a' (rs.length + 1) c') (w':=w') rfl ?ex ?_;case ex=>(refine exec_append (x:=.tmp 10) (y:=.tmp 14) (v:=.slice a2 rs.length c2) (R:=24) (u:=.slice (some ⟨W.heap.size + 1 + 1,0,none⟩) 1 1) rfl ?x1 ?x2 ?x3;(case x1=>rfl);(case x2=>rfl);(case x3=>exact HR.out))))
  all_goals
    (try go_wp2_with fail)
    go_end0
    exact ⟨rfl,⟨_,HE.out⟩,HO.out⟩
end Go.Proofs.YtjcleokfpohpdaaGreatDoor
namespace Go.Proofs.YtjcleokfpohpdaaGreatDoor
open Go.RowKit
theorem run_append_nil0 {P:Program} {w:World} (base:Nat) (t ty e:TypeId) (i:TypeInfo) (size:Nat) (ht:P.underlying t=some (.slice e)) (hi:P.info? e=some i)
    (v:Value) (n:Nat) (xs:List Value) (hown:w.ownsRow base e size v n xs) (c:Nat) :
    (Builtin.append_ #[t,t] ty #[v,.slice none 0 c]).run P w=.ok v w:=by
  rcases hown.2 with ⟨rfl,rfl⟩ | ⟨g,cap,cur,rfl,_,_,hnc,_⟩
  · simp [Builtin.append_,run_underlying ht,sizeOf,typeInfo,hi,Builtin.lenOf,Builtin.firstCells]
  · simp [Builtin.append_,run_underlying ht,sizeOf,typeInfo,hi,Builtin.lenOf,Builtin.firstCells,hnc,storeCells]
theorem wpList_append_opt {P:Program} {w:World} {ops:Array Oper} {rest:List Oper} {o:Oper} {a:Act} {Q:Exit→Act→World→Prop} (hgd:o.guard=none) (s x:Operand) (t:TypeId)
    (ho:o.op=.call { callee:=.builtin .append,args:=#[s,x],argTypes:=#[t,t] })
    (base:Nat) (e:TypeId) (i:TypeInfo) (z:Value) (size bytes:Nat) (ht:P.underlying t=some (.slice e)) (hi:P.info? e=some i) (hz:i.zero=some z)
    (hsize:i.size=size) (hby:i.bytes=bytes) (hzs:z.cells.size=size) (hsz:0 < size)
    (v:Value) (n:Nat) (xs:List Value) (hs:a.eval s=v) (hown:w.ownsRow base e size v n xs)
    (oa:Option Addr) (m c:Nat) (news:List Value) (hx:a.eval x=.slice oa m c) (h0:oa=none→m=0) (hl:news.length=m * size) (hnews:∀ ad,oa=some ad→∀ j u,news[j]? = some u→w.cell? (ad.add j)=some u) (h1:∀ u ∈ news,u.oneCell'=true)
    (h63:n + m≤maxLen) (hbytes:(n + m) * bytes≤140737488355328) (hbase:base≤w.heap.size)
    (h:∀ v' w',w'.ownsRow base e size v' (n + m) (xs ++ news)→w.grownBy w' v.ownBlock→(v'.ownBlock=v.ownBlock∨v'.ownBlock=some w.heap.size)→wpList P ops Q rest (a.put o.dst v') w') :
    wpList P ops Q (o :: rest) a w:=by
  cases oa with
  | some ad=>exact wpList_append_own_at w hgd s x t ho base e i z size bytes ht hi hz hsize hby hzs hsz v n xs hs hown ad m c news hx hl (hnews ad rfl) h1 h63 hbytes hbase (fun v' w' h2 h3 _ h5=>h v' w' h2 h3 h5)
  | none =>
    obtain rfl:=h0 rfl
    obtain rfl:news=[]:=List.eq_nil_of_length_eq_zero (by rw [hl,Nat.zero_mul])
    refine wpList_plain hgd fun K hK=>?_
    have hrun:=run_append_nil0 (P:=P) (w:=w) base t o.type e i size ht hi v n xs hown c
    unfold Oper.wp
    simp [execOp,ho,resolve,invoke,builtin,hs,hx,hrun,Result.andThen]
    exact hK _ _ (h v w (by simpa using hown) ⟨rfl,rfl,rfl,Nat.le_refl _,fun _ _ _=>rfl⟩ (.inl rfl))
end Go.Proofs.YtjcleokfpohpdaaGreatDoor
namespace Go.Proofs.YtjcleokfpohpdaaGreatDoor
open Go.RowKit
set_option maxRecDepth 100000 in
set_option maxHeartbeats 1000000 in
theorem pcopied_row (ad:Addr) (c:Nat) (vs:List Tv) (w:World) (hnews:∀ q x,(rowTv vs)[q]? = some x→w.cell? (ad.add q)=some x) (hlen:vs.length≤1000000) :
    Calls Tryz.prog 195 #[.slice (some ad) vs.length c] w fun e w'=>∃ u,e=.returned u∧w'.ownsRow w.heap.size 70 4 u vs.length (rowTv vs)∧Below w.heap.size w w':=by
  obtain ⟨i0,hi,hz0,hz1,hz2⟩:=info_parts termInfo
  have hrl:=rowTv_length vs
  have H1:=Lib.hid (And.intro hrl (And.intro hnews (rowTv_one' vs)))
  clear hrl hnews
  go_enter Tryz.func195,Tryz.ntmps195
  go_wp2_with (at_builtin;refine wpList_append_own _ rfl _ _ 63 rfl w.heap.size 70 i0 (.agg #[.int .i64 0,.string ⟨#[]⟩,.int .i64 0,.slice none 0 0]) 4 56 Tryz.underlying63 hi hz0 hz1 hz2 rfl (by decide) _ 0 _ rfl (World.ownsRow_nil _ _ _ _) ad vs.length c (rowTv vs) rfl H1.out.1 H1.out.2.1 H1.out.2.2 ?ap3 ?ap4 ?ap5 ?_)
  case ap3=>unfold maxLen;omega
  case ap4=>omega
  case ap5=>omega
  intro v1 w1 hown hgrow hnil
  have hb:Below w.heap.size w w1:=(Below.refl _ _).grown hgrow (Nat.le_refl _) (fun k hk=>by cases hk)
  have HO:=Lib.hid hown
  clear hown hgrow hnil
  go_wp2_with fail
  go_ret
  exact ⟨_,rfl,by simpa using HO.out,hb⟩
set_option maxHeartbeats 400000 in
theorem pvar_any (s:ByteArray) (w:World) :
    Calls Tryz.prog 163 #[.string s] w fun e w'=>e=.returned (.agg #[.int .i64 1,.string s,.int .i64 0,.slice none 0 0])∧Below w.heap.size w w':=by
  go_enter Tryz.func163,Tryz.ntmps163
  go_wp2_with fail
  exact bodyPost_ret (v:=.agg #[.int .i64 1,.string s,.int .i64 0,.slice none 0 0]) (by simp [results,Tryz.results163,go_sem]) rfl ⟨rfl,(Below.refl _ _).alloc (Nat.le_refl _) _⟩
set_option maxHeartbeats 1000000 in
theorem pfun_row (s:ByteArray) (b o:Nat) (c:Nat) (vs:List Tv) (w0 ws w:World) (hs:s.size≤1000) (hlen:vs.length≤100) (hnews:∀ q x,(rowTv vs)[q]? = some x→w.cell? ((⟨b,o,none⟩:Addr).add q)=some x) (had:b < w.heap.size)
    (hf:∀ x ∈ vs,Fresh w0 ws w x) (hsw:ws.heap.size≤w.heap.size) :
    Calls Tryz.prog 168 #[.string s,.slice (some ⟨b,o,none⟩) vs.length c] w fun e w'=>∃ za zc,e=.returned (.agg #[.int .i64 5,.string s,.int .i64 0,.slice za vs.length zc])∧Fresh w0 ws w' ⟨.mk 5 s 0 (vs.map Tv.t),za,zc⟩∧Below w.heap.size w w':=by
  have hb1:Below w.heap.size w (w.alloc (.cells #[.int .i64 0,.string ⟨#[]⟩,.int .i64 0,.slice none 0 0] 70)):=(Below.refl _ _).alloc (Nat.le_refl _) _
  have hbx:=(box_new w (.int .i64 0) (.string ⟨#[]⟩) (.int .i64 0) (.slice none 0 0) 70)
  have hsz:w.heap.size < (w.alloc (.cells #[.int .i64 0,.string ⟨#[]⟩,.int .i64 0,.slice none 0 0] 70)).heap.size:=by simp
  have C:=Lib.hid (pcopied_row ⟨b,o,none⟩ c vs (w.alloc (.cells #[.int .i64 0,.string ⟨#[]⟩,.int .i64 0,.slice none 0 0] 70)) (fun q x hq=>(hb1.cell (p:=(⟨b,o,none⟩:Addr).add q) (by rw [addr_add];exact had)).trans (hnews q x hq)) (by omega))
  have HF:=Lib.hid hf
  clear hf hnews
  go_enter Tryz.func168,Tryz.ntmps168
  go_wp2_with fail
  refine C.out.mono ?_;rintro e w2 ⟨u,rfl,hown,hb2⟩
  obtain ⟨c0,c1,c2,c3,f0,f1,f2,f3⟩:=hbx.below hb2 hsz
  have hb:=below_next hb1 hb2
  obtain ⟨a2,k2,rfl⟩:=own_slice hown
  have HBB:=Lib.hid (fun p0 p1 p2 p3:Value=>((((hb.setCell (p:=⟨w.heap.size,0,none⟩) (Nat.le_refl _) p0).setCell (p:=⟨w.heap.size,1,none⟩) (Nat.le_refl _) p1).setCell (p:=⟨w.heap.size,2,none⟩) (Nat.le_refl _) p2).setCell (p:=⟨w.heap.size,3,none⟩) (Nat.le_refl _) p3))
  have HOWN:=Lib.hid (fun p0 p1 p2 p3:Value=>own_setCell (p:=⟨w.heap.size,3,none⟩) (own_setCell (p:=⟨w.heap.size,2,none⟩) (own_setCell (p:=⟨w.heap.size,1,none⟩) (own_setCell (p:=⟨w.heap.size,0,none⟩) hown hsz p0) hsz p1) hsz p2) hsz p3)
  clear hown hbx C hb hb1 hb2 hsz
  go_wp2_with fail
  refine bodyPost_ret (v:=.agg #[.int .i64 5,.string s,.int .i64 0,.slice a2 vs.length k2]) (by simp [results,Tryz.results168,go_sem,c0,c1,c2,c3]) rfl ⟨_,_,rfl,?_,HBB.out _ _ _ _⟩
  have hB:=HBB.out (.int .i64 5) (.string s) (.int .i64 0) (.slice a2 vs.length k2)
  have hO:=HOWN.out (.int .i64 5) (.string s) (.int .i64 0) (.slice a2 vs.length k2)
  intro W h1 h2 h3
  refine ⟨⟨by simp [Tm.kind],by simp [Tm.kind],by simp [Tm.n],by simp [Tm.n],by simp only [Tm.name];omega⟩,?_⟩
  have hlt:=own_row_lt hO
  have hge:=own_row_ge hO
  have hW:W.ownsRow _ 70 4 (.slice a2 vs.length k2) vs.length (rowTv vs):=own_at hO fun g e=>h3 g (by have:=hge g e;simp only [World.size_alloc] at this;omega) (hlt g e)
  have hT:OwnTv W W _ (.slice a2 vs.length k2) (vs.map Tv.t):=⟨vs,rfl,fun x hx=>HF.out x hx W h1 (Nat.le_trans hB.size h2) fun b q1 q2=>(h3 b q1 (Nat.lt_of_lt_of_le q2 hB.size)).trans (hB.block b q2),by rw [List.length_map];exact hW⟩
  obtain ⟨a3,k3,e3,ha3⟩:=hT.tms (Below.refl _ _) (by rw [List.length_map];omega)
  rw [List.length_map] at e3
  cases e3
  exact ha3
set_option maxHeartbeats 1000000 in
theorem pfun_none (s:ByteArray) (w0 ws w:World) (hs:s.size≤1000) :
    Calls Tryz.prog 168 #[.string s,.slice none 0 0] w fun e w'=>∃ za zc,e=.returned (.agg #[.int .i64 5,.string s,.int .i64 0,.slice za 0 zc])∧Fresh w0 ws w' ⟨.mk 5 s 0 [],za,zc⟩∧Below w.heap.size w w':=by
  obtain ⟨i0,hi,hz0,hz1,hz2⟩:=info_parts termInfo
  have HB:=Lib.hid (fun (p0 p1 p2 p3:Value) (W:World) (h:Below w.heap.size w W)=>((((h.setCell (p:=⟨w.heap.size,0,none⟩) (Nat.le_refl _) p0).setCell (p:=⟨w.heap.size,1,none⟩) (Nat.le_refl _) p1).setCell (p:=⟨w.heap.size,2,none⟩) (Nat.le_refl _) p2).setCell (p:=⟨w.heap.size,3,none⟩) (Nat.le_refl _) p3))
  have hb1:Below w.heap.size w (w.alloc (.cells #[.int .i64 0,.string ⟨#[]⟩,.int .i64 0,.slice none 0 0] 70)):=(Below.refl _ _).alloc (Nat.le_refl _) _
  have hbx:=(box_new w (.int .i64 0) (.string ⟨#[]⟩) (.int .i64 0) (.slice none 0 0) 70)
  have hsz:w.heap.size < (w.alloc (.cells #[.int .i64 0,.string ⟨#[]⟩,.int .i64 0,.slice none 0 0] 70)).heap.size:=by simp
  obtain ⟨W1,hW1⟩:∃ W1,w.alloc (.cells #[.int .i64 0,.string ⟨#[]⟩,.int .i64 0,.slice none 0 0] 70)=W1:=⟨_,rfl⟩
  have C:Calls Tryz.prog 195 #[.slice none 0 0] W1 fun e w'=>e=.returned (.slice none 0 0)∧w'=W1:=by
    go_enter Tryz.func195,Tryz.ntmps195
    go_wp2_with (at_builtin;refine wpList_append_own_none rfl _ _ 63 rfl W1.heap.size 70 i0 4 Tryz.underlying63 hi _ 0 _ rfl (World.ownsRow_nil _ _ _ _) rfl ?_)
    go_wp2_with fail
    go_ret
    exact ⟨rfl,rfl⟩
  have HC:=Lib.hid C
  rw [hW1] at hb1 hbx hsz
  obtain ⟨c0,c1,c2,c3,f0,f1,f2,f3⟩:=hbx
  have HB1:=Lib.hid hb1
  clear C hb1
  go_enter Tryz.func168,Tryz.ntmps168
  go_wp2_with fail
  (try rw [hW1])
  refine HC.out.mono ?_;rintro e w2 ⟨rfl,rfl⟩
  go_wp2_with fail
  refine bodyPost_ret (v:=.agg #[.int .i64 5,.string s,.int .i64 0,.slice none 0 0]) (by simp [results,Tryz.results168,go_sem,c0,c1,c2,c3]) rfl ⟨_,_,rfl,?_,HB.out _ _ _ _ _ HB1.out⟩
  intro W _ _ _
  exact ⟨⟨by simp [Tm.kind],by simp [Tm.kind],by simp [Tm.n],by simp [Tm.n],by simp only [Tm.name];omega⟩,⟨by simp [Tm.args],.inl rfl⟩⟩
end Go.Proofs.YtjcleokfpohpdaaGreatDoor
namespace Go.Proofs.YtjcleokfpohpdaaGreatDoor
open Go.RowKit
def RowV (W:World) (b:Nat) (cs:List Value):Prop:=b < W.heap.size∧∀ j u,cs[j]? = some u→W.cell? ((⟨b,0,none⟩:Addr).add j)=some u
theorem rowV_new (w:World) (cs:List Value) (t:TypeId) (b:Nat) (hb:b=w.heap.size):RowV (w.alloc (.cells cs.toArray t)) b cs:=by
  subst hb
  exact ⟨by simp,new_cells w cs t⟩
theorem RowV.drew {W:World} {b:Nat} {cs:List Value} (h:RowV W b cs):RowV W.drew b cs:=h
theorem RowV.below {W W':World} {b:Nat} {cs:List Value} (h:RowV W b cs) (hb:Below W.heap.size W W'):RowV W' b cs :=
  ⟨Nat.lt_of_lt_of_le h.1 hb.size,fun j u hj=>(hb.cell (p:=(⟨b,0,none⟩:Addr).add j) (by rw [addr_add];exact h.1)).trans (h.2 j u hj)⟩
theorem RowV.alloc {W:World} {b:Nat} {cs:List Value} (h:RowV W b cs) (o:Obj):RowV (W.alloc o) b cs:=h.below ((Below.refl _ _).alloc (Nat.le_refl _) _)
theorem tms_rowV (vs:List Tv) (b c:Nat) (W:World) (hr:RowV W b (rowTv vs)) (hok:∀ z ∈ vs,z.ok W) (hl:vs.length≤1000) (hc:vs.length≤c):Tms W (.slice (some ⟨b,0,none⟩) vs.length c) (vs.map Tv.t):=by
  refine ⟨some ⟨b,0,none⟩,c,by rw [List.length_map],⟨by rw [List.length_map];omega,by rw [List.length_map];exact hc⟩,.inr ⟨b,0,rfl,hr.1,?_⟩⟩
  refine rowAt_of fun {j} hj=>?_
  rw [List.length_map] at hj
  rw [List.getElem_map]
  have hcell:∀ i,i < 4→W.cell? ⟨b,0 + j * 4 + i,none⟩=vs[j].cells[i]? := fun i hi=>by
    have h1:=rowTv_get vs j hj i hi
    have h2:vs[j].cells[i]? = some (vs[j].cells[i]'(by simp [Tv.cells];omega)):=List.getElem?_eq_getElem _
    rw [h2] at h1 ⊢
    have:=hr.2 _ _ h1
    rw [addr_add] at this
    rw [show 0 + j * 4 + i=0 + (j * 4 + i) from by omega]
    exact this
  exact tv_tmAt (hok _ (List.getElem_mem hj)) ⟨hcell 0 (by omega),hcell 1 (by omega),hcell 2 (by omega),hcell 3 (by omega)⟩
end Go.Proofs.YtjcleokfpohpdaaGreatDoor
namespace Go.Proofs.YtjcleokfpohpdaaGreatDoor
open Go.RowKit
theorem fresh_below {w0 ws w w':World} {z:Tv} (h:Fresh w0 ws w z) (hb:Below w.heap.size w w'):Fresh w0 ws w' z:=fresh_wide h (Nat.le_refl _) hb.size fun b _ q=>hb.block b q
def varV (s:ByteArray):Tv:=⟨.mk 1 s 0 [],none,0⟩
theorem fresh_var (s:ByteArray) (hs:s.size≤1000) (w0 ws w:World):Fresh w0 ws w (varV s):=fun _ _ _ _ =>
  ⟨⟨by simp [Tm.kind,varV],by simp [Tm.kind,varV],by simp [Tm.n,varV],by simp [Tm.n,varV],by simp only [Tm.name,varV];omega⟩,⟨by simp [Tm.args,varV],.inl rfl⟩⟩
structure VarB (W:World) (n:Nat) (s:ByteArray):Prop where
  c0:W.cell? ⟨n,0,none⟩=some (.int .i64 1)
  c1:W.cell? ⟨n,1,none⟩=some (.string s)
  c2:W.cell? ⟨n,2,none⟩=some (.int .i64 0)
  c3:W.cell? ⟨n,3,none⟩=some (.slice none 0 0)
theorem varB_new (w:World) (s:ByteArray) (t:TypeId) (n:Nat) (hn:n=w.heap.size):VarB (w.alloc (.cells #[.int .i64 1,.string s,.int .i64 0,.slice none 0 0] t)) n s:=by
  subst hn
  have h:=box_new w (.int .i64 1) (.string s) (.int .i64 0) (.slice none 0 0) t
  exact ⟨h.c0,h.c1,h.c2,h.c3⟩
theorem VarB.block {W W':World} {n:Nat} {s:ByteArray} (h:VarB W n s) (hk:W'.heap[n]? = W.heap[n]?):VarB W' n s :=
  ⟨(World.cell?_of_block hk).trans h.c0,(World.cell?_of_block hk).trans h.c1,(World.cell?_of_block hk).trans h.c2,(World.cell?_of_block hk).trans h.c3⟩
theorem VarB.below {W W':World} {n:Nat} {s:ByteArray} (h:VarB W n s) (hb:Below W.heap.size W W'):VarB W' n s:=h.block (hb.block n (World.block_lt_of_cell? W _ h.c0))
theorem VarB.only {W W':World} {n eb base:Nat} {s:ByteArray} (h:VarB W n s) (ho:OnlyE W W' eb base) (h1:n < base) (h2:n≠eb):VarB W' n s:=h.block (ho.block n h1 h2)
theorem VarB.all {W:World} {n:Nat} {s:ByteArray} (h:VarB W n s):W.cell? ⟨n,0,none⟩=some (.int .i64 1)∧W.cell? ⟨n,1,none⟩=some (.string s)∧W.cell? ⟨n,2,none⟩=some (.int .i64 0)∧W.cell? ⟨n,3,none⟩=some (.slice none 0 0):=⟨h.c0,h.c1,h.c2,h.c3⟩
structure SinceE (A W:World) (eb base:Nat):Prop where
  only:OnlyE A W eb base
  le:base≤W.heap.size
theorem SinceE.below {A W W':World} {eb base:Nat} (h:SinceE A W eb base) (hb:Below W.heap.size W W'):SinceE A W' eb base:=⟨h.only.trans (onlyE_below hb h.le),Nat.le_trans h.le hb.size⟩
theorem SinceE.next {A W W':World} {eb base:Nat} (h:SinceE A W eb base) (hb:OnlyE W W' eb base):SinceE A W' eb base:=⟨h.only.trans hb,Nat.le_trans h.le hb.size⟩
structure E0 (W:World) (eb:Nat) (nm:ByteArray):Prop where
  c0:W.cell? ⟨eb,0,none⟩=some (.string nm)
  c1:W.cell? ⟨eb,1,none⟩=some (.slice none 0 0)
  c2:W.cell? ⟨eb,2,none⟩=some (.slice none 0 0)
  f1:W.frozen? ⟨eb,1,none⟩=false
  f2:W.frozen? ⟨eb,2,none⟩=false
theorem E0.lt {W:World} {eb:Nat} {nm:ByteArray} (h:E0 W eb nm):eb < W.heap.size:=World.block_lt_of_cell? W _ h.c0
theorem E0.start {W:World} {eb:Nat} {nm:ByteArray} (h:E0 W eb nm) (w0 W':World) (hb:Below W.heap.size W W'):EB w0 W' eb W'.heap.size nm [] [] (.slice none 0 0) (.slice none 0 0):=by
  have hk:=hb.block eb h.lt
  exact ⟨(World.cell?_of_block hk).trans h.c0,(World.cell?_of_block hk).trans h.c1,(World.cell?_of_block hk).trans h.c2,(World.frozen?_of_block hk).trans h.f1,(World.frozen?_of_block hk).trans h.f2,Nat.lt_of_lt_of_le h.lt hb.size,Nat.le_refl _,ent_nil _ _ _ _ _ _⟩
def FillPost (w0 W:World) (eb:Nat) (nm:ByteArray) (fs:List Fn) (rs:List Rl) (e:Ending) (w':World):Prop :=
  e=.returned (.tuple #[])∧(∃ base vf vr,EB w0 w' eb base nm fs rs vf vr)∧OnlyE W w' eb W.heap.size
theorem efun (w0 Wr A:World) (eb base:Nat) (s:ByteArray) (b n:Nat) (vs:List Tv) (W:World) (hn:n=vs.length) (hs:s.size≤1000) (hl:vs.length≤100) (hS:SinceE A W eb base) (hA:Wr.heap.size≤W.heap.size) (hr:RowV W b (rowTv vs)) (hf:∀ x ∈ vs,Fresh w0 Wr W x) :
    Calls Tryz.prog 168 #[.string s,.slice (some ⟨b,0,none⟩) n n] W fun e w'=>∃ za zc,e=.returned (.agg #[.int .i64 5,.string s,.int .i64 0,.slice za n zc])∧Fresh w0 Wr w' ⟨.mk 5 s 0 (vs.map Tv.t),za,zc⟩∧Below W.heap.size W w'∧SinceE A w' eb base:=by
  subst hn
  exact (pfun_row s b 0 vs.length vs w0 Wr W hs hl hr.2 hr.1 hf hA).mono fun e w' hh=>by
    obtain ⟨za,zc,e1,e2,e3⟩:=hh
    exact ⟨za,zc,e1,e2,e3,hS.below e3⟩
theorem efun_none (w0 Wr A:World) (eb base:Nat) (s:ByteArray) (W:World) (hs:s.size≤1000) (hS:SinceE A W eb base) :
    Calls Tryz.prog 168 #[.string s,.slice none 0 0] W fun e w'=>∃ za zc,e=.returned (.agg #[.int .i64 5,.string s,.int .i64 0,.slice za 0 zc])∧Fresh w0 Wr w' ⟨.mk 5 s 0 [],za,zc⟩∧Below W.heap.size W w'∧SinceE A w' eb base :=
  (pfun_none s w0 Wr W hs).mono fun e w' hh=>by
    obtain ⟨za,zc,e1,e2,e3⟩:=hh
    exact ⟨za,zc,e1,e2,e3,hS.below e3⟩
theorem erule (w0 Wr A W:World) (eb base:Nat) (nm:ByteArray) (fs:List Fn) (rs:List Rl) (vf vr:Value) (hEr:EB w0 Wr eb base nm fs rs vf vr) (hE:EB w0 W eb base nm fs rs vf vr) (hS:SinceE A W eb base) (l r:Tv) (hl:Fresh w0 Wr W l) (hr:Fresh w0 Wr W r) (hle:Wr.heap.size≤W.heap.size) (hlen:rs.length≤1000000) :
    Calls Tryz.prog 167 #[.pointer (some ⟨eb,0,none⟩),l.val,r.val] W fun e w'=>e=.returned (.tuple #[])∧(∃ vr',EB w0 w' eb base nm fs (rs ++ [(l.t,r.t)]) vf vr')∧SinceE A w' eb base:=by
  have hlt:=hEr.ent.lt
  have h1:=hEr.lt
  have h2:=hEr.le
  refine (pent_rule w0 W eb base nm fs rs vf vr ⟨l,r⟩ hE (liveQ_made hl hr hle hEr.le fun k hk=>?_) hlen).mono fun e w' hh=>⟨hh.1,hh.2.1,hS.next hh.2.2⟩
  rcases hk with hk | hk
  · exact (hlt k hk).2
  · omega
end Go.Proofs.YtjcleokfpohpdaaGreatDoor
namespace Go.Proofs.YtjcleokfpohpdaaGreatDoor
open Go.RowKit
def fillV:List Value:=[.func (.func 118) #[] #[],.func (.func 119) #[] #[],.func (.func 120) #[] #[],.func (.func 121) #[] #[],.func (.func 122) #[] #[],.func (.func 123) #[] #[],.func (.func 124) #[] #[],.func (.func 125) #[] #[],.func (.func 126) #[] #[]]
def fillAt (k:Nat):Value:=(fillV[k]?).getD .nilFunc
def primCells:List Value:=[.string nmPair,fillAt 0,.string nmSenc,fillAt 1,.string nmRenc,fillAt 2,.string nmAenc,fillAt 3,.string nmRaenc,fillAt 4,.string nmSign,fillAt 5,.string nmHash,fillAt 6,.string nmBlind,fillAt 7,.string nmWrap,fillAt 8]
def PrimAt (W:World) (b:Nat):Prop:=b < W.heap.size∧∀ k,k < 9→W.cell? ⟨b,k * 2,none⟩=some (.string (nmAt k))∧W.cell? ⟨b,k * 2 + 1,none⟩=some (fillAt k)
theorem PrimAt.below {W W':World} {b:Nat} (h:PrimAt W b) (hb:Below W.heap.size W W'):PrimAt W' b :=
  ⟨Nat.lt_of_lt_of_le h.1 hb.size,fun k hk=>⟨(hb.cell (p:=⟨b,k * 2,none⟩) h.1).trans (h.2 k hk).1,(hb.cell (p:=⟨b,k * 2 + 1,none⟩) h.1).trans (h.2 k hk).2⟩⟩
theorem prim_new (w:World):PrimAt (w.alloc (.cells primCells.toArray 148)) w.heap.size:=by
  refine ⟨by simp,fun k hk=>?_⟩
  have h:=fun i=>World.cell?_alloc_mark w primCells.toArray 148 (0,0) i
  match k,hk with
  | 0,_=>exact ⟨h 0,h 1⟩
  | 1,_=>exact ⟨h 2,h 3⟩
  | 2,_=>exact ⟨h 4,h 5⟩
  | 3,_=>exact ⟨h 6,h 7⟩
  | 4,_=>exact ⟨h 8,h 9⟩
  | 5,_=>exact ⟨h 10,h 11⟩
  | 6,_=>exact ⟨h 12,h 13⟩
  | 7,_=>exact ⟨h 14,h 15⟩
  | 8,_=>exact ⟨h 16,h 17⟩
theorem fillAt_one (k:Nat) (hk:k < 9):∃ f,fillAt k=.func (.func f) #[] #[]:=by
  match k,hk with
  | 0,_=>exact ⟨_,rfl⟩
  | 1,_=>exact ⟨_,rfl⟩
  | 2,_=>exact ⟨_,rfl⟩
  | 3,_=>exact ⟨_,rfl⟩
  | 4,_=>exact ⟨_,rfl⟩
  | 5,_=>exact ⟨_,rfl⟩
  | 6,_=>exact ⟨_,rfl⟩
  | 7,_=>exact ⟨_,rfl⟩
  | 8,_=>exact ⟨_,rfl⟩
set_option maxRecDepth 100000 in
theorem pprims_any (w:World) :
    Calls Tryz.prog 71 #[] w fun e w'=>e=.returned (.slice (some ⟨w.heap.size,0,none⟩) 9 9)∧PrimAt w' w.heap.size∧Below w.heap.size w w':=by
  have HP:=Lib.hid (prim_new w)
  have HB:=Lib.hid ((Below.refl w.heap.size w).alloc (Nat.le_refl _) (.cells primCells.toArray 148))
  go_enter Tryz.func71,Tryz.ntmps71
  go_wp2_with fail
  go_ret
  exact ⟨rfl,HP.out,HB.out⟩
set_option maxRecDepth 100000 in
set_option maxHeartbeats 1000000 in
theorem pnames12_any (w:World) :
    Calls Tryz.prog 39 #[] w fun e w'=>∃ v,e=.returned v∧Strs w' v libN∧Below w.heap.size w w':=by
  obtain ⟨i0,hi,hz0,hz1,hz2⟩:=info_parts strInfo
  have PR:=Lib.hid (fun (W:World)=>pprims_any W)
  go_enter Tryz.func39,Tryz.ntmps39
  go_wp2_with fail
  refine (PR.out _).mono ?_;rintro e w1 ⟨rfl,hp,hb1⟩
  have HP:=Lib.hid hp
  have HB1:=Lib.hid hb1
  clear hp hb1
  go_wp2_with fail
  go_loopw [1,6] (fun v i wr=>∃ k:Nat,i=.int .i64 k∧k≤9∧wr.ownsRow w1.heap.size 9 1 v k ((libN.take k).map Value.string)∧Below w1.heap.size w1 wr) (fun _ i _=>9 - (intOf i).toNat)
  case atStart=>exact ⟨0,rfl,by omega,World.ownsRow_nil _ _ _ _,Below.refl _ _⟩
  case round =>
    obtain ⟨k,rfl,hk,hown,hb⟩:=hrel
    by_cases hk1:k < 9
    · have hkc:(k:Int) < 9:=by omega
      have hk0:(0:Int)≤(k:Int):=by omega
      obtain ⟨c0,c1⟩:=(HP.out.below hb).2 k hk1
      obtain ⟨f,hf⟩:=fillAt_one k hk1
      rw [hf] at c1
      have htk:(libN.take (k + 1)).map Value.string=(libN.take k).map Value.string ++ [.string (nmAt k)]:=by
        have hl:k < libN.length:=by show k < 9;exact hk1
        rw [List.take_succ_eq_append_getElem hl,List.map_append]
        unfold nmAt
        rw [List.getElem?_eq_getElem hl];rfl
      obtain ⟨nm,hnm⟩:∃ nm,nmAt k=nm:=⟨_,rfl⟩
      rw [hnm] at c0 htk
      have hb1:Below w1.heap.size w1 (wr.alloc (.cells #[.string nm,.func (.func f) #[] #[]] 148)):=hb.alloc hb.size _
      have hsz1:(wr.alloc (.cells #[.string nm,.func (.func f) #[] #[]] 148)).heap.size=wr.heap.size + 1:=by simp
      have HB2:=Lib.hid hb1
      have hown1:=hown.alloc (.cells #[.string nm,.func (.func f) #[] #[]] 148)
      have hbs:=hb.size
      have HNC:=Lib.hid (new_cells (wr.alloc (.cells #[.string nm,.func (.func f) #[] #[]] 148)) [.string nm] 9)
      rw [hsz1] at HNC
      clear hb1 hb
      go_wp2_with (at_builtin;refine wpList_append_own_at _ rfl _ _ 27 rfl w1.heap.size 9 i0 (.string ⟨#[]⟩) 1 16 Tryz.underlying27 hi hz0 hz1 hz2 rfl (by decide) _ k _ rfl (hown1.alloc _) ⟨wr.heap.size + 1,0,none⟩ 1 1 [.string nm] rfl rfl ?c1 ?c2 ?c3 ?c4 ?c5 ?_)
      case c1=>exact HNC.out
      case c2=>intro u hu;rw [List.mem_singleton.1 hu];rfl
      case c3=>unfold maxLen;omega
      case c4=>omega
      case c5=>simp;omega
      intro v' w5 hown' hgrow _ _
      have hb5:Below w1.heap.size w1 w5:=((HB2.out.alloc HB2.out.size (.cells #[.string nm] 9)).grown hgrow (by simp;omega) (own_row_ge hown))
      have HO:=Lib.hid (show w5.ownsRow w1.heap.size 9 1 v' (k + 1) ((libN.take (k + 1)).map Value.string) from by rw [htk,List.map_take];exact hown')
      have HB5:=Lib.hid hb5
      clear hown' hgrow hb5 hown1 hown
      go_wp2_with fail
      go_roundw
      case rel=>exact ⟨k + 1,by go_num,by omega,HO.out,HB5.out⟩
      case measure=>simp [intOf];omega
    · obtain rfl:k=9:=by omega
      go_wp2_with fail
      go_ret
      exact ⟨_,rfl,strs_of_own hown (by decide),HB1.out.trans (hb.mono HB1.out.size)⟩
end Go.Proofs.YtjcleokfpohpdaaGreatDoor
