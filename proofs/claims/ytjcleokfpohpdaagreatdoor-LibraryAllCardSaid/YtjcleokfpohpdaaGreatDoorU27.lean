/-
  Terms put into the places of others, by the program's replace.
-/
import Derived.Test.YtjcleokfpohpdaaGreatDoorU08
import Derived.Maps.AppendAt
import Derived.Deep.AppendLies
import Derived.Shelf.SlSortCmp.KitK
namespace Go.Proofs.YtjcleokfpohpdaaGreatDoor
open Go.RowKit
mutual
def repT (f:Tm→Option Tm):Tm→Tm
  | .mk k s n xs=>match f (.mk k s n xs) with
    | some u=>u
    | none=>.mk k s n (repL f xs)
def repL (f:Tm→Option Tm):List Tm→List Tm
  | []=>[]
  | t :: r=>repT f t :: repL f r
end
mutual
def repB (f:Tm→Option Tm):Tm→Bool
  | .mk k s n xs=>(f (.mk k s n xs)).isSome||repBL f xs
def repBL (f:Tm→Option Tm):List Tm→Bool
  | []=>false
  | t :: r=>repB f t||repBL f r
end
mutual
def okT (o:Tm→Bool) (f:Tm→Option Tm):Tm→Bool
  | .mk k s n xs=>o (.mk k s n xs)&&((f (.mk k s n xs)).isSome||okL o f xs)
def okL (o:Tm→Bool) (f:Tm→Option Tm):List Tm→Bool
  | []=>true
  | t :: r=>okT o f t&&okL o f r
end
theorem repL_map (f:Tm→Option Tm):∀ l:List Tm,repL f l=l.map (repT f)
  | []=>by rw [repL];rfl
  | t :: r=>by rw [repL,repL_map f r];rfl
theorem repBL_any (f:Tm→Option Tm):∀ l:List Tm,repBL f l=l.any (repB f)
  | []=>by rw [repBL];rfl
  | t :: r=>by rw [repBL,repBL_any f r];rfl
theorem okL_all (o:Tm→Bool) (f:Tm→Option Tm):∀ l:List Tm,okL o f l=l.all (okT o f)
  | []=>by rw [okL];rfl
  | t :: r=>by rw [okL,okL_all o f r];rfl
theorem repT_some {f:Tm→Option Tm} {t u:Tm} (h:f t=some u):repT f t=u∧repB f t=true:=by
  cases t;rw [repT,repB,h];exact ⟨rfl,rfl⟩
theorem repT_none {f:Tm→Option Tm} {t:Tm} (h:f t=none):repT f t=.mk t.kind t.name t.n (t.args.map (repT f))∧repB f t=t.args.any (repB f):=by
  cases t;rw [repT,repB,h,repL_map,repBL_any];exact ⟨rfl,rfl⟩
theorem okT_eq (o:Tm→Bool) (f:Tm→Option Tm) (t:Tm):okT o f t=(o t&&((f t).isSome||t.args.all (okT o f))):=by
  cases t;rw [okT,okL_all];rfl
mutual
theorem repT_same (f:Tm→Option Tm):∀ t:Tm,repB f t=false→repT f t=t
  | .mk k s n xs,h=>by
    rw [repB,Bool.or_eq_false_iff] at h
    have hn:f (.mk k s n xs)=none:=by simpa using h.1
    rw [repT,hn,repL_same f xs h.2]
theorem repL_same (f:Tm→Option Tm):∀ l:List Tm,repBL f l=false→repL f l=l
  | [],_=>by rw [repL]
  | t :: r,h=>by
    rw [repBL,Bool.or_eq_false_iff] at h
    rw [repL,repT_same f t h.1,repL_same f r h.2]
end
theorem any_take {l:List Tm} {k:Nat} (g:Tm→Bool) (h:k < l.length):(l.take (k + 1)).any g=((l.take k).any g||g l[k]):=by
  rw [List.take_succ_eq_append_getElem h,List.any_append];simp
theorem all_take {l:List Tm} {k:Nat} (g:Tm→Bool) (h:k < l.length):(l.take (k + 1)).all g=((l.take k).all g&&g l[k]):=by
  rw [List.take_succ_eq_append_getElem h,List.all_append];simp
def putK (f:Tm→Option Tm) (l:List Tm) (k:Nat):List Tm:=(l.take k).map (repT f) ++ l.drop k
theorem putK_length (f:Tm→Option Tm) (l:List Tm) (k:Nat):(putK f l k).length=l.length:=by
  unfold putK;rw [List.length_append,List.length_map,List.length_take,List.length_drop];omega
theorem putK_all (f:Tm→Option Tm) (l:List Tm):putK f l l.length=l.map (repT f):=by unfold putK;simp
theorem putK_set (f:Tm→Option Tm) {l:List Tm} {k:Nat} (h:k < l.length):(putK f l k).set k (repT f l[k])=putK f l (k + 1):=by
  unfold putK
  have hl:((l.take k).map (repT f)).length=k:=by rw [List.length_map,List.length_take];omega
  rw [List.set_append_right k _ (by omega),hl,Nat.sub_self,List.drop_eq_getElem_cons h,List.set_cons_zero,List.take_succ_eq_append_getElem h,List.map_append,List.append_assoc]
  rfl
theorem putK_same (f:Tm→Option Tm) {l:List Tm} {k:Nat} (h:k < l.length) (hs:repB f l[k]=false):putK f l (k + 1)=putK f l k:=by
  unfold putK
  rw [List.take_succ_eq_append_getElem h,List.map_append,List.append_assoc,List.map_singleton,repT_same f _ hs,List.singleton_append,← List.drop_eq_getElem_cons h]
theorem putK_none (f:Tm→Option Tm) {l:List Tm} {k:Nat} (h:(l.take k).any (repB f)=false):putK f l k=l:=by
  have e:=repL_same f (l.take k) (by rw [repBL_any];exact h)
  rw [repL_map] at e
  unfold putK
  rw [e,List.take_append_drop]
theorem grown_refl (w:World) (G:Option Nat):w.grownBy w G:=⟨rfl,rfl,rfl,Nat.le_refl _,fun _ _ _=>rfl⟩
theorem grown_by_below {w w':World} (h:Below w.heap.size w w') (G:Option Nat):w.grownBy w' G:=⟨h.os,h.tape,h.output,h.size,fun k hk _=>h.block k hk⟩
theorem grown_trans {w w1 w2:World} {G:Option Nat} (h:w.grownBy w1 G) (k:w1.grownBy w2 G):w.grownBy w2 G :=
  ⟨k.os.trans h.os,k.tape.trans h.tape,k.output.trans h.output,Nat.le_trans h.size k.size,fun b hb hne=>(k.block b (Nat.lt_of_lt_of_le hb h.size) hne).trans (h.block b hb hne)⟩
theorem grown_below {w w1 w2:World} {G:Option Nat} (h:w.grownBy w1 G) (k:Below w1.heap.size w1 w2):w.grownBy w2 G:=grown_trans h (grown_by_below k G)
theorem grown_set {w w1:World} {G:Option Nat} (h:w.grownBy w1 G) {p:Addr} (hp:w.heap.size≤p.block) (x:Value):w.grownBy (w1.setCell p x) G :=
  ⟨h.os,h.tape,h.output,by simpa using h.size,fun b hb hne=>by rw [Below.heap_setCell _ _ _ _ (by omega)];exact h.block b hb hne⟩
theorem grown_alloc {w w1:World} {G:Option Nat} (h:w.grownBy w1 G) (o:Obj):w.grownBy (w1.alloc o) G:=grown_below h ((Below.refl _ _).alloc (Nat.le_refl _) _)
theorem reads_grown {w0 w w1:World} {G:Option Nat} (h:Reads w0 w) (hg:w.grownBy w1 G) (hG:∀ k,G=some k→w0.heap.size≤k):Reads w0 w1:=⟨Nat.le_trans h.size hg.size,fun p v hv=>by
  have hlt:=World.block_lt_of_cell? w0 p hv
  rw [World.cell?_of_block (w:=w) (w':=w1) (a:=p) (hg.block p.block (Nat.lt_of_lt_of_le hlt h.size) (fun e=>by have:=hG _ e.symm;omega))]
  exact h.cell p v hv⟩
theorem Beside.frm {w0 w wr w':World} {o:Value} {y:Tv} {G:Option Nat} (h:Beside w0 w wr o y) (hg:wr.grownBy w' G) (hG:∀ k,G=some k→k < w.heap.size):Beside w0 w w' o y:=fun W h1 h2 h3 =>
  h W h1 (Nat.le_trans hg.size h2) (fun b b1 b2 b3=>by
    rw [h3 b b1 (Nat.lt_of_lt_of_le b2 hg.size) b3]
    exact hg.block b b2 (fun e=>by have:=hG b e.symm;omega))
theorem Box.frm {w w1:World} {g:Nat} {x0 x1 x2 x3:Value} {G:Option Nat} (h:Box w g x0 x1 x2 x3) (hb:w.grownBy w1 G) (hg:g < w.heap.size) (hG:∀ k,G=some k→k≠g):Box w1 g x0 x1 x2 x3:=by
  have e:∀ o,w1.cell? ⟨g,o,none⟩=w.cell? ⟨g,o,none⟩:=fun o=>World.cell?_of_block (hb.block g hg (fun e=>hG g e.symm rfl))
  have e2:∀ o,w1.frozen? ⟨g,o,none⟩=w.frozen? ⟨g,o,none⟩:=fun o=>World.frozen?_of_block (hb.block g hg (fun e=>hG g e.symm rfl))
  exact ⟨(e 0).trans h.c0,(e 1).trans h.c1,(e 2).trans h.c2,(e 3).trans h.c3,(e2 0).trans h.f0,(e2 1).trans h.f1,(e2 2).trans h.f2,(e2 3).trans h.f3⟩
theorem Beside.sets {w0 w wr:World} {o:Value} {y:Tv} {g:Nat} (h:Beside w0 w wr o y) (ho:o.ownBlock=some g) (i0 i1 i2 i3:Nat) (u0 u1 u2 u3:Value) :
    Beside w0 w ((((wr.setCell ⟨g,i0,none⟩ u0).setCell ⟨g,i1,none⟩ u1).setCell ⟨g,i2,none⟩ u2).setCell ⟨g,i3,none⟩ u3) o y:=fun W h1 h2 h3 =>
  h W h1 (by simpa using h2) (fun b b1 b2 b3=>by
    have hne:b≠g:=fun e=>b3 (by rw [ho,e])
    rw [h3 b b1 (by simpa using b2) b3,Below.heap_setCell _ _ _ _ hne,Below.heap_setCell _ _ _ _ hne,Below.heap_setCell _ _ _ _ hne,Below.heap_setCell _ _ _ _ hne])
theorem grown_sets {w w1:World} {G:Option Nat} (h:w.grownBy w1 G) {g:Nat} (hp:w.heap.size≤g) (i0 i1 i2 i3:Nat) (u0 u1 u2 u3:Value):w.grownBy ((((w1.setCell ⟨g,i0,none⟩ u0).setCell ⟨g,i1,none⟩ u1).setCell ⟨g,i2,none⟩ u2).setCell ⟨g,i3,none⟩ u3) G :=
  grown_set (p:=⟨g,i3,none⟩) (grown_set (p:=⟨g,i2,none⟩) (grown_set (p:=⟨g,i1,none⟩) (grown_set (p:=⟨g,i0,none⟩) h hp _) hp _) hp _) hp _
theorem bsets {B:Nat} {a w:World} (h:Below B a w) {g:Nat} (hg:B≤g) (i0 i1 i2 i3:Nat) (u0 u1 u2 u3:Value):Below B a ((((w.setCell ⟨g,i0,none⟩ u0).setCell ⟨g,i1,none⟩ u1).setCell ⟨g,i2,none⟩ u2).setCell ⟨g,i3,none⟩ u3) :=
  (((h.setCell (p:=⟨g,i0,none⟩) hg _).setCell (p:=⟨g,i1,none⟩) hg _).setCell (p:=⟨g,i2,none⟩) hg _).setCell (p:=⟨g,i3,none⟩) hg _
theorem nil_yes (W:World):(binOp BinOp.eql 63 (.slice none 0 0) (.slice none 0 0)).run Tryz.prog W=.ok (.bool true) W:=by kernel_rfl
theorem nil_no (a:Addr) (n c:Nat) (W:World):(binOp BinOp.eql 63 (.slice (some a) n c) (.slice none 0 0)).run Tryz.prog W=.ok (.bool false) W:=by kernel_rfl
def RepPost (f:Tm→Option Tm) (t:Tm) (w0 w:World) (G:Option Nat) (Q':World→Prop) (e:Ending) (w':World):Prop :=
  ∃ z:Tv,e=.returned (.tuple #[z.val,.bool (repB f t)])∧z.t=repT f t∧Fresh w0 w w' z∧w.grownBy w' G∧Q' w'
def Tells (g:Nat) (cb:Array Value) (f:Tm→Option Tm) (o:Tm→Bool) (w0:World) (B:Nat) (G:Option Nat) (Q:Bool→World→Prop):Prop :=
  ∀ (b:Bool) (x:Tv) (W:World),x.ok w0→Reads w0 W→B≤W.heap.size→Q b W →
    Calls Tryz.prog g (#[x.val] ++ cb) W fun e w'=>∃ y:Tv,e=.returned (.tuple #[y.val,.bool (f x.t).isSome])∧y.t=(f x.t).getD zeroT∧y.ok w0∧W.grownBy w' G∧Q (b&&o x.t) w'
def ArgsSo (f:Tm→Option Tm) (l:List Tm) (q:Nat) (w0 wz wr:World) (v:Value):Prop :=
  (v=.slice none 0 0∧(l.take q).any (repB f)=false) ∨
  ((l.take q).any (repB f)=true∧∃ (g cap:Nat) (vs:List Tv),v=.slice (some ⟨g,0,none⟩) l.length cap∧vs.map Tv.t=putK f l q∧(∀ z ∈ vs,Beside w0 wz wr v z)∧wr.ownsRow wz.heap.size 70 4 v l.length (rowTv vs))
structure Box4 (w:World) (g o:Nat) (v:Tv):Prop where
  c0:w.cell? ⟨g,o,none⟩=some (.int .i64 v.t.kind)
  c1:w.cell? ⟨g,o + 1,none⟩=some (.string v.t.name)
  c2:w.cell? ⟨g,o + 2,none⟩=some (.int .i64 v.t.n)
  c3:w.cell? ⟨g,o + 3,none⟩=some (.slice v.a v.t.args.length v.c)
  f0:w.frozen? ⟨g,o,none⟩=false
  f1:w.frozen? ⟨g,o + 1,none⟩=false
  f2:w.frozen? ⟨g,o + 2,none⟩=false
  f3:w.frozen? ⟨g,o + 3,none⟩=false
theorem ArgsSo.frm {f:Tm→Option Tm} {l:List Tm} {q:Nat} {w0 wz wr w':World} {v:Value} {G:Option Nat} (h:ArgsSo f l q w0 wz wr v) (hg:wr.grownBy w' G) (hG:∀ k,G=some k→k < wz.heap.size):ArgsSo f l q w0 wz w' v:=by
  rcases h with h | ⟨h1,g,cap,vs,hv,ht,hb,ho⟩
  · exact .inl h
  · refine .inr ⟨h1,g,cap,vs,hv,ht,fun z hz=>(hb z hz).frm hg hG,ho.kept hg (.inr fun e=>?_)⟩
    have:=hG g (by rw [← e,hv];rfl)
    have:=(ho.lt g (by rw [hv];rfl)).1
    omega
theorem ArgsSo.skip {f:Tm→Option Tm} {l:List Tm} {q:Nat} {w0 wz wr:World} {v:Value} (h:ArgsSo f l q w0 wz wr v) (hq:q < l.length) (hs:repB f l[q]=false):ArgsSo f l (q + 1) w0 wz wr v:=by
  rcases h with ⟨hv,h⟩ | ⟨h1,g,cap,vs,hv,ht,hb,ho⟩
  · exact .inl ⟨hv,by rw [any_take _ hq,h,hs];rfl⟩
  · exact .inr ⟨by rw [any_take _ hq,h1];rfl,g,cap,vs,hv,by rw [putK_same f hq hs];exact ht,hb,ho⟩
theorem args_put {f:Tm→Option Tm} {l:List Tm} {q:Nat} {w0 wz w6:World} {g cap:Nat} {vs:List Tv} {z:Tv} (hq:q < l.length) (hs:repB f l[q]=true) (hz:z.t=repT f l[q]) (ht:vs.map Tv.t=putK f l q) (hb:∀ y ∈ vs,Beside w0 wz w6 (.slice (some ⟨g,0,none⟩) l.length cap) y) (hzb:Beside w0 wz w6 (.slice (some ⟨g,0,none⟩) l.length cap) z)
    (ho:w6.ownsRow wz.heap.size 70 4 (.slice (some ⟨g,0,none⟩) l.length cap) l.length (rowTv vs)) :
    ArgsSo f l (q + 1) w0 wz ((((w6.setCell ⟨g,q * 4,none⟩ (.int .i64 z.t.kind)).setCell ⟨g,q * 4 + 1,none⟩ (.string z.t.name)).setCell ⟨g,q * 4 + 2,none⟩ (.int .i64 z.t.n)).setCell ⟨g,q * 4 + 3,none⟩ (.slice z.a z.t.args.length z.c)) (.slice (some ⟨g,0,none⟩) l.length cap):=by
  have hvl:vs.length=l.length:=by have:=congrArg List.length ht;rw [List.length_map,putK_length] at this;exact this
  refine .inr ⟨by rw [any_take _ hq,hs,Bool.or_true],g,cap,vs.set q z,rfl,by rw [map_set_t,ht,hz,putK_set f hq],fun y hy=>?_,own_put ho z q (by omega)⟩
  rcases List.mem_or_eq_of_mem_set hy with h | rfl
  · exact (hb y h).sets rfl _ _ _ _ _ _ _ _
  · exact hzb.sets rfl _ _ _ _ _ _ _ _
theorem own_four {w:World} {base:Nat} {g n cap:Nat} {vs:List Tv} (h:w.ownsRow base 70 4 (.slice (some ⟨g,0,none⟩) n cap) n (rowTv vs)) (q:Nat) (hq:q < vs.length):Box4 w g (q * 4) vs[q]:=by
  have hrc:=fun (i:Nat) (hi:i < 4) (v:Value) (hv:vs[q].cells[i]? = some v)=>(show w.cell? ⟨g,q * 4 + i,none⟩=some v from by
    have h:=h.cells (g:=g) rfl (q * 4 + i) v (by rw [rowTv_get vs q hq i hi];exact hv)
    rwa [addr_row,Nat.zero_add] at h)
  have hfr:∀ o,w.frozen? ⟨g,o,none⟩=false:=fun o=>by
    rcases h.2 with ⟨h,_⟩ | ⟨g',cap',cur,hv,_,hgc,_⟩
    · cases h
    · obtain ⟨rfl,rfl⟩:g=g'∧cap=cap':=by cases hv;exact ⟨rfl,rfl⟩
      simp [World.frozen?,hgc]
  exact ⟨hrc 0 (by decide) _ rfl,hrc 1 (by decide) _ rfl,hrc 2 (by decide) _ rfl,hrc 3 (by decide) _ rfl,hfr _,hfr _,hfr _,hfr _⟩
set_option maxRecDepth 100000 in
set_option maxHeartbeats 4000000 in
theorem rep_tm (g:Nat) (cb:Array Value) (eg:∀ args w,(callFunc g args).run Tryz.prog w=.ok (.enter g args) w) (f:Tm→Option Tm) (o:Tm→Bool) (w0:World) (B:Nat) (G:Option Nat) (Q:Bool→World→Prop)
    (hG:∀ k,G=some k→w0.heap.size≤k∧k < B) (hQ:∀ b W W',Q b W→Below B W W'→Q b W') (hO:Tells g cb f o w0 B G Q) (m:Nat) :
    ∀ (b:Bool) (x:Tv) (w:World),x.t.parts≤m→m≤2300000000000→x.ok w0→Reads w0 w→B≤w.heap.size→Q b w →
    Calls Tryz.prog 231 #[x.val,.func (.func g) #[] cb] w (RepPost f x.t w0 w G (Q (b&&okT o f x.t))):=by
  induction m with
  | zero=>intro b x w h;have:=parts_pos x.t;omega
  | succ m ih =>
    intro b x w hm hm1 hx hb0 hBw hq
    obtain ⟨i0,hi0,hiz0,his0,hib0⟩:=info_parts termInfo
    have HO:=Lib.hid hO
    have HQ:=Lib.hid hQ
    have HG:=Lib.hid hG
    obtain ⟨t,ax,cx⟩:=x
    have hz1:(w.alloc (.cells #[.int .i64 t.kind,.string t.name,.int .i64 t.n,.slice ax t.args.length cx] 70)).heap.size=w.heap.size + 1:=by simp
    have hB2:Below w.heap.size w ((w.alloc (.cells #[.int .i64 t.kind,.string t.name,.int .i64 t.n,.slice ax t.args.length cx] 70)).alloc (.cells #[.int .i64 0,.string ⟨#[]⟩,.int .i64 0,.slice none 0 0] 70)):=((Below.refl _ _).alloc (Nat.le_refl _) _).alloc (by rw [hz1];omega) _
    obtain ⟨wz,hwz⟩:∃ wz,wz=((w.alloc (.cells #[.int .i64 t.kind,.string t.name,.int .i64 t.n,.slice ax t.args.length cx] 70)).alloc (.cells #[.int .i64 0,.string ⟨#[]⟩,.int .i64 0,.slice none 0 0] 70)):=⟨_,rfl⟩
    have hzs:wz.heap.size=w.heap.size + 2:=by rw [hwz];simp
    have bX:=(box_new w (.int .i64 t.kind) (.string t.name) (.int .i64 t.n) (.slice ax t.args.length cx) 70).below ((Below.refl _ _).alloc (Nat.le_refl _) (.cells #[.int .i64 0,.string ⟨#[]⟩,.int .i64 0,.slice none 0 0] 70)) (by rw [hz1];omega)
    have bR:=box_new (w.alloc (.cells #[.int .i64 t.kind,.string t.name,.int .i64 t.n,.slice ax t.args.length cx] 70)) (.int .i64 0) (.string ⟨#[]⟩) (.int .i64 0) (.slice none 0 0) 70
    rw [hz1] at bR
    rw [← hwz] at bX bR hB2
    have hGz:∀ k,G=some k→k < w.heap.size:=fun k hk=>by have:=hG k hk;omega
    have HGZ:=Lib.hid hGz
    have hargs:t.args.length≤2300000000000:=by have:=partsL_length t.args;have:=parts_eq t;simp only at hm;omega
    have hpl:∀ j (h:j < t.args.length),t.args[j].parts≤m:=fun j h=>by have:=parts_arg t h;simp only at hm;omega
    have HBX:=Lib.hid (fun (V:World) (h:wz.grownBy V G)=>bX.frm h (by omega) (fun k hk=>by have:=hGz k hk;omega))
    have HBR:=Lib.hid (fun (V:World) (h:wz.grownBy V G)=>bR.frm h (by omega) (fun k hk=>by have:=hGz k hk;omega))
    have HX:=Lib.hid hx
    have HB0:=Lib.hid hb0
    have HBZ:=Lib.hid hB2
    have HZS:=Lib.hid hzs
    have HWZ:=Lib.hid hwz
    have IH:=Lib.hid ih
    have HPL:=Lib.hid hpl
    have hb0z:=hb0.trans (reads_below hB2)
    have C0:=Lib.hid (hO b ⟨t,ax,cx⟩ wz hx hb0z (by omega) (hQ b w wz hq (hB2.mono hBw)))
    have HOKT:=Lib.hid (okT_eq o f t)
    obtain ⟨p0,p1,p2,p3,_,_,_,_⟩:=HBX.out wz (grown_refl wz G)
    clear bX bR hB2 hzs hx hb0 hz1 ih hpl hO hQ hG hGz hb0z hq
    simp only [Tv.val] at *
    go_enter Tryz.func231,Tryz.ntmps231
    go_wp2_with fail
    rw [← hwz]
    clear hwz
    refine C0.out.mono ?_;rintro e w1 ⟨⟨ty,aY,cY⟩,rfl,hyt,hyo,hg1,hq1⟩
    have hgA:wz.grownBy (w1.alloc (.cells #[.int .i64 ty.kind,.string ty.name,.int .i64 ty.n,.slice aY ty.args.length cY] 70)) G:=grown_alloc hg1 _
    have HGA:=Lib.hid hgA
    have HYT:=Lib.hid hyt
    have HYO:=Lib.hid hyo
    have hbA1:Below B w1 (w1.alloc (.cells #[.int .i64 ty.kind,.string ty.name,.int .i64 ty.n,.slice aY ty.args.length cY] 70)):=(Below.refl _ _).alloc (by have:=hg1.size;have:=HZS.out;omega) _
    have HQ1:=Lib.hid (HQ.out _ _ _ hq1 hbA1)
    have HSZ1:=Lib.hid hg1.size
    clear hyt hyo hg1 hq1 hgA hbA1 C0 p0 p1 p2 p3
    have hzw:=HZS.out
    have hs1:w.heap.size + 2≤w1.heap.size:=by have:=HSZ1.out;omega
    cases hf:f t with
    | some u =>
      have HF:=Lib.hid (repT_some hf)
      have HU:=Lib.hid (show ty=u by have:=HYT.out;rw [hf] at this;exact this)
      have HOK:=Lib.hid (show okT o f t=o t by rw [HOKT.out,hf];simp)
      have hbR:=HBR.out _ HGA.out
      have BR8:=Lib.hid (hbR.sets (.int .i64 ty.kind) (.string ty.name) (.int .i64 ty.n) (.slice aY ty.args.length cY))
      obtain ⟨q0,q1,q2,q3,f0,f1,f2,f3⟩:=hbR
      have HSM:=Lib.hid (show (f t).isSome=true by rw [hf];rfl)
      clear hf
      go_wp2_with fail
      obtain ⟨q0,q1,q2,q3,f0,f1,f2,f3⟩:=BR8.out
      refine bodyPost_ret (v:=.tuple #[.agg #[.int .i64 ty.kind,.string ty.name,.int .i64 ty.n,.slice aY ty.args.length cY],.bool true]) (by simp [results,Tryz.results231,go_sem,q0,q1,q2,q3]) rfl ?_
      refine ⟨⟨ty,aY,cY⟩,by rw [HF.out.2];rfl,by rw [HF.out.1];exact HU.out,fresh_old HYO.out,grown_sets (grown_trans (grown_by_below HBZ.out G) HGA.out) (Nat.le_succ _) _ _ _ _ _ _ _ _,?_⟩
      rw [HOK.out]
      exact HQ.out _ _ _ HQ1.out (bsets (Below.refl _ _) (by omega) _ _ _ _ _ _ _ _)
    | none =>
      have HF:=Lib.hid (repT_none hf)
      have HOK:=Lib.hid (show okT o f t=(o t&&t.args.all (okT o f)) by rw [HOKT.out,hf];simp)
      have HSM:=Lib.hid (show (f t).isSome=false by rw [hf];rfl)
      obtain ⟨p0,p1,p2,p3,_,_,_,_⟩:=HBX.out _ HGA.out
      clear hf
      go_wp2_with fail
      go_loopw [8,24] (fun v s wr=>∃ q:Nat,s=.int .i64 q∧q≤t.args.length∧Hid (ArgsSo f t.args q w0 wz wr v)∧Hid (wz.grownBy wr G)∧Hid (Q (b&&(o t&&(t.args.take q).all (okT o f))) wr)) (fun _ k _=>t.args.length - (intOf k).toNat)
      case atStart=>exact ⟨0,rfl,Nat.zero_le _,Lib.hid (.inl ⟨rfl,by simp⟩),HGA,Lib.hid (by simpa using HQ1.out)⟩
      case round =>
        obtain ⟨q,rfl,hq,HARG,HGW,HQW⟩:=hrel
        have hbs:=HGW.out.size
        have hB0w:=reads_grown (HB0.out.trans (reads_below HBZ.out)) HGW.out (fun k hk=>(HG.out k hk).1)
        by_cases hql:q < t.args.length
        · obtain ⟨b',o',rfl,hlt',hrow⟩:=HX.out.2.2.resolve_left (by intro h;simp only at h;rw [h] at hql;simp at hql)
          obtain ⟨y,hyt,hyo,hy⟩:=tmAt_tv (rowAt_get hrow hql)
          obtain ⟨m0,m1,m2,m3⟩:TvAt wr b' (o' + q * 4) y:=⟨hB0w.cell _ _ hy.c0,hB0w.cell _ _ hy.c1,hB0w.cell _ _ hy.c2,hB0w.cell _ _ hy.c3⟩
          obtain ⟨zt,za,zc⟩:=y
          simp only at hyt hyo m0 m1 m2 m3
          have hws:Below wr.heap.size wr (wr.alloc (.cells #[.int .i64 zt.kind,.string zt.name,.int .i64 zt.n,.slice za zt.args.length zc] 70)):=(Below.refl _ _).alloc (Nat.le_refl _) _
          have hBs:=hB0w.trans (reads_below hws)
          have hBr:B≤wr.heap.size:=by omega
          have C:=Lib.hid (IH.out (b&&(o t&&(t.args.take q).all (okT o f))) ⟨zt,za,zc⟩ (wr.alloc (.cells #[.int .i64 zt.kind,.string zt.name,.int .i64 zt.n,.slice za zt.args.length zc] 70)) (by simp only;rw [hyt];exact HPL.out q hql) (by omega) hyo hBs (Nat.le_trans hBr hws.size) (HQ.out _ _ _ HQW.out (hws.mono hBr)))
          have HVS:=Lib.hid (rowAt_vs hrow)
          have HYT2:=Lib.hid hyt
          have hq0:(0:Int)≤(q:Int):=by omega
          have hq1:(q:Int) < (t.args.length:Int):=by omega
          have hq5:(q:Int)≤2300000000000:=by omega
          have hqw:(q:Int).toNat=q:=by omega
          obtain ⟨p0,p1,p2,p3,_,_,_,_⟩:=HBX.out wr HGW.out
          have HWS:=Lib.hid hws
          have HBSS:=Lib.hid hBs
          clear hyt hyo hy hrow hws hBs hB0w
          go_wp2_with fail
          refine C.out.mono ?_;rintro e w4 ⟨⟨vt,vA,vC⟩,rfl,hzt,hzf,hg4,hq4⟩
          have hg5:wr.grownBy (w4.alloc (.cells #[.int .i64 vt.kind,.string vt.name,.int .i64 vt.n,.slice vA vt.args.length vC] 70)) G:=grown_alloc (grown_trans (grown_by_below HWS.out G) hg4) _
          have hszs:(wr.alloc (.cells #[.int .i64 zt.kind,.string zt.name,.int .i64 zt.n,.slice za zt.args.length zc] 70)).heap.size=wr.heap.size + 1:=by simp
          have HGS:=Lib.hid hg4
          have HZT:=Lib.hid hzt
          have HZF:=Lib.hid hzf
          have HS4:=Lib.hid hg4.size
          have hl4:wr.heap.size + 1≤w4.heap.size:=by have:=hg4.size;omega
          have HQ4:=Lib.hid (show Q (b&&(o t&&(t.args.take (q + 1)).all (okT o f))) w4 by
            have h:=hq4
            rw [all_take _ hql,← HYT2.out]
            rw [Bool.and_assoc,Bool.and_assoc] at h
            exact h)
          have HQ5:=Lib.hid (HQ.out _ _ _ HQ4.out (show Below B w4 (w4.alloc (.cells #[.int .i64 vt.kind,.string vt.name,.int .i64 vt.n,.slice vA vt.args.length vC] 70)) from (Below.refl _ _).alloc (by omega) _))
          have HG5:=Lib.hid hg5
          have HGZ5:=Lib.hid (grown_trans HGW.out hg5)
          have hGz:∀ k,G=some k→k < wz.heap.size:=fun k hk=>by have:=HGZ.out k hk;omega
          have HA5:=Lib.hid (HARG.out.frm hg5 hGz)
          have HA4:=Lib.hid (HARG.out.frm (grown_trans (grown_by_below HWS.out G) hg4) hGz)
          have HG4:=Lib.hid (grown_trans HGW.out (grown_trans (grown_by_below HWS.out G) hg4))
          have B11:=Lib.hid (box_new w4 (.int .i64 vt.kind) (.string vt.name) (.int .i64 vt.n) (.slice vA vt.args.length vC) 70)
          clear hzt hzf hg4 hq4 hg5 m0 m1 m2 m3 p0 p1 p2 p3 hszs C
          simp only [Tv.val]
          cases hr:repB f zt with
          | false =>
            have HA6:=Lib.hid (HA5.out.skip hql (by rw [← HYT2.out];exact hr))
            go_wp2_with fail
            go_roundw
            case rel=>exact ⟨q + 1,by go_num,by omega,HA6,HGZ5,HQ5⟩
            case measure=>simp [intOf];omega
          | true =>
            have HR:=Lib.hid hr
            have hnz:w4.heap.size≠w.heap.size:=by omega
            rcases HA4.out with ⟨hv,hany⟩ | ⟨hany,g7,cap,vs,hv,hvt,hvb,hown⟩
            · subst hv
              obtain ⟨vs,hvt,hvo,hvc⟩:=HVS.out
              have hvl:vs.length=t.args.length:=by have:=congrArg List.length hvt;rw [List.length_map] at this;exact this
              have hA1:Below w4.heap.size w4 (w4.alloc (.cells #[.int .i64 vt.kind,.string vt.name,.int .i64 vt.n,.slice vA vt.args.length vC] 70)):=(Below.refl _ _).alloc (Nat.le_refl _) _
              have hB04:Reads w0 (w4.alloc (.cells #[.int .i64 vt.kind,.string vt.name,.int .i64 vt.n,.slice vA vt.args.length vC] 70)):=reads_grown HBSS.out (show (wr.alloc (.cells #[.int .i64 zt.kind,.string zt.name,.int .i64 zt.n,.slice za zt.args.length zc] 70)).grownBy (w4.alloc (.cells #[.int .i64 vt.kind,.string vt.name,.int .i64 vt.n,.slice vA vt.args.length vC] 70)) G from grown_alloc HGS.out _) (fun k hk=>(HG.out k hk).1)
              have H1:=Lib.hid (show (rowTv vs).length=t.args.length * 4∧(∀ j u,(rowTv vs)[j]? = some u→(w4.alloc (.cells #[.int .i64 vt.kind,.string vt.name,.int .i64 vt.n,.slice vA vt.args.length vC] 70)).cell? ((⟨b',o',none⟩:Addr).add j)=some u)∧(∀ u ∈ rowTv vs,u.oneCell'=true) from ⟨by rw [rowTv_length,hvl],fun j u hj=>by rw [addr_row];exact hB04.cell _ _ (hvc j u hj),rowTv_one' vs⟩)
              have hzb0:Beside w0 wz (w4.alloc (.cells #[.int .i64 vt.kind,.string vt.name,.int .i64 vt.n,.slice vA vt.args.length vC] 70)) (.slice none 0 0) ⟨vt,vA,vC⟩:=(beside_fresh (w:=wz) HZF.out (by simp;omega) (fun k hk=>by cases hk)).below hA1
              have HZB:=Lib.hid hzb0
              have HPK:=Lib.hid (show vs.map Tv.t=putK f t.args q by rw [putK_none f hany];exact hvt)
              have HVO:=Lib.hid hvo
              have HVL:=Lib.hid hvl
              have NY:=nil_yes
              obtain ⟨p0,p1,p2,p3,_,_,_,_⟩:=HBX.out w4 HG4.out
              have hxw:w.heap.size < w4.heap.size:=by omega
              have hap:t.args.length≤maxLen:=by unfold maxLen;omega
              clear hany hvt hvo hvc hvl hA1 hB04 hzb0 p0 p1 p2
              go_wp2_with (at_builtin;refine wpList_append_own_at _ rfl _ _ 63 rfl wz.heap.size 70 i0 (.agg #[.int .i64 0,.string ⟨#[]⟩,.int .i64 0,.slice none 0 0]) 4 56 Tryz.underlying63 hi0 hiz0 his0 hib0 rfl (by decide) (.slice none 0 0) 0 [] rfl (World.ownsRow_nil _ _ _ _) ⟨b',o',none⟩ t.args.length cx (rowTv vs) rfl H1.out.1 H1.out.2.1 H1.out.2.2 ?ap3 ?ap4 ?ap5 ?_)
              case ap4=>omega
              case ap5=>omega
              intro v6 w6 hown hgrow hnil hat
              have hown2:=hown
              rw [← HZS.out] at hown2
              obtain ⟨g7,cap,rfl⟩:∃ g7 cap,v6=.slice (some ⟨g7,0,none⟩) t.args.length cap:=by
                rcases hown2.2 with ⟨h,_⟩ | ⟨g',cap',cur,h,_⟩
                · have:=congrArg List.length (hnil.1 h);rw [List.length_nil] at this;omega
                · exact ⟨g',cap',h⟩
              have hb46:Below (w4.alloc (.cells #[.int .i64 vt.kind,.string vt.name,.int .i64 vt.n,.slice vA vt.args.length vC] 70)).heap.size (w4.alloc (.cells #[.int .i64 vt.kind,.string vt.name,.int .i64 vt.n,.slice vA vt.args.length vC] 70)) w6:=(Below.refl _ _).grown hgrow (Nat.le_refl _) (fun k hk=>by cases hk)
              have hz4:(w4.alloc (.cells #[.int .i64 vt.kind,.string vt.name,.int .i64 vt.n,.slice vA vt.args.length vC] 70)).heap.size=w4.heap.size + 1:=by simp
              have hzb6:Beside w0 wz w6 (.slice (some ⟨g7,0,none⟩) t.args.length cap) ⟨vt,vA,vC⟩:=HZB.out.grown hgrow (by rw [hz4];exact hat)
              have hvb6:∀ y ∈ vs,Beside w0 wz w6 (.slice (some ⟨g7,0,none⟩) t.args.length cap) y:=fun y hy=>beside_old (HVO.out y hy)
              have HF:=Lib.hid (args_put hql (by rw [← HYT2.out];exact HR.out) (by rw [← HYT2.out];exact HZT.out) HPK.out hvb6 hzb6 hown2)
              have hg7w:g7=w4.heap.size + 1:=by rcases hat with h | h;cases h;injection h
              have HG7:=Lib.hid (show wz.heap.size≤g7 by omega)
              obtain ⟨r0,r1,r2,r3,z0,z1,z2,z3⟩:=own_four hown2 q (by rw [HVL.out];exact hql)
              obtain ⟨s0,s1,s2,s3,_,_,_,_⟩:=B11.out.below hb46 (by rw [hz4];omega)
              have HGF:=Lib.hid (grown_below HGZ5.out hb46)
              have HQF:=Lib.hid (HQ.out _ _ _ HQ5.out (hb46.mono (by rw [hz4];omega)))
              clear hown hown2 hgrow hnil hat hb46 hzb6 hvb6 hz4 hg7w p3 hzw hGz
              go_wp2_with fail
              go_roundw
              case rel=>exact ⟨q + 1,by go_num,by omega,HF,Lib.hid (grown_sets HGF.out HG7.out _ _ _ _ _ _ _ _),Lib.hid (HQ.out _ _ _ HQF.out (bsets (Below.refl B _) (by have:=HG7.out;have:=HZS.out;omega) _ _ _ _ _ _ _ _))⟩
              case measure=>simp [intOf];omega
            · subst hv
              have hvl:vs.length=t.args.length:=by have:=congrArg List.length hvt;rw [List.length_map,putK_length] at this;exact this
              obtain ⟨r0,r1,r2,r3,z0,z1,z2,z3⟩:=own_four hown q (by omega)
              have hg7:=(hown.lt g7 rfl)
              have hg7r:g7 < wr.heap.size:=by
                rcases HARG.out with ⟨hv',_⟩ | ⟨_,g',cap',vs',hv',_,_,ho'⟩
                · cases hv'
                · cases hv';exact (ho'.lt g7 rfl).2
              have hzb:Beside w0 wz w4 (.slice (some ⟨g7,0,none⟩) t.args.length cap) ⟨vt,vA,vC⟩ :=
                beside_fresh (w:=wz) HZF.out (by simp;omega) (fun k hk=>by cases hk;simp;omega)
              have HF:=Lib.hid (fun (O:Obj)=>(args_put hql (by rw [← HYT2.out];exact HR.out) (by rw [← HYT2.out];exact HZT.out) hvt hvb hzb hown).frm (grown_alloc (grown_refl _ G) O) hGz)
              have HG7:=Lib.hid hg7.1
              have NN:=nil_no ⟨g7,0,none⟩ t.args.length cap
              have hne47:w4.heap.size≠g7:=by omega
              have hg74:g7 < w4.heap.size:=by omega
              clear hvt hvb hown hany hzb hg7 hg7r hGz
              go_wp2_with fail
              go_roundw
              case rel=>exact ⟨q + 1,by go_num,by omega,Lib.hid (HF.out _),Lib.hid (grown_alloc (grown_sets HG4.out HG7.out _ _ _ _ _ _ _ _) _),Lib.hid (HQ.out _ _ _ HQ4.out ((bsets (Below.refl B w4) (by have:=HG7.out;omega) _ _ _ _ _ _ _ _).alloc (by simp;omega) _))⟩
              case measure=>simp [intOf];omega
        · have hqe:q=t.args.length:=by omega
          have hqd:decide ((q:Int) < (t.args.length:Int))=false:=decide_eq_false (by omega)
          have hql1:t.args.length≤q:=by omega
          have HQE:=Lib.hid (show Q (b&&okT o f t) wr by have h:=HQW.out;rw [hqe,List.take_length] at h;rw [HOK.out];exact h)
          obtain ⟨p0,p1,p2,p3,e0,e1,e2,e3⟩:=HBX.out wr HGW.out
          have BX:=Lib.hid (HBX.out wr HGW.out)
          have hbR:=HBR.out wr HGW.out
          rcases HARG.out with ⟨hv,hany⟩ | ⟨hany,g7,cap,vs,hv,hvt,hvb,hown⟩
          · have HF2:=Lib.hid (show repT f t=t∧repB f t=false by
              have h1:repB f t=false:=by rw [HF.out.2,← hany,hqe,List.take_length]
              exact ⟨repT_same f t h1,h1⟩)
            have BR8:=Lib.hid (hbR.sets (.int .i64 t.kind) (.string t.name) (.int .i64 t.n) (.slice ax t.args.length cx))
            obtain ⟨q0,q1,q2,q3,f0,f1,f2,f3⟩:=hbR
            subst hv
            have NY:=nil_yes
            clear hqe hany HARG
            go_wp2_with fail
            obtain ⟨q0,q1,q2,q3,f0,f1,f2,f3⟩:=BR8.out
            (try simp only [Exit.inBlock,Exit.then])
            refine bodyPost_ret (v:=.tuple #[.agg #[.int .i64 t.kind,.string t.name,.int .i64 t.n,.slice ax t.args.length cx],.bool false]) (by simp [results,Tryz.results231,go_sem,q0,q1,q2,q3]) rfl ?_
            refine ⟨⟨t,ax,cx⟩,by rw [HF2.out.2];rfl,HF2.out.1.symm,fresh_old HX.out,grown_sets (grown_trans (grown_by_below HBZ.out G) HGW.out) (Nat.le_succ _) _ _ _ _ _ _ _ _,?_⟩
            exact HQ.out _ _ _ HQE.out (bsets (Below.refl _ _) (by omega) _ _ _ _ _ _ _ _)
          · have HF2:=Lib.hid (show repT f t=.mk t.kind t.name t.n (t.args.map (repT f))∧repB f t=true from ⟨HF.out.1,by rw [HF.out.2,← hany,hqe,List.take_length]⟩)
            rw [hqe,putK_all] at hvt
            subst hv
            have HV:=Lib.hid (And.intro hvt (And.intro hvb hown))
            have hX3:Box (wr.setCell ⟨w.heap.size,3,none⟩ (.slice (some ⟨g7,0,none⟩) t.args.length cap)) w.heap.size (.int .i64 t.kind) (.string t.name) (.int .i64 t.n) (.slice (some ⟨g7,0,none⟩) t.args.length cap):=by
              refine ⟨?_,?_,?_,World.cell?_setCell_same _ _ _ p3,?_,?_,?_,?_⟩
              · rw [cell_off w.heap.size 3 0 (by decide)];exact p0
              · rw [cell_off w.heap.size 3 1 (by decide)];exact p1
              · rw [cell_off w.heap.size 3 2 (by decide)];exact p2
              · simp [e0]
              · simp [e1]
              · simp [e2]
              · simp [e3]
            have hR3:=hbR.aside (p:=⟨w.heap.size,3,none⟩) (by show w.heap.size + 1≠w.heap.size;omega) (.slice (some ⟨g7,0,none⟩) t.args.length cap)
            have BR8:=Lib.hid (hR3.sets (.int .i64 t.kind) (.string t.name) (.int .i64 t.n) (.slice (some ⟨g7,0,none⟩) t.args.length cap))
            obtain ⟨x0,x1,x2,x3,_,_,_,_⟩:=hX3
            obtain ⟨q0,q1,q2,q3,f0,f1,f2,f3⟩:=hR3
            have NN:=nil_no ⟨g7,0,none⟩ t.args.length cap
            clear hqe hany HARG hvt hvb hown hbR
            go_wp2_with fail
            obtain ⟨q0,q1,q2,q3,f0,f1,f2,f3⟩:=BR8.out
            (try simp only [Exit.inBlock,Exit.then])
            refine bodyPost_ret (v:=.tuple #[.agg #[.int .i64 t.kind,.string t.name,.int .i64 t.n,.slice (some ⟨g7,0,none⟩) t.args.length cap],.bool true]) (by simp [results,Tryz.results231,go_sem,q0,q1,q2,q3]) rfl ?_
            have hgw3:w.grownBy (wr.setCell ⟨w.heap.size,3,none⟩ (.slice (some ⟨g7,0,none⟩) t.args.length cap)) G:=grown_set (p:=⟨w.heap.size,3,none⟩) (grown_trans (grown_by_below HBZ.out G) HGW.out) (Nat.le_refl _) _
            refine ⟨⟨.mk t.kind t.name t.n (t.args.map (repT f)),some ⟨g7,0,none⟩,cap⟩,by rw [HF2.out.2];simp [Tv.val,Tm.kind,Tm.name,Tm.n,Tm.args],HF2.out.1.symm,?_,grown_sets hgw3 (Nat.le_succ _) _ _ _ _ _ _ _ _,?_⟩
            · have hz8:w.heap.size + 1 < wz.heap.size:=by omega
              have hz7:w.heap.size < wz.heap.size:=by omega
              refine fresh_row (vs:=vs) (n:=t.args.length) ?_ (by rw [List.length_map]) HV.out.1 HX.out.1 (by omega) (fun W hWb hWs hWa v hv=>?_)
              · have h5:=own_setCell HV.out.2.2 (p:=⟨w.heap.size,3,none⟩) hz7 (.slice (some ⟨g7,0,none⟩) t.args.length cap)
                have h8:=own_setCell (own_setCell (own_setCell (own_setCell h5 (p:=⟨w.heap.size + 1,0,none⟩) hz8 (.int .i64 t.kind)) (p:=⟨w.heap.size + 1,1,none⟩) hz8 (.string t.name)) (p:=⟨w.heap.size + 1,2,none⟩) hz8 (.int .i64 t.n)) (p:=⟨w.heap.size + 1,3,none⟩) hz8 (.slice (some ⟨g7,0,none⟩) t.args.length cap)
                exact own_lower h8 HBZ.out.size
              · refine HV.out.2.1 v hv W hWb (by simpa using hWs) (fun k k1 k2 _=>?_)
                rw [hWa k (by omega) (by simpa using k2),Below.heap_setCell _ _ _ _ (show k≠w.heap.size + 1 by omega),Below.heap_setCell _ _ _ _ (show k≠w.heap.size + 1 by omega),Below.heap_setCell _ _ _ _ (show k≠w.heap.size + 1 by omega),Below.heap_setCell _ _ _ _ (show k≠w.heap.size + 1 by omega),Below.heap_setCell _ _ _ _ (show k≠w.heap.size by omega)]
            · exact HQ.out _ _ _ HQE.out (bsets ((Below.refl _ _).setCell (p:=⟨w.heap.size,3,none⟩) (by omega) _) (by omega) _ _ _ _ _ _ _ _)
end Go.Proofs.YtjcleokfpohpdaaGreatDoor
