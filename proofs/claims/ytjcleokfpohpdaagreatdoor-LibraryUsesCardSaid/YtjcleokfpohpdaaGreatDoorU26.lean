/-
  Rows of binds of the calls' own, names in order, a row as values. No function of the program.
  Rows of binds that are held whole. No function of the program.
  Binds in order, by the program's Of: a copy, the library's stable sort, and of each name the first one.
-/
import Derived.Test.YtjcleokfpohpdaaGreatDoorU18
import Derived.Test.YtjcleokfpohpdaaGreatDoorU08
import Derived.Maps.AppendAt
import Derived.Laws.AppendOwnNone
import Derived.Test.YtjcleokfpohpdaaGreatDoorU20
import Derived.Test.YtjcleokfpohpdaaGreatDoorU21
import Derived.Test.YtjcleokfpohpdaaGreatDoorU25
namespace Go.Proofs.YtjcleokfpohpdaaGreatDoor
open Go.RowKit
theorem bindInfo:(Tryz.prog.info? 233).map (fun i=>(i.zero,i.size,i.bytes))=some (some (.agg #[.string ⟨#[]⟩,.int .i64 0,.string ⟨#[]⟩,.int .i64 0,.slice none 0 0]),5,72):=by kernel_rfl
theorem list_choose {β:Type} {P:Nat→β→Prop}:∀ {n:Nat},(∀ j,j < n→∃ y,P j y)→∃ vs:List β,vs.length=n∧∀ (j:Nat) (hj:j < vs.length),P j vs[j]
  | 0,_=>⟨[],rfl,fun j hj=>by simp at hj⟩
  | n + 1,h=>by
    obtain ⟨vs,hl,hv⟩:=list_choose (n:=n) fun j hj=>h j (by omega)
    obtain ⟨y,hy⟩:=h n (by omega)
    refine ⟨vs ++ [y],by simp [hl],fun j hj=>?_⟩
    by_cases e:j < vs.length
    · rw [List.getElem_append_left e];exact hv j e
    · have e2:j=vs.length:=by rw [List.length_append,List.length_singleton] at hj;omega
      subst e2
      rw [List.getElem_append_right (Nat.le_refl _)]
      simp only [Nat.sub_self,List.getElem_cons_zero]
      rw [hl];exact hy
theorem rows_vs {w:World} {bs:List Bn} {b o:Nat} (h:∀ (j:Nat) x,bs[j]? = some x→BdAt w x b (o + j * 5)) :
    ∃ vs:List Bv,vs.map Bv.bn=bs∧(∀ x ∈ vs,x.v.ok w∧x.s.size≤9223372036854775807)∧∀ q x,(rowBv vs)[q]? = some x→w.cell? ⟨b,o + q,none⟩=some x:=by
  obtain ⟨vs,hl,hv⟩:=list_choose (β:=Bv) (n:=bs.length) (P:=fun j y=>∃ x,bs[j]? = some x∧y.bn=x∧y.v.ok w∧y.s.size≤9223372036854775807∧BvAt w b (o + j * 5) y) fun j hj=>by
    have hx:=List.getElem?_eq_getElem hj
    have hA:=h j _ hx
    obtain ⟨y,h1,h2,h3⟩:=bdAt_bv hA
    exact ⟨y,_,hx,h1,h2,by have:=hA.1;rw [← h1] at this;exact this,h3⟩
  refine ⟨vs,?_,fun x hx=>?_,fun q x hq=>?_⟩
  · apply List.ext_getElem
    · rw [List.length_map,hl]
    · intro j h1 h2
      rw [List.length_map] at h1
      obtain ⟨x,hx,e,_⟩:=hv j h1
      rw [List.getElem?_eq_getElem h2] at hx
      rw [List.getElem_map,e];exact (Option.some.inj hx).symm
  · obtain ⟨j,hj,rfl⟩:=List.getElem_of_mem hx
    obtain ⟨_,_,_,h2,h3,_⟩:=hv j hj
    exact ⟨h2,h3⟩
  · have hq5:q < vs.length * 5:=by rw [← rowBv_length];exact (List.getElem?_eq_some_iff.1 hq).1
    have hj:q / 5 < vs.length:=by omega
    obtain ⟨_,_,_,_,_,m0,m1,m2,m3,m4⟩:=hv (q / 5) hj
    have e:q=q / 5 * 5 + q % 5:=by omega
    rw [e,rowBv_get vs (q / 5) hj (q % 5) (by omega)] at hq
    rcases (show q % 5=0∨q % 5=1∨q % 5=2∨q % 5=3∨q % 5=4 from by omega) with hr | hr | hr | hr | hr
    all_goals
      rw [hr] at hq
      simp only [Bv.cells,List.getElem?_cons_zero,List.getElem?_cons_succ,Option.some.injEq] at hq
      subst hq
      rw [show o + q=o + q / 5 * 5 + q % 5 from by omega,hr]
      assumption
def PassN (l:List ByteArray) (s:ByteArray) (j:Nat):Prop:=∀ i (h:i < l.length),i < j→ltN l[i] s=true
theorem PassN.succ {l:List ByteArray} {s:ByteArray} {j:Nat} (h:PassN l s j) (hj:j < l.length) (hl:ltN l[j] s=true):PassN l s (j + 1):=fun i hi hij=>by
  by_cases e:i=j
  · subst e;exact hl
  · exact h i hi (by omega)
theorem insW_length (s:ByteArray):∀ l:List ByteArray,(insW l s).length=l.length + 1
  | []=>rfl
  | x :: l=>by
    rw [insW]
    split
    · rw [List.length_cons,insW_length s l,List.length_cons]
    · rfl
theorem names_fold_length:∀ (l:List Bn) (acc:List ByteArray),(l.foldl (fun acc x=>insN acc x.1) acc).length≤acc.length + l.length
  | [],acc=>by simp
  | x :: l,acc=>by
    rw [List.foldl_cons]
    have h:=names_fold_length l (insN acc x.1)
    have:(insN acc x.1).length≤acc.length + 1:=by
      unfold insN;split
      · omega
      · rw [insW_length];exact Nat.le_refl _
    rw [List.length_cons];omega
theorem ofB_length (l:List Bn):(ofB l).length≤l.length:=by
  unfold ofB rowOfN
  rw [List.length_map]
  have:=names_fold_length l []
  rw [List.length_nil,Nat.zero_add] at this
  exact this
theorem bds_own {w0 w:World} {base:Nat} {v:Value} {vs:List Bv} {n:Nat} (h:w.ownsRow base 233 5 v n (rowBv vs)) (hn:vs.length=n) (hok:∀ x ∈ vs,x.v.ok w0∧x.s.size≤9223372036854775807) (hb:Below w0.heap.size w0 w) (hl:n≤9223372036854775807):Bds w v (vs.map Bv.bn):=by
  subst hn
  have:OwnBv w0 w base v (vs.map Bv.bn):=⟨vs,rfl,hok,by rw [List.length_map];exact h⟩
  exact this.bds hb (by rw [List.length_map];exact hl)
theorem below_two (w:World) (a b:Obj):Below w.heap.size w ((w.alloc a).alloc b):=((Below.refl _ _).alloc (Nat.le_refl _) _).alloc (by simp) _
theorem alloc_two (w:World) (a:Obj) (x0 x1 x2 x3:Value) (ty:TypeId):Box ((w.alloc a).alloc (.cells #[x0,x1,x2,x3] ty)) (w.heap.size + 1) x0 x1 x2 x3:=by
  have h:=box_new (w.alloc a) x0 x1 x2 x3 ty
  rwa [show (w.alloc a).heap.size=w.heap.size + 1 by simp] at h
theorem Fresh.widen {w0 w ws w' w'':World} {z:Tv} (h:Fresh w0 ws w' z) (hs:w.heap.size≤ws.heap.size) (hz:w'.heap.size≤w''.heap.size) (he:∀ b,ws.heap.size≤b→b < w'.heap.size→w''.heap[b]? = w'.heap[b]?):Fresh w0 w w'' z:=fun W hb hsz hag =>
  h W hb (Nat.le_trans hz hsz) (fun b h1 h2=>(hag b (Nat.le_trans hs h1) (Nat.lt_of_lt_of_le h2 hz)).trans (he b h1 h2))
end Go.Proofs.YtjcleokfpohpdaaGreatDoor
namespace Go.Proofs.YtjcleokfpohpdaaGreatDoor
open Go.RowKit Go.Shelf Go.Lib Go.Sort
def HoldBd (w0 w:World) (base:Nat) (v:Value) (bs:List Bn):Prop :=
  ∃ vs:List Bv,vs.map Bv.bn=bs∧(∀ x ∈ vs,x.v.ok w0∧x.s.size≤9223372036854775807) ∧
    ((v=.slice none 0 0∧vs=[])∨∃ blk cap,v=.slice (some ⟨blk,0,none⟩) vs.length cap∧base≤blk∧blk < w.heap.size∧vs.length≤cap∧0 < cap∧HoldsK Bv.cells 5 w blk 0 vs.toArray)
theorem rowBv_flat (d:Array Bv) (t:Nat) (ht:t < d.size * 5):(rowBv d.toList)[t]? = some ((flatK Bv.cells 5 d)[t]!):=by
  rw [get_flatK _ _ _ _ ht]
  have hq:t / 5 < d.size:=by omega
  have e:t=t / 5 * 5 + t % 5:=by omega
  have hr:=rowBv_get d.toList (t / 5) (by simpa using hq) (t % 5) (by omega)
  rw [← e] at hr
  rw [hr,getElem!_pos d _ hq]
  simp only [Array.getElem_toList]
  rw [getElem!_pos (Bv.cells _) (t % 5) (by simp [Bv.cells];omega)]
  exact List.getElem?_eq_getElem _
theorem holdsK_own {w:World} {g:Nat} {cur:Array Value} {d:Array Bv} {e:TypeId} (hb:w.heap[g]? = some (.cells cur e (0,0))) (ht:cur.toList.take (d.size * 5)=rowBv d.toList):HoldsK Bv.cells 5 w g 0 d:=fun j hj=>by
  rw [size_flatK] at hj
  have hr:=rowBv_flat d j hj
  rw [← ht,List.getElem?_take,if_pos (by omega)] at hr
  rw [Nat.zero_add]
  refine ⟨?_,?_⟩
  · rw [cell_of_row w g j cur _ (0,0) hb];simpa using hr
  · simp [World.frozen?,hb]
theorem holdsK_bv {w:World} {blk:Nat} {d:Array Bv} (h:HoldsK Bv.cells 5 w blk 0 d) (j:Nat) (hj:j < d.size):BvAt w blk (0 + j * 5) d[j]! := by
  have c:∀ i,i < 5→∀ x,(Bv.cells d[j]!)[i]? = some x→w.cell? ⟨blk,0 + j * 5 + i,none⟩=some x:=fun i hi x hx=>by
    have h1:=(h (j * 5 + i) (by rw [size_flatK];omega)).1
    rw [get_flatK _ _ _ _ (by omega),show (j * 5 + i) / 5=j from by omega,show (j * 5 + i) % 5=i from by omega] at h1
    rw [Nat.zero_add] at h1 ⊢
    rw [h1]
    obtain ⟨hl,he⟩:=List.getElem?_eq_some_iff.1 hx
    rw [getElem!_pos (Bv.cells d[j]!) i hl,he];rfl
  exact ⟨c 0 (by omega) _ rfl,c 1 (by omega) _ rfl,c 2 (by omega) _ rfl,c 3 (by omega) _ rfl,c 4 (by omega) _ rfl⟩
theorem HoldBd.bds {w0 w:World} {base:Nat} {v:Value} {bs:List Bn} (h:HoldBd w0 w base v bs) (hb:Below w0.heap.size w0 w) (hl:bs.length≤9223372036854775807):Bds w v bs:=by
  obtain ⟨vs,rfl,hok,⟨rfl,rfl⟩ | ⟨blk,cap,rfl,h1,hlt,h2,h3,hH⟩⟩:=h
  · exact Bds.none_ _ _ _
  · refine ⟨_,cap,by rw [List.length_map],⟨hl,by rw [List.length_map];omega⟩,.inr ⟨blk,0,rfl,hlt,fun j x hj=>?_⟩⟩
    rw [List.getElem?_map] at hj
    obtain ⟨y,hy,rfl⟩:=Option.map_eq_some_iff.1 hj
    obtain ⟨hjl,rfl⟩:=List.getElem?_eq_some_iff.1 hy
    obtain ⟨hk,hs⟩:=hok _ (List.getElem_mem hjl)
    have e:vs.toArray[j]! = vs[j]:=by rw [getElem!_pos vs.toArray j (by simpa using hjl)];simp
    have:=holdsK_bv hH j (by simpa using hjl)
    rw [e] at this
    exact bv_bdAt hs (hk.below hb) this
theorem grownBy_sortW {α:Type} [Inhabited α] {enc:α→List Value} {k:Nat} {w W:World} {g off:Nat} {d:Array α} (h:SWK enc k w g off d W):w.grownBy W (some g):=by
  obtain ⟨n,os,rfl⟩:=h
  unfold sortWorldK putRowK
  refine ⟨rfl,rfl,rfl,by simp,fun k hk hne=>?_⟩
  rw [heap_grow_old _ _ (by simpa using hk)]
  have:g≠k:=fun e=>hne (by rw [e])
  simp [putRow,mapBlock,Sort.ahead,Array.getElem?_modify,this]
theorem below_sortW {α:Type} [Inhabited α] {enc:α→List Value} {k:Nat} {w0 w W:World} {g off B:Nat} {d:Array α} (h:SWK enc k w g off d W) (hb:Below B w0 w) (hB:B≤w.heap.size) (hg:B≤g):Below B w0 W :=
  hb.grown (grownBy_sortW h) hB (fun k e=>by cases e;exact hg)
theorem bvOne (x:Bv):∀ v ∈ x.cells,v.oneCell'=true:=fun v hv=>by
  simp only [Bv.cells,List.mem_cons,List.not_mem_nil,or_false] at hv
  rcases hv with rfl | rfl | rfl | rfl | rfl<;>rfl
theorem rowKBv {w:World} {g:Nat} {d:Array Bv} (hH:HoldsK Bv.cells 5 w g 0 d) (hg:g < w.heap.size):RowK Bv.cells 5 w g 0 d:=⟨fun _=>rfl,bvOne,hH,hg⟩
theorem holdsK_part {w:World} {g:Nat} {d d2:Array Bv} {q:Nat} (hH:HoldsK Bv.cells 5 w g 0 d) (hd:d2.toList=d.toList.take q) (hq:q≤d.size):HoldsK Bv.cells 5 w g 0 d2:=fun j hj=>by
  have hs:d2.size=q:=by rw [← Array.length_toList,hd,List.length_take,Array.length_toList];omega
  rw [size_flatK,hs] at hj
  have h:=hH j (by rw [size_flatK];omega)
  rw [get_flatK _ _ _ _ (by omega)] at h
  rw [get_flatK _ _ _ _ (by omega)]
  have e:d2[j / 5]! = d[j / 5]! := by
    have h1:=get_list d2 (j / 5) (by omega)
    have h2:=get_list d (j / 5) (by omega)
    rw [hd,List.getElem?_take_of_lt (by omega),h2] at h1
    exact (Option.some.inj h1).symm
  rw [e];exact h
def zeroBv:Bv:=⟨⟨#[]⟩,zeroV⟩
theorem hold_none (w0 w:World) (base:Nat):HoldBd w0 w base (.slice none 0 0) []:=⟨[],rfl,(fun _ h=>nomatch h),.inl ⟨rfl,rfl⟩⟩
theorem cells_sortW {α:Type} [Inhabited α] {enc:α→List Value} {k:Nat} {w W:World} {g off:Nat} {d:Array α} (h:SWK enc k w g off d W) {cur:Array Value} {e:TypeId} {f:Nat × Nat} (hb:w.heap[g]? = some (.cells cur e f)):∃ cur',W.heap[g]? = some (.cells cur' e f)∧cur'.size=cur.size:=by
  obtain ⟨n,os,rfl⟩:=h
  have hl:g < w.heap.size:=(Array.getElem?_eq_some_iff.1 hb).1
  refine ⟨putCells id off (flatK enc k d) cur,?_,by simp [putCells]⟩
  unfold sortWorldK putRowK
  rw [heap_grow_old _ _ (by simpa [putRow,mapBlock,Sort.ahead] using hl)]
  simp [putRow,mapBlock,Sort.ahead,Array.getElem?_modify,hb,onCells]
theorem take_holds {w:World} {g:Nat} {cur:Array Value} {e:TypeId} {vs:List Bv} (hb:w.heap[g]? = some (.cells cur e (0,0))) (hH:HoldsK Bv.cells 5 w g 0 vs.toArray):cur.toList.take (vs.length * 5)=rowBv vs:=by
  apply List.ext_getElem?
  intro i
  by_cases hi:i < vs.length * 5
  · rw [List.getElem?_take_of_lt hi]
    have h1:=(hH i (by rw [size_flatK];simpa using hi)).1
    rw [Nat.zero_add,cell_of_row w g i cur _ (0,0) hb] at h1
    have h2:=rowBv_flat vs.toArray i (by simpa using hi)
    rw [show vs.toArray.toList=vs from by simp] at h2
    rw [h2];simpa using h1
  · rw [List.getElem?_eq_none (by rw [List.length_take];omega),List.getElem?_eq_none (by rw [rowBv_length];omega)]
theorem hold_of {w0 w w1 w2 w3:World} {g cap n q:Nat} {vs:List Bv} {d2 d3:Array Bv} (hvo:∀ x ∈ vs,x.v.ok w0∧x.s.size≤9223372036854775807) (hb1:Below w.heap.size w w1) (hg:w.heap.size≤g) (hn:vs.length=n) (hcap:n≤cap) (h0:0 < n) (hg1:g < w1.heap.size)
    (hH:HoldsK Bv.cells 5 w1 g 0 vs.toArray) (h1:Stab (ltOf cfN) vs.toArray d2) (h2:SortedIn (ltOf cfN) 0 n d2) (h3:SWK Bv.cells 5 w1 g 0 d2 w2) (hq:q≤n) (h4:d3.size=n) (h5:d3.toList.take q=compA sameN d2.toList) (h6:SWK Bv.cells 5 w2 g 0 d3 w3)
    {cur:Array Value} (hgb:w1.heap[g]? = some (.cells cur 233 (0,0))) (hgm:cap≤maxLen) (hgs:cur.size=cap * 5) :
    HoldBd w0 w3 w.heap.size (.slice (some ⟨g,0,none⟩) q cap) (ofB (vs.map Bv.bn))∧OwnBv w0 w3 w.heap.size (.slice (some ⟨g,0,none⟩) q cap) (ofB (vs.map Bv.bn))∧Below w.heap.size w w3:=by
  have hs2:d2.size=n:=by rw [h1.1];simp [hn]
  have hl:(d3.toList.take q).length=q:=by rw [List.length_take,Array.length_toList];omega
  have hb2:=below_sortW h3 hb1 hb1.size hg
  have hb3:=below_sortW h6 hb2 hb2.size hg
  have hH2:HoldsK Bv.cells 5 w2 g 0 d2:=h3.holds hg1 hH (by rw [hs2];simp [hn])
  have hg2:g < w2.heap.size:=Nat.lt_of_lt_of_le hg1 h3.le
  have hH3:HoldsK Bv.cells 5 w3 g 0 d3:=h6.holds hg2 hH2 (by omega)
  have hm:(d3.toList.take q).map Bv.bn=ofB (vs.map Bv.bn):=by rw [h5,stab_ofB h1 (by rw [hs2];exact h2)]
  have ho:∀ x ∈ d3.toList.take q,x.v.ok w0∧x.s.size≤9223372036854775807:=fun x hx=>by
    rw [h5] at hx
    have:=stab_mem h1 (mem_compA hx)
    exact hvo x (by simpa using this)
  have hK:=holdsK_part (q:=q) (d2:=(d3.toList.take q).toArray) hH3 (by simp) (by omega)
  obtain ⟨cur2,hc2,hz2⟩:=cells_sortW h3 hgb
  obtain ⟨cur3,hc3,hz3⟩:=cells_sortW h6 hc2
  have hz:cur3.size=cap * 5:=by omega
  have ht:=take_holds hc3 hK
  have hn3:(ofB (vs.map Bv.bn)).length=q:=by rw [← hm,List.length_map,hl]
  refine ⟨⟨d3.toList.take q,hm,ho,.inr ⟨g,cap,by rw [hl],hg,Nat.lt_of_lt_of_le hg2 h6.le,by omega,by omega,hK⟩⟩,⟨d3.toList.take q,hm,ho,?_⟩,hb3⟩
  rw [hn3]
  refine ⟨by rw [rowBv_length,hl],.inr ⟨g,cap,cur3,rfl,hg,hc3,by omega,hgm,hz,by rw [hl] at ht;exact ht⟩⟩
end Go.Proofs.YtjcleokfpohpdaaGreatDoor
namespace Go.Proofs.YtjcleokfpohpdaaGreatDoor
open Go.RowKit Go.Shelf Go.Lib Go.Sort
set_option maxRecDepth 100000 in
set_option maxHeartbeats 1000000 in
theorem ins_none (fv:Value) (w:World):Calls Tryz.prog 259 #[.slice none 0 0,.int .i64 0,.int .i64 0,fv] w fun e w'=>e=.returned (.tuple #[])∧w=w':=by
  go_enter Tryz.func259,Tryz.ntmps259
  go_wp2
  refine wp_loop_rounds 1 ?_;rw [rounds_succ]
  go_wp2
  go_end0
  exact ⟨rfl,rfl⟩
set_option maxRecDepth 100000 in
set_option maxHeartbeats 1000000 in
theorem stb_none (fv:Value) (w:World):Calls Tryz.prog 253 #[.slice none 0 0,.int .i64 0,fv] w fun e w'=>e=.returned (.tuple #[])∧w=w':=by
  have C:=Lib.hid (ins_none fv)
  go_enter Tryz.func253,Tryz.ntmps253
  go_wp2_with fail
  refine wp_loop_rounds 1 ?_;rw [rounds_succ]
  go_wp2_with fail
  refine (C.out _).mono ?_;rintro e w' ⟨rfl,rfl⟩
  go_wp2_with fail
  refine wp_loop_rounds 1 ?_;rw [rounds_succ]
  go_wp2_with fail
  go_end0
  exact ⟨rfl,rfl⟩
set_option maxRecDepth 100000 in
set_option maxHeartbeats 1000000 in
theorem sortSt_none (fv:Value) (w:World):Calls Tryz.prog 241 #[.slice none 0 0,fv] w fun e w'=>e=.returned (.tuple #[])∧w=w':=by
  have C:=Lib.hid (stb_none fv)
  go_enter Tryz.func241,Tryz.ntmps241
  go_wp2_with fail
  refine (C.out _).mono ?_;rintro e w' ⟨rfl,rfl⟩
  go_wp2_with fail
  go_end0
  exact ⟨rfl,rfl⟩
set_option maxRecDepth 100000 in
set_option maxHeartbeats 1000000 in
theorem compactB_none (fv:Value) (w:World):Calls Tryz.prog 242 #[.slice none 0 0,fv] w fun e w'=>e=.returned (.slice none 0 0)∧w=w':=by
  go_enter Tryz.func242,Tryz.ntmps242
  go_wp2_with fail
  go_ret
  exact ⟨rfl,rfl⟩
set_option maxRecDepth 100000 in
set_option maxHeartbeats 1000000 in
theorem sortSt_any (g cap:Nat) (d:Array Bv) (w:World) (hH:HoldsK Bv.cells 5 w g 0 d) (hg:g < w.heap.size) (hsz:d.size≤1000000) :
    Calls Tryz.prog 241 #[.slice (some ⟨g,0,none⟩) d.size cap,.func (.func 229) #[] #[]] w fun e w' =>
      e=.returned (.tuple #[])∧∃ d',Stab (ltOf cfN) d d'∧SortedIn (ltOf cfN) 0 d.size d'∧SWK Bv.cells 5 w g 0 d' w':=by
  have eg:∀ args w,(callFunc 229 args).run Tryz.prog w=.ok (.enter 229 args) w:=enters_of Tryz.func229 (by kernel_rfl) rfl
  have C:=Lib.hid (stb_gen tyB Tryz.func253 Tryz.func259 Tryz.func260 Tryz.func262 Tryz.func263 cfN 229 eg swoN g 0 cap d.size d d w w (cmpLaysN g 0 d.size w) (rowKBv hH hg) rfl hsz rfl (SWK.start hH))
  clear hH eg
  go_enter Tryz.func241,Tryz.ntmps241
  go_wp2_with fail
  refine C.out.mono ?_;rintro e w' ⟨rfl,d',h1,h2,h3⟩
  have HH:=Lib.hid (And.intro h1 (And.intro h2 h3))
  clear h1 h2 h3
  go_wp2_with fail
  go_end0
  exact ⟨rfl,d',HH.out.1,HH.out.2.1,HH.out.2.2⟩
theorem compactB_any (g cap:Nat) (d:Array Bv) (w:World) (hH:HoldsK Bv.cells 5 w g 0 d) (hg:g < w.heap.size) (hcap:d.size≤cap) (hsz:d.size≤1000000) :
    Calls Tryz.prog 242 #[.slice (some ⟨g,0,none⟩) d.size cap,.func (.func 243) #[] #[]] w fun e w' =>
      ∃ (d':Array Bv) (q:Nat),e=.returned (.slice (some ⟨g,0,none⟩) q cap)∧q≤d.size∧d'.size=d.size∧d'.toList.take q=compA sameN d.toList∧SWK Bv.cells 5 w g 0 d' w':=by
  have eg:∀ args w,(callFunc 243 args).run Tryz.prog w=.ok (.enter 243 args) w:=enters_of Tryz.func243 (by kernel_rfl) rfl
  exact cpt_gen tyC Tryz.func242 sameN 243 eg zeroBv (.agg #[.string ⟨#[]⟩,.int .i64 0,.string ⟨#[]⟩,.int .i64 0,.slice none 0 0]) (fun _=>by kernel_rfl) (by rfl) g 0 cap d.size d d w w (eqLaysN g 0 d.size w) (rowKBv hH hg) (SWK.start hH) rfl rfl hcap hsz
theorem own_none (w0 w:World) (base:Nat):OwnBv w0 w base (.slice none 0 0) []:=⟨[],rfl,(fun _ h=>nomatch h),World.ownsRow_nil _ _ _ _⟩
set_option maxRecDepth 100000 in
set_option maxHeartbeats 2000000 in
theorem of_rd (v:Value) (bs:List Bn) (w0 w:World) (hv:Bds w0 v bs) (hb0:Reads w0 w) (hlen:bs.length≤1000000) :
    Calls Tryz.prog 226 #[v] w fun e w'=>∃ u,e=.returned u∧HoldBd w0 w' w.heap.size u (ofB bs)∧OwnBv w0 w' w.heap.size u (ofB bs)∧Below w.heap.size w w':=by
  obtain ⟨i0,hi,hz0,hz1,hz2⟩:=info_parts bindInfo
  have SN:=Lib.hid (sortSt_none (.func (.func 229) #[] #[]))
  have CN:=Lib.hid (compactB_none (.func (.func 243) #[] #[]))
  obtain ⟨a,c,rfl,hl,h⟩:=hv
  cases a with
  | none =>
    obtain rfl:bs=[]:=by
      rcases h with h | ⟨b,o,ha,_⟩
      · exact h
      · cases ha
    go_enter Tryz.func226,Tryz.ntmps226
    go_wp2_with (at_builtin;refine wpList_append_own_none rfl _ _ 230 rfl w.heap.size 233 i0 5 Tryz.underlying230 hi _ 0 _ rfl (World.ownsRow_nil _ _ _ _) rfl ?_)
    go_wp2_with fail
    refine (SN.out _).mono ?_;rintro e w1 ⟨rfl,rfl⟩
    go_wp2_with fail
    refine (CN.out _).mono ?_;rintro e w1 ⟨rfl,rfl⟩
    go_wp2_with fail
    go_ret
    exact ⟨_,rfl,hold_none _ _ _,own_none _ _ _,Below.refl _ _⟩
  | some ad =>
    obtain ⟨vs,hvt,hvo,hlt,hnews⟩:∃ vs:List Bv,vs.map Bv.bn=bs∧(∀ x ∈ vs,x.v.ok w0∧x.s.size≤9223372036854775807)∧(0 < bs.length→ad.block < w.heap.size)∧∀ q x,(rowBv vs)[q]? = some x→w.cell? (ad.add q)=some x:=by
      rcases h with rfl | ⟨b,o,ha,hlt,hr⟩
      · exact ⟨[],rfl,(fun x hx=>by cases hx),by simp,fun q x h=>by simp [rowBv] at h⟩
      · cases ha
        obtain ⟨vs,hvt,hvo,hc⟩:=rows_vs hr
        exact ⟨vs,hvt,hvo,fun _=>Nat.lt_of_lt_of_le hlt hb0.size,fun q x hq=>by rw [addr_row];exact hb0.cell _ _ (hc q x hq)⟩
    have hvl:vs.length=bs.length:=by rw [← hvt,List.length_map]
    have hrl:(rowBv vs).length=bs.length * 5:=by rw [rowBv_length,hvl]
    have HV:=Lib.hid (And.intro hvt hvo)
    have H1:=Lib.hid (And.intro hrl (And.intro hnews (rowBv_one' vs)))
    have HVL:=Lib.hid hvl
    clear hvt hvo hvl hrl hnews h hlt hb0
    go_enter Tryz.func226,Tryz.ntmps226
    go_wp2_with (at_builtin;refine wpList_append_own _ rfl _ _ 230 rfl w.heap.size 233 i0 (.agg #[.string ⟨#[]⟩,.int .i64 0,.string ⟨#[]⟩,.int .i64 0,.slice none 0 0]) 5 72 Tryz.underlying230 hi hz0 hz1 hz2 rfl (by decide) _ 0 _ rfl (World.ownsRow_nil _ _ _ _) ad bs.length c (rowBv vs) rfl H1.out.1 H1.out.2.1 H1.out.2.2 ?ap3 ?ap4 ?ap5 ?_)
    case ap3=>unfold maxLen;omega
    case ap4=>omega
    case ap5=>omega
    intro v1 w1 hown hgrow hnil
    have hb:Below w.heap.size w w1:=(Below.refl _ _).grown hgrow (Nat.le_refl _) (fun k hk=>by cases hk)
    by_cases h0:bs=[]
    · subst h0
      obtain rfl:v1=.slice none 0 0:=hnil.2 rfl
      have HB:=Lib.hid hb
      clear hown hgrow hnil hb
      go_wp2_with fail
      refine (SN.out _).mono ?_;rintro e w2 ⟨rfl,rfl⟩
      go_wp2_with fail
      refine (CN.out _).mono ?_;rintro e w2 ⟨rfl,rfl⟩
      go_wp2_with fail
      go_ret
      exact ⟨_,rfl,hold_none _ _ _,own_none _ _ _,HB.out⟩
    · have hpos:0 < bs.length:=List.length_pos_iff.2 h0
      obtain ⟨_,⟨rfl,hz⟩ | ⟨g,cap,cur,rfl,hg1,hgb,hgn,hgm,hgs,htake⟩⟩:=hown
      · exact absurd (hnil.1 rfl) h0
      have hgl:g < w1.heap.size:=(Array.getElem?_eq_some_iff.1 hgb).1
      have hds:vs.toArray.size=bs.length:=by rw [List.size_toArray];exact HVL.out
      have hH:HoldsK Bv.cells 5 w1 g 0 vs.toArray:=holdsK_own hgb (by rw [hds];exact htake)
      have S:=sortSt_any g cap vs.toArray w1 hH hgl (by rw [hds];exact hlen)
      rw [hds] at S
      have HS:=Lib.hid S
      have HH:=Lib.hid (And.intro hH (And.intro hgl (And.intro hb hg1)))
      have HN:=Lib.hid hgn
      have HG:=Lib.hid (And.intro hgb (And.intro hgm hgs))
      have HPOS:=Lib.hid hpos
      clear S hgrow hnil hgb hgs htake hds hH hgl hb hpos h0 hgm hgn hg1
      go_wp2_with fail
      refine HS.out.mono ?_;rintro e w2 ⟨rfl,d2,h1,h2,h3⟩
      have hs2:d2.size=bs.length:=by rw [h1.1,List.size_toArray];exact HVL.out
      have K:=compactB_any g cap d2 w2 (h3.holds HH.out.2.1 HH.out.1 h1.1) (Nat.lt_of_lt_of_le HH.out.2.1 h3.le) (by rw [hs2];exact HN.out) (by rw [hs2];exact hlen)
      rw [hs2] at K
      have HK:=Lib.hid K
      have H2:=Lib.hid (And.intro h1 (And.intro h2 h3))
      clear K h1 h2 h3 hs2
      go_wp2_with fail
      refine HK.out.mono ?_;rintro e w3 ⟨d3,q,rfl,hq,h4,h5,h6⟩
      have hf:=hold_of HV.out.2 HH.out.2.2.1 HH.out.2.2.2 HVL.out HN.out HPOS.out HH.out.2.1 HH.out.1 H2.out.1 H2.out.2.1 H2.out.2.2 hq h4 h5 h6 HG.out.1 HG.out.2.1 HG.out.2.2
      rw [HV.out.1] at hf
      have HF:=Lib.hid hf
      clear hf hq h4 h5 h6
      go_wp2_with fail
      go_ret
      exact ⟨_,rfl,HF.out.1,HF.out.2.1,HF.out.2.2⟩
end Go.Proofs.YtjcleokfpohpdaaGreatDoor
