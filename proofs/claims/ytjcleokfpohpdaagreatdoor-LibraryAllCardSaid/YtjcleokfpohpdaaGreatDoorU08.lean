/-
  What reads so in one memory and reads so in another; memory with one block out of sight. No function of the program.
  What stands at a place, as data; the zero term; what a call leaves that answers a term, or none. No function of the program.
  Boxes of four cells that are written, and what stands at a place in parts. Nothing of the program's functions.
  Rows of terms that the call itself has made: their cells, stores into them, and rows in memory as values. No function of the program.
  Terms that a call has made, and where they stand on: what the call was handed, and the blocks that it has made itself. No function of the program.
  A shell: what Frsh has, beside the walk of All.
  Rows of binds in memory: each a name and a term. No function of the program.
  Binds put into terms, as data, and what a call of Apply leaves. No function of the program.
  Functions added to functions, and joined: what is answered, as data. No function of the program.
  Two rules alike but for names; a theory with a primitive behind: as data. No function of the program.
  What stands at a place, by the reference of layer 4: At.
  Rows of places: a slice of slices of whole numbers that the call itself has made; and all places of a term, as data.
  Functions added, joined, and those of a term: what is answered, and how it hangs together, as data. No function of the program.
-/
import Derived.Test.YtjcleokfpohpdaaGreatDoorU01
import Derived.Test.YtjcleokfpohpdaaGreatDoorU07
import Derived.Test.YtjcleokfpohpdaaGreatDoorU03
import Derived.Deep.RegionHeld3
import Derived.BigQuiet
import Derived.Laws.OwnMore
namespace Go.Proofs.YtjcleokfpohpdaaGreatDoor
open Go.RowKit
structure Reads (w0 W:World):Prop where
  size:w0.heap.size≤W.heap.size
  cell:∀ p v,w0.cell? p=some v→W.cell? p=some v
theorem Reads.refl (w:World):Reads w w:=⟨Nat.le_refl _,fun _ _ h=>h⟩
theorem Reads.trans {a b c:World} (h:Reads a b) (k:Reads b c):Reads a c:=⟨Nat.le_trans h.size k.size,fun p v hv=>k.cell p v (h.cell p v hv)⟩
theorem reads_below {w0 W:World} (h:Below w0.heap.size w0 W):Reads w0 W:=⟨h.size,fun p v hv=>by
  rw [h.cell (World.block_lt_of_cell? w0 p hv)];exact hv⟩
mutual
theorem TmAt.reads {w w':World} (hb:Reads w w'):∀ {t:Tm} {b o:Nat},TmAt w t b o→TmAt w' t b o
  | .mk k s n xs,b,o,h=>by
    rw [TmAt] at h ⊢
    obtain ⟨hf,h0,h1,h2,a,c,h3,hl,hr⟩:=h
    refine ⟨hf,hb.cell _ _ h0,hb.cell _ _ h1,hb.cell _ _ h2,a,c,hb.cell _ _ h3,hl,?_⟩
    rcases hr with hr | ⟨b',o',ha,hb',hr⟩
    · exact .inl hr
    · exact .inr ⟨b',o',ha,Nat.lt_of_lt_of_le hb' hb.size,RowAt.reads hb hr⟩
theorem RowAt.reads {w w':World} (hb:Reads w w'):∀ {xs:List Tm} {b o:Nat},RowAt w xs b o→RowAt w' xs b o
  | [],_,_,_=>by rw [RowAt];trivial
  | t :: r,b,o,h=>by
    rw [RowAt] at h ⊢
    exact ⟨TmAt.reads hb h.1,RowAt.reads hb h.2⟩
end
theorem Args.reads {w w':World} {a:Option Addr} {c:Nat} {xs:List Tm} (h:Args w a c xs) (hb:Reads w w'):Args w' a c xs:=by
  obtain ⟨hl,h⟩:=h
  refine ⟨hl,?_⟩
  rcases h with h | ⟨b,o,ha,hlt,hr⟩
  · exact .inl h
  · exact .inr ⟨b,o,ha,Nat.lt_of_lt_of_le hlt hb.size,hr.reads hb⟩
theorem Tv.ok.reads {w w':World} {v:Tv} (h:v.ok w) (hb:Reads w w'):v.ok w':=⟨h.1,Args.reads h.2 hb⟩
theorem Tms.reads {w w':World} {v:Value} {ts:List Tm} (h:Tms w v ts) (hb:Reads w w'):Tms w' v ts:=by
  obtain ⟨a,c,hv,h⟩:=h
  exact ⟨a,c,hv,h.reads hb⟩
def mask (w:World) (g:Nat):World:={ w with heap:=w.heap.setIfInBounds g (.deferred none) }
theorem mask_size (w:World) (g:Nat):(mask w g).heap.size=w.heap.size:=by simp [mask]
theorem mask_other (w:World) {g k:Nat} (h:k≠g):(mask w g).heap[k]? = w.heap[k]? := by
  simp only [mask]
  rw [Array.getElem?_setIfInBounds,if_neg (by omega)]
theorem mask_cell {w:World} {g:Nat} {p:Addr} {v:Value} (h:(mask w g).cell? p=some v):p.block≠g∧w.cell? p=some v:=by
  have hne:p.block≠g:=fun e=>by
    have hlt:=World.block_lt_of_cell? (mask w g) p h
    have:(mask w g).heap[p.block]? = some (.deferred none):=by
      rw [e] at hlt ⊢
      simp only [mask]
      rw [mask_size] at hlt
      rw [Array.getElem?_setIfInBounds_self,if_pos hlt]
    unfold World.cell? at h
    rw [this] at h
    simp at h
  exact ⟨hne,by rw [← World.cell?_of_block (w:=w) (w':=mask w g) (a:=p) (mask_other w hne)];exact h⟩
theorem reads_mask {w W:World} {g:Nat} (hs:w.heap.size≤W.heap.size) (h:∀ k,k < w.heap.size→k≠g→W.heap[k]? = w.heap[k]?):Reads (mask w g) W:=⟨by rw [mask_size];exact hs,fun p v hv=>by
  obtain ⟨hne,hc⟩:=mask_cell hv
  rw [World.cell?_of_block (w:=w) (w':=W) (a:=p) (h p.block (World.block_lt_of_cell? w p hc) hne)];exact hc⟩
end Go.Proofs.YtjcleokfpohpdaaGreatDoor
namespace Go.Proofs.YtjcleokfpohpdaaGreatDoor
open Go.RowKit
def zeroT:Tm:=.mk 0 ⟨#[]⟩ 0 []
def zeroV:Tv:=⟨zeroT,none,0⟩
theorem zeroV_ok (w:World):zeroV.ok w:=by refine ⟨⟨?_,?_,?_,?_,?_⟩,?_,.inl rfl⟩<;>decide
def atT:Tm→List Int→Option Tm
  | t,[]=>some t
  | t,i :: r=>if h:0≤i∧i < t.args.length then atT (t.args[i.toNat]'(by omega)) r else none
theorem atT_nil (t:Tm):atT t []=some t:=by rw [atT]
theorem atT_in {t:Tm} {j:Nat} {r:List Int} (h:j < t.args.length):atT t ((j:Int) :: r)=atT t.args[j] r:=by
  rw [atT,dif_pos (by omega)];simp
def AtPost (o:Option Tm) (w0 w:World) (e:Ending) (w':World):Prop :=
  ∃ y:Tv,e=.returned (.tuple #[y.val,.bool o.isSome])∧y.t=o.getD zeroT∧y.ok w0∧Below w.heap.size w w'
end Go.Proofs.YtjcleokfpohpdaaGreatDoor
namespace Go.Proofs.YtjcleokfpohpdaaGreatDoor
open Go.RowKit
theorem cell_aside {W:World} {u:Value} (p q:Addr) (h:q.block≠p.block):(W.setCell p u).cell? q=W.cell? q:=World.cell?_of_block (Below.heap_setCell _ _ _ _ h)
theorem frozen_aside {W:World} {u:Value} (p q:Addr) (h:q.block≠p.block):(W.setCell p u).frozen? q=W.frozen? q:=World.frozen?_of_block (Below.heap_setCell _ _ _ _ h)
theorem cell_off {W:World} {u:Value} (g i j:Nat) (h:i≠j):(W.setCell ⟨g,i,none⟩ u).cell? ⟨g,j,none⟩=W.cell? ⟨g,j,none⟩:=World.cell?_setCell_other _ _ _ _ (fun e=>h (by cases e;rfl))
theorem Box.sets {w:World} {g:Nat} {x0 x1 x2 x3:Value} (h:Box w g x0 x1 x2 x3) (y0 y1 y2 y3:Value) :
    Box ((((w.setCell ⟨g,0,none⟩ y0).setCell ⟨g,1,none⟩ y1).setCell ⟨g,2,none⟩ y2).setCell ⟨g,3,none⟩ y3) g y0 y1 y2 y3 where
  c0:=by
    rw [cell_off g 3 0 (by decide),cell_off g 2 0 (by decide),cell_off g 1 0 (by decide)]
    exact World.cell?_setCell_same _ _ _ h.c0
  c1:=by
    rw [cell_off g 3 1 (by decide),cell_off g 2 1 (by decide)]
    refine World.cell?_setCell_same (u:=x1) _ _ _ ?_
    rw [cell_off g 0 1 (by decide)];exact h.c1
  c2:=by
    rw [cell_off g 3 2 (by decide)]
    refine World.cell?_setCell_same (u:=x2) _ _ _ ?_
    rw [cell_off g 1 2 (by decide),cell_off g 0 2 (by decide)];exact h.c2
  c3:=by
    refine World.cell?_setCell_same (u:=x3) _ _ _ ?_
    rw [cell_off g 2 3 (by decide),cell_off g 1 3 (by decide),cell_off g 0 3 (by decide)];exact h.c3
  f0:=by simp [h.f0]
  f1:=by simp [h.f1]
  f2:=by simp [h.f2]
  f3:=by simp [h.f3]
theorem Box.aside {w:World} {g:Nat} {x0 x1 x2 x3:Value} (h:Box w g x0 x1 x2 x3) {p:Addr} (hp:g≠p.block) (y:Value):Box (w.setCell p y) g x0 x1 x2 x3 where
  c0:=(cell_aside p ⟨g,0,none⟩ hp).trans h.c0
  c1:=(cell_aside p ⟨g,1,none⟩ hp).trans h.c1
  c2:=(cell_aside p ⟨g,2,none⟩ hp).trans h.c2
  c3:=(cell_aside p ⟨g,3,none⟩ hp).trans h.c3
  f0:=(frozen_aside p ⟨g,0,none⟩ hp).trans h.f0
  f1:=(frozen_aside p ⟨g,1,none⟩ hp).trans h.f1
  f2:=(frozen_aside p ⟨g,2,none⟩ hp).trans h.f2
  f3:=(frozen_aside p ⟨g,3,none⟩ hp).trans h.f3
theorem below_sets {B:Nat} {a w:World} (h:Below B a w) {g:Nat} (hg:B≤g) (y0 y1 y2 y3:Value):Below B a ((((w.setCell ⟨g,0,none⟩ y0).setCell ⟨g,1,none⟩ y1).setCell ⟨g,2,none⟩ y2).setCell ⟨g,3,none⟩ y3) :=
  (((h.setCell (p:=⟨g,0,none⟩) hg _).setCell (p:=⟨g,1,none⟩) hg _).setCell (p:=⟨g,2,none⟩) hg _).setCell (p:=⟨g,3,none⟩) hg _
end Go.Proofs.YtjcleokfpohpdaaGreatDoor
namespace Go.Proofs.YtjcleokfpohpdaaGreatDoor
open Go.RowKit
theorem rowAt_vs {w:World}:∀ {ts:List Tm} {b o:Nat},RowAt w ts b o→∃ vs:List Tv,vs.map Tv.t=ts∧(∀ x ∈ vs,x.ok w)∧∀ q x,(rowTv vs)[q]? = some x→w.cell? ⟨b,o + q,none⟩=some x
  | [],_,_,_=>⟨[],rfl,(fun _ h=>by cases h),(fun q x h=>by simp [rowTv] at h)⟩
  | t :: r,b,o,h=>by
    rw [RowAt] at h
    obtain ⟨u,hu,huk,c0,c1,c2,c3⟩:=tmAt_tv h.1
    obtain ⟨vs,hv,hvk,hc⟩:=rowAt_vs h.2
    refine ⟨u :: vs,by rw [List.map_cons,hu,hv],fun x hx=>?_,fun q x hq=>?_⟩
    · rcases List.mem_cons.1 hx with rfl | hx
      · exact huk
      · exact hvk x hx
    · have e:rowTv (u :: vs)=u.cells ++ rowTv vs:=by unfold rowTv;rw [List.flatMap_cons]
      rw [e] at hq
      rcases Nat.lt_or_ge q 4 with h4 | h4
      · rw [List.getElem?_append_left (by simpa [Tv.cells] using h4)] at hq
        rcases (show q=0∨q=1∨q=2∨q=3 from by omega) with rfl | rfl | rfl | rfl
        all_goals
          simp only [Tv.cells,List.getElem?_cons_zero,List.getElem?_cons_succ,Option.some.injEq] at hq
          subst hq
          assumption
      · rw [List.getElem?_append_right (by simpa [Tv.cells] using h4)] at hq
        have:=hc (q - 4) x (by simpa [Tv.cells] using hq)
        rw [show o + 4 + (q - 4)=o + q from by omega] at this
        exact this
theorem addr_row (b o q:Nat):((⟨b,o,none⟩:Addr).add q)=⟨b,o + q,none⟩:=by
  unfold Addr.add;split
  · next h=>subst h;rfl
  · rfl
theorem own_setCell {w:World} {base:Nat} {e:TypeId} {size:Nat} {v:Value} {n:Nat} {xs:List Value} (h:w.ownsRow base e size v n xs) {p:Addr} (hp:p.block < base) (u:Value):(w.setCell p u).ownsRow base e size v n xs:=by
  obtain ⟨hn,h⟩:=h
  refine ⟨hn,?_⟩
  rcases h with h | ⟨g,cap,cur,rfl,hbb,hg,hr⟩
  · exact .inl h
  · exact .inr ⟨g,cap,cur,rfl,hbb,by rw [Below.heap_setCell _ _ _ _ (by omega)];exact hg,hr⟩
theorem rowTv_cons (v:Tv) (r:List Tv):rowTv (v :: r)=v.cells ++ rowTv r:=by unfold rowTv;rw [List.flatMap_cons]
theorem rowTv_set (u:Tv):∀ (vs:List Tv) (k:Nat),k < vs.length→rowTv (vs.set k u)=((((rowTv vs).set (k * 4) (.int .i64 u.t.kind)).set (k * 4 + 1) (.string u.t.name)).set (k * 4 + 2) (.int .i64 u.t.n)).set (k * 4 + 3) (.slice u.a u.t.args.length u.c)
  | [],_,h=>by simp at h
  | v :: r,0,_=>by rw [List.set_cons_zero,rowTv_cons,rowTv_cons];rfl
  | v :: r,k + 1,h=>by
    rw [List.set_cons_succ,rowTv_cons,rowTv_cons,rowTv_set u r k (by simpa using h)]
    have e:∀ (l:List Value) (i:Nat) (x:Value),(v.cells ++ l).set (4 + i) x=v.cells ++ l.set i x:=fun l i x=>by
      rw [List.set_append_right _ _ (by simp [Tv.cells])];congr 2;simp [Tv.cells]
    rw [show (k + 1) * 4=4 + k * 4 from by omega,show 4 + k * 4 + 1=4 + (k * 4 + 1) from by omega,show 4 + k * 4 + 2=4 + (k * 4 + 2) from by omega,show 4 + k * 4 + 3=4 + (k * 4 + 3) from by omega,e,e,e,e]
theorem heap_setCell_same {w:World} {g o:Nat} {cur:Array Value} {e:TypeId} {fr:Nat × Nat} (h:w.heap[g]? = some (.cells cur e fr)) (x:Value):(w.setCell ⟨g,o,none⟩ x).heap[g]? = some (.cells (cur.setIfInBounds o x) e fr):=by
  simp [World.setCell,Array.getElem?_modify,h]
theorem own_put {w:World} {base:Nat} {e:TypeId} {g n cap:Nat} {vs:List Tv} (h:w.ownsRow base e 4 (.slice (some ⟨g,0,none⟩) n cap) n (rowTv vs)) (u:Tv) (k:Nat) (hk:k < vs.length) :
    ((((w.setCell ⟨g,k * 4,none⟩ (.int .i64 u.t.kind)).setCell ⟨g,k * 4 + 1,none⟩ (.string u.t.name)).setCell ⟨g,k * 4 + 2,none⟩ (.int .i64 u.t.n)).setCell ⟨g,k * 4 + 3,none⟩ (.slice u.a u.t.args.length u.c)).ownsRow base e 4 (.slice (some ⟨g,0,none⟩) n cap) n (rowTv (vs.set k u)):=by
  obtain ⟨hn,⟨h,_⟩ | ⟨g',cap',cur,hv,hb,hgc,h1,h2,h3,hgt⟩⟩:=h
  · cases h
  · cases hv
    refine ⟨by rw [rowTv_length,List.length_set,← rowTv_length];exact hn,.inr ⟨g,cap,_,rfl,hb,heap_setCell_same (heap_setCell_same (heap_setCell_same (heap_setCell_same hgc _) _) _) _,h1,h2,by simpa using h3,?_⟩⟩
    rw [rowTv_set u vs k hk,← hgt]
    simp only [Array.toList_setIfInBounds,List.take_set]
end Go.Proofs.YtjcleokfpohpdaaGreatDoor
namespace Go.Proofs.YtjcleokfpohpdaaGreatDoor
open Go.RowKit
def Fresh (w0 w w':World) (y:Tv):Prop:=∀ W,Reads w0 W→w'.heap.size≤W.heap.size→(∀ b,w.heap.size≤b→b < w'.heap.size→W.heap[b]? = w'.heap[b]?)→y.ok W
theorem Fresh.ok {w0 w w':World} {y:Tv} (h:Fresh w0 w w' y) (hb:Below w0.heap.size w0 w'):y.ok w':=h w' (reads_below hb) (Nat.le_refl _) (fun _ _ _=>rfl)
theorem fresh_old {w0 w w':World} {y:Tv} (h:y.ok w0):Fresh w0 w w' y:=fun _ hb _ _=>h.reads hb
theorem own_where {w W:World} {base:Nat} {e:TypeId} {size:Nat} {v:Value} {n:Nat} {xs:List Value} (h:w.ownsRow base e size v n xs) (hb:∀ b,base≤b→b < w.heap.size→W.heap[b]? = w.heap[b]?):W.ownsRow base e size v n xs:=by
  obtain ⟨hn,h⟩:=h
  refine ⟨hn,?_⟩
  rcases h with h | ⟨g,cap,cur,rfl,hbb,hg,hr⟩
  · exact .inl h
  · exact .inr ⟨g,cap,cur,rfl,hbb,by rw [hb g hbb (Array.getElem?_eq_some_iff.1 hg).1];exact hg,hr⟩
theorem fresh_row {w0 w wf:World} {a:Option Addr} {cap n:Nat} {vs:List Tv} {k:Int} {s:ByteArray} {nn:Int} {ts:List Tm} (hown:wf.ownsRow w.heap.size 70 4 (.slice a n cap) n (rowTv vs)) (hn:ts.length=n) (hvs:vs.map Tv.t=ts) (hfit:Fit k s nn) (hlen:n≤9223372036854775807)
    (hok:∀ W,Reads w0 W→wf.heap.size≤W.heap.size→(∀ b,w.heap.size≤b→b < wf.heap.size→W.heap[b]? = wf.heap[b]?)→∀ v ∈ vs,v.ok W):Fresh w0 w wf ⟨.mk k s nn ts,a,cap⟩:=fun W hb hs hag=>by
  subst hn
  have h1:OwnTv W W w.heap.size (.slice a ts.length cap) ts:=⟨vs,hvs,hok W hb hs hag,own_where hown hag⟩
  obtain ⟨a',c',e,hA⟩:=h1.tms (Below.refl _ _) hlen
  obtain ⟨rfl,rfl⟩:a=a'∧cap=c':=by cases e;exact ⟨rfl,rfl⟩
  exact ⟨hfit,hA⟩
theorem map_set_t (vs:List Tv) (j:Nat) (u:Tv):(vs.set j u).map Tv.t=(vs.map Tv.t).set j u.t:=by rw [List.map_set]
def Beside (w0 w wr:World) (o:Value) (y:Tv):Prop:=∀ W,Reads w0 W→wr.heap.size≤W.heap.size→(∀ b,w.heap.size≤b→b < wr.heap.size→some b≠o.ownBlock→W.heap[b]? = wr.heap[b]?)→y.ok W
theorem Beside.below {w0 w wr w':World} {o:Value} {y:Tv} (h:Beside w0 w wr o y) (hb:Below wr.heap.size wr w'):Beside w0 w w' o y:=fun W h1 h2 h3 =>
  h W h1 (Nat.le_trans hb.size h2) (fun b b1 b2 b3=>by rw [h3 b b1 (Nat.lt_of_lt_of_le b2 hb.size) b3];exact hb.block b b2)
theorem Beside.grown {w0 w wr w':World} {o o':Value} {y:Tv} (h:Beside w0 w wr o y) (hg:wr.grownBy w' o.ownBlock) (hat:o'.ownBlock=o.ownBlock∨o'.ownBlock=some wr.heap.size):Beside w0 w w' o' y:=fun W h1 h2 h3 =>
  h W h1 (Nat.le_trans hg.size h2) (fun b b1 b2 b3=>by
    rw [h3 b b1 (Nat.lt_of_lt_of_le b2 hg.size) (by
      rcases hat with e | e
      · rw [e];exact b3
      · rw [e];intro he;injection he with he;omega)]
    exact hg.block b b2 b3)
theorem beside_old {w0 w wr:World} {o:Value} {y:Tv} (h:y.ok w0):Beside w0 w wr o y:=fun _ hb _ _=>h.reads hb
theorem beside_fresh {w0 w ws wr:World} {o:Value} {y:Tv} (h:Fresh w0 ws wr y) (hs:w.heap.size≤ws.heap.size) (ho:∀ g,o.ownBlock=some g→g < ws.heap.size):Beside w0 w wr o y:=fun W h1 h2 h3 =>
  h W h1 h2 (fun b b1 b2=>h3 b (by omega) b2 (fun e=>by have:=ho b e.symm;omega))
end Go.Proofs.YtjcleokfpohpdaaGreatDoor
namespace Go.Proofs.YtjcleokfpohpdaaGreatDoor
open Go.RowKit
abbrev Bn:=ByteArray × Tm
def BdAt (w:World) (x:Bn) (b o:Nat):Prop:=x.1.size≤9223372036854775807∧w.cell? ⟨b,o,none⟩=some (.string x.1)∧TmAt w x.2 b (o + 1)
def Bds (w:World) (v:Value) (bs:List Bn):Prop:=∃ a c,v=.slice a bs.length c∧(bs.length≤9223372036854775807∧bs.length≤c)∧(bs=[]∨∃ b o,a=some ⟨b,o,none⟩∧b < w.heap.size∧∀ (j:Nat) x,bs[j]? = some x→BdAt w x b (o + j * 5))
theorem BdAt.below {w w':World} {x:Bn} {b o:Nat} (h:BdAt w x b o) (hb:Below w.heap.size w w'):BdAt w' x b o :=
  ⟨h.1,(hb.cell (p:=⟨b,o,none⟩) (lt_of_cell h.2.1)).trans h.2.1,h.2.2.below hb⟩
theorem Bds.below {w w':World} {v:Value} {bs:List Bn} (h:Bds w v bs) (hb:Below w.heap.size w w'):Bds w' v bs:=by
  obtain ⟨a,c,hv,hl,h⟩:=h
  refine ⟨a,c,hv,hl,?_⟩
  rcases h with h | ⟨b,o,ha,hlt,h⟩
  · exact .inl h
  · exact .inr ⟨b,o,ha,Nat.lt_of_lt_of_le hlt hb.size,fun j x hj=>(h j x hj).below hb⟩
theorem Bds.none_ (w:World) (a:Option Addr) (c:Nat):Bds w (.slice a 0 c) []:=⟨a,c,rfl,by simp,.inl rfl⟩
structure Bv where
  s:ByteArray
  v:Tv
def Bv.cells (x:Bv):List Value:=[.string x.s,.int .i64 x.v.t.kind,.string x.v.t.name,.int .i64 x.v.t.n,.slice x.v.a x.v.t.args.length x.v.c]
def Bv.val (x:Bv):Value:=.agg #[.string x.s,.int .i64 x.v.t.kind,.string x.v.t.name,.int .i64 x.v.t.n,.slice x.v.a x.v.t.args.length x.v.c]
def Bv.bn (x:Bv):Bn:=(x.s,x.v.t)
structure BvAt (w:World) (b o:Nat) (x:Bv):Prop where
  c0:w.cell? ⟨b,o,none⟩=some (.string x.s)
  c1:w.cell? ⟨b,o + 1,none⟩=some (.int .i64 x.v.t.kind)
  c2:w.cell? ⟨b,o + 2,none⟩=some (.string x.v.t.name)
  c3:w.cell? ⟨b,o + 3,none⟩=some (.int .i64 x.v.t.n)
  c4:w.cell? ⟨b,o + 4,none⟩=some (.slice x.v.a x.v.t.args.length x.v.c)
theorem bdAt_bv {w:World} {x:Bn} {b o:Nat} (h:BdAt w x b o):∃ y:Bv,y.bn=x∧y.v.ok w∧BvAt w b o y:=by
  obtain ⟨v,hv,hk,h0,h1,h2,h3⟩:=tmAt_tv h.2.2
  exact ⟨⟨x.1,v⟩,by unfold Bv.bn;rw [hv],hk,h.2.1,h0,h1,h2,h3⟩
theorem bv_bdAt {w:World} {y:Bv} {b o:Nat} (hs:y.s.size≤9223372036854775807) (hk:y.v.ok w) (h:BvAt w b o y):BdAt w y.bn b o :=
  ⟨hs,h.c0,tv_tmAt hk ⟨h.c1,h.c2,h.c3,h.c4⟩⟩
theorem BvAt.below {w w':World} {b o:Nat} {x:Bv} (h:BvAt w b o x) (hb:Below w.heap.size w w'):BvAt w' b o x :=
  have hlt:=lt_of_cell h.c0
  ⟨(hb.cell (p:=⟨b,o,none⟩) hlt).trans h.c0,(hb.cell (p:=⟨b,o + 1,none⟩) hlt).trans h.c1,(hb.cell (p:=⟨b,o + 2,none⟩) hlt).trans h.c2,(hb.cell (p:=⟨b,o + 3,none⟩) hlt).trans h.c3,(hb.cell (p:=⟨b,o + 4,none⟩) hlt).trans h.c4⟩
def rowBv (ss:List Bv):List Value:=ss.flatMap Bv.cells
theorem rowBv_length (vs:List Bv):(rowBv vs).length=vs.length * 5:=by
  unfold rowBv
  induction vs with
  | nil=>rfl
  | cons v r ih=>rw [List.flatMap_cons,List.length_append,ih,List.length_cons];simp [Bv.cells];omega
theorem rowBv_append (a b:List Bv):rowBv (a ++ b)=rowBv a ++ rowBv b:=by unfold rowBv;rw [List.flatMap_append]
theorem rowBv_one (v:Bv):rowBv [v]=v.cells:=by unfold rowBv;simp
theorem rowBv_get:∀ (vs:List Bv) (j:Nat) (h:j < vs.length) (i:Nat),i < 5→(rowBv vs)[j * 5 + i]? = vs[j].cells[i]?
  | [],_,h,_,_=>by simp at h
  | v :: r,0,_,i,hi=>by
    unfold rowBv
    rw [List.flatMap_cons,List.getElem?_append_left (by simp [Bv.cells];omega)];simp
  | v :: r,j + 1,h,i,hi=>by
    have:=rowBv_get r j (by simpa using h) i hi
    unfold rowBv at this ⊢
    rw [List.flatMap_cons,List.getElem?_append_right (by simp [Bv.cells];omega)]
    rw [show (j + 1) * 5 + i - v.cells.length=j * 5 + i from by simp [Bv.cells];omega,this]
    simp
theorem rowBv_one' (vs:List Bv):∀ u ∈ rowBv vs,u.oneCell'=true:=by
  intro u hu
  unfold rowBv at hu
  obtain ⟨v,_,hv⟩:=List.mem_flatMap.1 hu
  simp only [Bv.cells,List.mem_cons,List.not_mem_nil,or_false] at hv
  rcases hv with rfl | rfl | rfl | rfl | rfl<;>rfl
def OwnBv (w0 w:World) (base:Nat) (v:Value) (bs:List Bn):Prop :=
  ∃ vs:List Bv,vs.map Bv.bn=bs∧(∀ x ∈ vs,x.v.ok w0∧x.s.size≤9223372036854775807)∧w.ownsRow base 233 5 v bs.length (rowBv vs)
theorem OwnBv.bds {w0 w:World} {base:Nat} {v:Value} {bs:List Bn} (h:OwnBv w0 w base v bs) (hb:Below w0.heap.size w0 w) (hl:bs.length≤9223372036854775807):Bds w v bs:=by
  obtain ⟨vs,rfl,hok,hn,h⟩:=h
  rcases h with ⟨rfl,h0⟩ | ⟨g,cap,cur,rfl,_,hg,hcap,hmax,hsz,htake⟩
  · have:vs=[]:=by simpa using h0
    subst this
    exact Bds.none_ _ _ _
  · refine ⟨_,cap,rfl,⟨hl,hcap⟩,.inr ⟨g,0,rfl,(Array.getElem?_eq_some_iff.1 hg).1,fun j x hj=>?_⟩⟩
    rw [List.getElem?_map] at hj
    have hjv:j < vs.length:=by
      rcases Nat.lt_or_ge j vs.length with h | h
      · exact h
      · rw [List.getElem?_eq_none h] at hj;cases hj
    rw [List.getElem?_eq_getElem hjv] at hj
    injection hj with hj
    subst hj
    have cell:∀ i,i < 5→w.cell? ⟨g,0 + j * 5 + i,none⟩=vs[j].cells[i]? := by
      intro i hi
      rw [cell_of_row w g (0 + j * 5 + i) cur _ (0,0) hg,← rowBv_get vs j hjv i hi,← htake,List.getElem?_take,if_pos (by simp;omega),Nat.zero_add]
      simp
    obtain ⟨hk,hs⟩:=hok _ (List.getElem_mem hjv)
    exact bv_bdAt hs (hk.below hb) ⟨cell 0 (by omega),cell 1 (by omega),cell 2 (by omega),cell 3 (by omega),cell 4 (by omega)⟩
def getB (bs:List Bn) (s:ByteArray):Option Tm:=(bs.find? fun x=>x.1.toList==s.toList).map Prod.snd
theorem getB_nil (s:ByteArray):getB [] s=none:=rfl
theorem getB_take {bs:List Bn} {s:ByteArray} {k:Nat} {x:Bn} (h:getB (bs.take k) s=none) (hk:bs[k]? = some x):getB (bs.take (k + 1)) s=if (x.1.toList==s.toList)=true then some x.2 else none:=by
  obtain ⟨hl,rfl⟩:=List.getElem?_eq_some_iff.1 hk
  unfold getB at h ⊢
  rw [Option.map_eq_none_iff] at h
  rw [List.take_succ_eq_append_getElem hl,List.find?_append,h,List.find?_cons]
  cases bs[k].1.toList==s.toList<;>rfl
theorem getB_some {bs:List Bn} {s:ByteArray} {k:Nat} {t:Tm} (h:getB (bs.take k) s=some t):getB bs s=some t:=by
  unfold getB at h ⊢
  obtain ⟨x,hx,rfl⟩:=Option.map_eq_some_iff.1 h
  have e:bs.find? (fun x=>x.1.toList==s.toList)=some x:=by
    rw [← List.take_append_drop k bs,List.find?_append,hx];rfl
  rw [e];rfl
end Go.Proofs.YtjcleokfpohpdaaGreatDoor
namespace Go.Proofs.YtjcleokfpohpdaaGreatDoor
open Go.RowKit
mutual
def appT (bs:List Bn):Tm→Tm
  | .mk k s n xs=>if k=1 then (match getB bs s with | some t=>t | none=>.mk k s n (appL bs xs)) else .mk k s n (appL bs xs)
def appL (bs:List Bn):List Tm→List Tm
  | []=>[]
  | t :: r=>appT bs t :: appL bs r
end
theorem appL_map (bs:List Bn):∀ l:List Tm,appL bs l=l.map (appT bs)
  | []=>by rw [appL];rfl
  | t :: r=>by rw [appL,appL_map bs r];rfl
theorem appT_eq (bs:List Bn) (t:Tm):appT bs t=if t.kind=1 then (match getB bs t.name with | some u=>u | none=>.mk t.kind t.name t.n (t.args.map (appT bs))) else .mk t.kind t.name t.n (t.args.map (appT bs)):=by
  cases t;rw [appT,appL_map];rfl
theorem map_take_succ (bs:List Bn) {l:List Tm} {k:Nat} (h:k < l.length):(l.take (k + 1)).map (appT bs)=(l.take k).map (appT bs) ++ [appT bs l[k]]:=by
  rw [List.take_succ_eq_append_getElem h,List.map_append];rfl
def ApPost (u:Tm) (w0 w:World) (e:Ending) (w':World):Prop:=∃ z:Tv,e=.returned z.val∧z.t=u∧Fresh w0 w w' z∧Below w.heap.size w w'
end Go.Proofs.YtjcleokfpohpdaaGreatDoor
namespace Go.Proofs.YtjcleokfpohpdaaGreatDoor
open Go.RowKit
theorem hasFn_iff {fs:List Fn} {f:Fn}:hasFn fs f=true ↔ f ∈ fs:=@decide_eq_true_iff _ (Classical.propDecidable _)
def argOk (f:Fn):Bool:=wordB f.1&&(decide (0≤f.2)&&decide (f.2≤6))
def addE (fs:List Fn) (f:Fn):Int:=if argOk f=false then 1 else if (arF fs f.1).isSome=true then 6 else if 40≤fs.length then 3 else 0
def addL (fs:List Fn) (f:Fn):List Fn:=if addE fs f=0 then fs ++ [f] else []
theorem addE_arg {fs:List Fn} {f:Fn} (h:argOk f=false):addE fs f=1:=by unfold addE;rw [if_pos h]
theorem addE_twice {fs:List Fn} {f:Fn} (h:argOk f=true) (k:(arF fs f.1).isSome=true):addE fs f=6:=by unfold addE;rw [if_neg (by rw [h];simp),if_pos k]
theorem addE_long {fs:List Fn} {f:Fn} (h:argOk f=true) (k:(arF fs f.1).isSome=false) (l:40≤fs.length):addE fs f=3:=by unfold addE;rw [if_neg (by rw [h];simp),if_neg (by rw [k];simp),if_pos l]
theorem addE_ok {fs:List Fn} {f:Fn} (h:argOk f=true) (k:(arF fs f.1).isSome=false) (l:¬ 40≤fs.length):addE fs f=0:=by unfold addE;rw [if_neg (by rw [h];simp),if_neg (by rw [k];simp),if_neg l]
theorem addL_bad {fs:List Fn} {f:Fn} (h:addE fs f≠0):addL fs f=[]:=by unfold addL;rw [if_neg h]
theorem addL_ok {fs:List Fn} {f:Fn} (h:addE fs f=0):addL fs f=fs ++ [f]:=by unfold addL;rw [if_pos h]
theorem addE_zero {fs:List Fn} {f:Fn}:addE fs f=0 ↔ argOk f=true∧arF fs f.1=none∧fs.length < 40:=by
  unfold addE
  cases argOk f with
  | false=>simp
  | true =>
    cases h:arF fs f.1 with
    | some n=>simp
    | none=>by_cases hl:40≤fs.length<;>simp [hl]<;>omega
noncomputable def joinR (a:List Fn):List Fn→List Fn→Int × List Fn
  | out,[]=>(0,out)
  | out,f :: r=>if hasFn a f=true then joinR a out r else if addE out f=0 then joinR a (out ++ [f]) r else (addE out f,[])
noncomputable def joinE (a b:List Fn):Int:=(joinR a a b).1
noncomputable def joinL (a b:List Fn):List Fn:=(joinR a a b).2
def shortFn (f:Fn):Bool:=decide (f.1.size≤100)
def fewF (fs:List Fn):Bool:=decide (fs.length≤60)&&fs.all shortFn
theorem fewF_of {fs:List Fn} (h:fewF fs=true):fs.length≤60∧∀ f ∈ fs,f.1.size≤100:=by
  unfold fewF at h
  rw [Bool.and_eq_true,List.all_eq_true] at h
  exact ⟨by simpa using h.1,fun x hx=>by have:=h.2 x hx;unfold shortFn at this;simpa using this⟩
end Go.Proofs.YtjcleokfpohpdaaGreatDoor
namespace Go.Proofs.YtjcleokfpohpdaaGreatDoor
open Go.RowKit
def canonB:Nat→List ByteArray→List Bn
  | _,[]=>[]
  | i,v :: r=>(v,.mk 1 ⟨(88 :: Lib.itoa i).toArray⟩ 0 []) :: canonB (i + 1) r
theorem canonB_length:∀ (i:Nat) (l:List ByteArray),(canonB i l).length=l.length
  | _,[]=>rfl
  | i,_ :: r=>by rw [canonB,List.length_cons,List.length_cons,canonB_length (i + 1) r]
def canonT (l:List Tm):List Tm:=l.map (appT (canonB 0 (canonN l)))
noncomputable def sameUp (a b:Rl):Bool:=eqTs (canonT [a.1,a.2]) (canonT [b.1,b.2])
def entF (s:ByteArray):List Fn:=itemF (parseS (libT s)).2.2
def entR (s:ByteArray):List Rl:=itemR (parseS (libT s)).2.2
def isEnt (s:ByteArray):Bool := !(libT s).toList.isEmpty
noncomputable def newR (rs qs:List Rl):List Rl:=rs ++ qs.filter fun q => !(rs.any fun x=>sameUp x q)
noncomputable def useS (fs:List Fn) (rs:List Rl) (s:ByteArray):Int × List Fn × List Rl :=
  if isEnt s=false then (9,[],[])
  else if joinE fs (entF s)≠0 then (joinE fs (entF s),[],[])
  else if 24 < (newR rs (entR s)).length then (3,[],[])
  else (0,joinL fs (entF s),newR rs (entR s))
end Go.Proofs.YtjcleokfpohpdaaGreatDoor
namespace Go.Proofs.YtjcleokfpohpdaaGreatDoor
open Go.RowKit
end Go.Proofs.YtjcleokfpohpdaaGreatDoor
namespace Go.Proofs.YtjcleokfpohpdaaGreatDoor
open Go.RowKit
def OwnInts (w:World) (v:Value) (p:List Int):Prop:=w.ownsRow 0 3 1 v p.length (p.map (Value.int .i64))∧(∀ n ∈ p,-9223372036854775808≤n∧n≤9223372036854775807)∧v.ownBlock≠none
theorem OwnInts.kept {w w':World} {v u:Value} {p:List Int} (h:OwnInts w v p) {base size n:Nat} {e:TypeId} {xs:List Value} (he:e≠3) (hu:w.ownsRow base e size u n xs) (hg:w.grownBy w' u.ownBlock):OwnInts w' v p:=by
  refine ⟨h.1.kept hg ?_,h.2.1,h.2.2⟩
  by_cases hv:v.ownBlock=none
  · exact .inl hv
  · refine .inr fun hvu=>?_
    rcases h.1.2 with ⟨rfl,_⟩ | ⟨g,cap,cur,rfl,_,hgb,_⟩
    · exact hv rfl
    · rcases hu.2 with ⟨rfl,_⟩ | ⟨g',cap',cur',rfl,_,hgb',_⟩
      · simp [Value.ownBlock] at hvu
      · obtain rfl:g=g':=by simpa [Value.ownBlock] using hvu
        rw [hgb] at hgb'
        injection hgb' with h1
        injection h1 with _ h1 _
        exact he h1.symm
theorem OwnInts.below {w w':World} {v:Value} {p:List Int} (h:OwnInts w v p) (hb:Below w.heap.size w w'):OwnInts w' v p:=by
  refine ⟨⟨h.1.1,?_⟩,h.2⟩
  rcases h.1.2 with h | ⟨g,cap,cur,hv,hbg,hg,hr⟩
  · exact .inl h
  · exact .inr ⟨g,cap,cur,hv,hbg,by rw [hb.block g (Array.getElem?_eq_some_iff.1 hg).1];exact hg,hr⟩
mutual
def placesT:Tm→List (List Int)
  | .mk _ _ _ xs=>[] :: placesL 0 xs
def placesL:Nat→List Tm→List (List Int)
  | _,[]=>[]
  | i,t :: r=>(placesT t).map ((i:Int) :: ·) ++ placesL (i + 1) r
end
mutual
theorem placesT_length:∀ t:Tm,(placesT t).length=t.parts
  | .mk k s n xs=>by rw [placesT,List.length_cons,placesL_length 0 xs,Tm.parts]
theorem placesL_length:∀ (i:Nat) (l:List Tm),(placesL i l).length=partsL l
  | _,[]=>by rw [placesL,partsL];rfl
  | i,t :: r=>by rw [placesL,List.length_append,List.length_map,placesT_length t,placesL_length (i + 1) r,partsL]
end
mutual
theorem placesT_len:∀ (t:Tm) (p:List Int),p ∈ placesT t→p.length < t.parts
  | .mk k s n xs,p,h=>by
    rw [placesT] at h
    rw [Tm.parts]
    rcases List.mem_cons.1 h with rfl | h
    · simp
    · have:=placesL_len 0 xs p h;omega
theorem placesL_len:∀ (i:Nat) (l:List Tm) (p:List Int),p ∈ placesL i l→p.length≤partsL l
  | _,[],p,h=>by rw [placesL] at h;cases h
  | i,t :: r,p,h=>by
    rw [placesL] at h
    rw [partsL]
    rcases List.mem_append.1 h with h | h
    · obtain ⟨q,hq,rfl⟩:=List.mem_map.1 h
      have:=placesT_len t q hq
      simp;omega
    · have:=placesL_len (i + 1) r p h;omega
end
def innerT (t:Tm):List (List Int):=(placesT t).filter fun p=>((atT t p).getD zeroT).kind==5
end Go.Proofs.YtjcleokfpohpdaaGreatDoor
namespace Go.Proofs.YtjcleokfpohpdaaGreatDoor
open Go.RowKit
def AddPost (fs:List Fn) (f:Fn) (w:World) (e:Ending) (w':World):Prop:=∃ v,e=.returned (.tuple #[v,.int .i64 (addE fs f)])∧Fus w' v (addL fs f)∧Below w.heap.size w w'
theorem add_bad {fs:List Fn} {f:Fn} {w w':World} {n:Int} (h:addE fs f=n) (hn:n≠0) (hb:Below w.heap.size w w'):AddPost fs f w (.returned (.tuple #[.slice none 0 0,.int .i64 n])) w' :=
  ⟨_,by rw [h],by rw [addL_bad (by rw [h];exact hn)];exact Fus.none_ _ _ _,hb⟩
def JoinPost (fs bs:List Fn) (w:World) (e:Ending) (w':World):Prop:=∃ v,e=.returned (.tuple #[v,.int .i64 (joinE fs bs)])∧Fus w' v (joinL fs bs)∧Below w.heap.size w w'
theorem dropF_cons {bs:List Fn} {k:Nat} {x:Fn} (hk:bs[k]? = some x):bs.drop k=x :: bs.drop (k + 1):=by
  obtain ⟨hl,rfl⟩:=List.getElem?_eq_some_iff.1 hk
  exact List.drop_eq_getElem_cons hl
theorem join_has {fs os bs:List Fn} {k:Nat} {x:Fn} (hk:bs[k]? = some x) (h:hasFn fs x=true):joinR fs os (bs.drop k)=joinR fs os (bs.drop (k + 1)):=by
  rw [dropF_cons hk,joinR,if_pos h]
theorem join_add {fs os bs:List Fn} {k:Nat} {x:Fn} (hk:bs[k]? = some x) (h:hasFn fs x=false) (h0:addE os x=0):joinR fs os (bs.drop k)=joinR fs (os ++ [x]) (bs.drop (k + 1)):=by
  rw [dropF_cons hk,joinR,if_neg (by rw [h];simp),if_pos h0]
theorem join_err {fs os bs:List Fn} {k:Nat} {x:Fn} (hk:bs[k]? = some x) (h:hasFn fs x=false) (h0:addE os x≠0):joinR fs os (bs.drop k)=(addE os x,[]):=by
  rw [dropF_cons hk,joinR,if_neg (by rw [h];simp),if_neg h0]
def fitsR (fs:List Fn) (t:Tm):List (List Int)→Int × List Int
  | []=>(0,[])
  | p :: r=>match arF fs ((atT t p).getD zeroT).name with
    | none=>(4,p)
    | some n=>if n=((atT t p).getD zeroT).args.length then fitsR fs t r else (5,p)
def fitsF (fs:List Fn) (t:Tm):Int × List Int:=fitsR fs t (innerT t)
theorem join_keep:∀ (fs bs os:List Fn),(joinR fs os bs).1=0→∀ f ∈ os,f ∈ (joinR fs os bs).2
  | fs,[],os,_,f,hf=>by rw [joinR];exact hf
  | fs,b :: r,os,h,f,hf=>by
    rw [joinR] at h ⊢
    split at h
    · next hh=>rw [if_pos hh];exact join_keep fs r os h f hf
    · next hh =>
      rw [if_neg hh]
      split at h
      · next h0=>rw [if_pos h0];exact join_keep fs r _ h f (List.mem_append_left _ hf)
      · next h0=>exact absurd h h0
theorem join_all:∀ (fs bs os:List Fn),(∀ f ∈ fs,f ∈ os)→(joinR fs os bs).1=0→∀ f ∈ bs,f ∈ (joinR fs os bs).2
  | fs,[],os,_,_,f,hf=>by cases hf
  | fs,b :: r,os,hos,h,f,hf=>by
    rw [joinR] at h ⊢
    split at h
    · next hh =>
      rw [if_pos hh]
      rcases List.mem_cons.1 hf with rfl | hf
      · exact join_keep fs r os h f (hos f (hasFn_iff.1 hh))
      · exact join_all fs r os hos h f hf
    · next hh =>
      rw [if_neg hh]
      split at h
      · next h0 =>
        rw [if_pos h0]
        rcases List.mem_cons.1 hf with rfl | hf
        · exact join_keep fs r _ h f (List.mem_append_right _ (List.mem_singleton.2 rfl))
        · exact join_all fs r _ (fun g hg=>List.mem_append_left _ (hos g hg)) h f hf
      · next h0=>exact absurd h h0
theorem join_same:∀ (fs bs os:List Fn),(∀ f ∈ bs,f ∈ fs)→joinR fs os bs=(0,os)
  | fs,[],os,_=>by rw [joinR]
  | fs,b :: r,os,h=>by
    rw [joinR,if_pos (hasFn_iff.2 (h b (List.mem_cons_self ..)))]
    exact join_same fs r os (fun f hf=>h f (List.mem_cons_of_mem _ hf))
theorem join_mem:∀ (fs bs os:List Fn) (f:Fn),f ∈ (joinR fs os bs).2→f ∈ os∨f ∈ bs
  | fs,[],os,f,h=>by rw [joinR] at h;exact .inl h
  | fs,b :: r,os,f,h=>by
    rw [joinR] at h
    split at h
    · rcases join_mem fs r os f h with h | h
      · exact .inl h
      · exact .inr (List.mem_cons_of_mem _ h)
    · split at h
      · rcases join_mem fs r _ f h with h | h
        · rcases List.mem_append.1 h with h | h
          · exact .inl h
          · exact .inr (by rw [List.mem_singleton.1 h];exact List.mem_cons_self ..)
        · exact .inr (List.mem_cons_of_mem _ h)
      · cases h
mutual
theorem places_at:∀ t:Tm,(placesT t).map (fun p=>(atT t p).getD zeroT)=t.all
  | .mk k s n xs=>by
    rw [placesT,List.map_cons,atT_nil,all_eq]
    congr 1
    have h:=places_atL xs xs 0 (fun j hj=>⟨by simpa using hj,by simp⟩) (.mk k s n xs) rfl
    exact h
theorem places_atL:∀ (l ys:List Tm) (i:Nat),(∀ j (h:j < l.length),∃ h2:i + j < ys.length,ys[i + j]=l[j])→∀ t:Tm,t.args=ys→(placesL i l).map (fun p=>(atT t p).getD zeroT)=allL l
  | [],_,_,_,_,_=>by rw [placesL,allL];rfl
  | x :: r,ys,i,h,t,ht=>by
    rw [placesL,List.map_append,List.map_map,allL]
    obtain ⟨h2,h3⟩:=h 0 (by simp)
    congr 1
    · rw [← places_at x]
      refine List.map_congr_left fun p _=>?_
      show (atT t ((i:Int) :: p)).getD zeroT=_
      have hi:i < t.args.length:=by rw [ht];exact h2
      rw [atT_in hi]
      have:t.args[i]=x:=by
        simp only [ht]
        exact h3
      rw [this]
    · exact places_atL r ys (i + 1) (fun j hj=>by
        obtain ⟨g1,g2⟩:=h (j + 1) (by simpa using hj)
        have e:i + 1 + j=i + (j + 1):=by omega
        exact ⟨by omega,by simp only [e];rw [g2];rfl⟩) t ht
end
theorem inner_at (t:Tm):(innerT t).map (fun p=>(atT t p).getD zeroT)=t.all.filter fun x=>x.kind==5:=by
  rw [← places_at t,List.filter_map];rfl
theorem fitsR_ok {fs:List Fn} {t:Tm}:∀ {l:List (List Int)},(fitsR fs t l).1=0 ↔ ∀ p ∈ l,arF fs ((atT t p).getD zeroT).name=some (((atT t p).getD zeroT).args.length:Int)
  | []=>by rw [fitsR];simp
  | p :: r=>by
    rw [fitsR]
    cases h:arF fs ((atT t p).getD zeroT).name with
    | none=>simp [h]
    | some n =>
      by_cases hn:n=(((atT t p).getD zeroT).args.length:Int)
      · rw [show (match some n with | none=>((4:Int),p) | some n=>if n=(((atT t p).getD zeroT).args.length:Int) then fitsR fs t r else (5,p))=fitsR fs t r from if_pos hn,fitsR_ok (l:=r)]
        constructor
        · intro hr q hq
          rcases List.mem_cons.1 hq with rfl | hq
          · rw [h,hn]
          · exact hr q hq
        · intro hr q hq
          exact hr q (List.mem_cons_of_mem _ hq)
      · rw [show (match some n with | none=>((4:Int),p) | some n=>if n=(((atT t p).getD zeroT).args.length:Int) then fitsR fs t r else (5,p))=(5,p) from if_neg hn]
        constructor
        · intro hr;exact absurd (show (5:Int)=0 from hr) (by decide)
        · intro hr
          have:=hr p (List.mem_cons_self ..)
          rw [h] at this
          exact absurd (Option.some.inj this) hn
theorem fitsF_ok {fs:List Fn} {t:Tm}:(fitsF fs t).1=0 ↔ ∀ x ∈ t.all,x.kind=5→arF fs x.name=some (x.args.length:Int):=by
  unfold fitsF
  rw [fitsR_ok]
  have hm:=inner_at t
  constructor
  · intro h x hx hk
    have hxm:x ∈ (innerT t).map (fun p=>(atT t p).getD zeroT):=by
      rw [hm];exact List.mem_filter.2 ⟨hx,by rw [hk];rfl⟩
    obtain ⟨p,hp,rfl⟩:=List.mem_map.1 hxm
    exact h p hp
  · intro h p hp
    have hxm:(atT t p).getD zeroT ∈ t.all.filter fun x=>x.kind==5:=by
      rw [← hm];exact List.mem_map.2 ⟨p,hp,rfl⟩
    obtain ⟨h1,h2⟩:=List.mem_filter.1 hxm
    exact h _ h1 (by simpa using h2)
theorem arF_mem {fs:List Fn} {s:ByteArray} {n:Int} (h:arF fs s=some n):(s,n) ∈ fs:=by
  unfold arF at h
  obtain ⟨x,hx,rfl⟩:=Option.map_eq_some_iff.1 h
  have h1:=List.find?_some hx
  rw [toList_iff] at h1
  have h2:=List.mem_of_find?_eq_some hx
  obtain ⟨a,b⟩:=x
  simp only at h1
  subst h1;exact h2
theorem arF_is {fs:List Fn} {s:ByteArray} {n:Int} (h:(s,n) ∈ fs):∃ m,arF fs s=some m:=by
  unfold arF
  cases hf:fs.find? (fun x=>x.1.toList==s.toList) with
  | some x=>exact ⟨x.2,rfl⟩
  | none =>
    have:=List.find?_eq_none.1 hf (s,n) h
    simp at this
end Go.Proofs.YtjcleokfpohpdaaGreatDoor
