/-
  Small facts that every layer's texts use: answers, boxes of two and of four cells, rows that the call itself makes, and memory behind memory. Nothing of the program's functions.
  Terms xs data; struct values and rows in memory that read xs terms; and that a call which makes new memory alone leaves them xs they were.
  All parts of a term, by the reference of layer 3: All, for any term in memory that has not too many; the row lies in new memory, the parts' arguments where they lay. (as data)
  How many parts a term has, up to a bound, by the reference of layer 3: count, for any term in memory. (as data)
  How terms are alike, as data: rows up to a place, where two heads part. No function of the program.
  How many parts a term has, up to a bound, by the reference of layer 3: count, for any term in memory.
  All parts of a term, by the reference of layer 3: All, for any term in memory that has not too many; the row lies in new memory, the parts' arguments where they lay.
-/
import Derived.Test.YtjcleokfpohpdaaGreatDoorRows
import Derived.WalkKit
import Derived.WalkSpells
import Derived.WalkLawsBesides
import Derived.Lib.Hide
import Derived.Lib.SlicesS
import Derived.OwnWalk
import Derived.Below
import Derived.Laws.OwnMore
import Derived.Laws.MakeOwn
namespace Go.Proofs.YtjcleokfpohpdaaGreatDoor
open Go.RowKit
theorem ret_int {k:IntKind} {a b:Int} (h:a=b):Ending.returned (.int k a)=.returned (.int k b):=by rw [h]
theorem ret_bool {a b:Bool} (h:a=b):Ending.returned (.bool a)=.returned (.bool b):=by rw [h]
theorem below_drewN {B:Nat} {a w:World} (h:Below B a w) (n:Nat):Below B a (w.drewN n):=⟨h.os,h.tape,h.output,h.size,h.block⟩
structure Box (w1:World) (g:Nat) (x0 x1 x2 x3:Value):Prop where
  c0:w1.cell? ⟨g,0,none⟩=some x0
  c1:w1.cell? ⟨g,1,none⟩=some x1
  c2:w1.cell? ⟨g,2,none⟩=some x2
  c3:w1.cell? ⟨g,3,none⟩=some x3
  f0:w1.frozen? ⟨g,0,none⟩=false
  f1:w1.frozen? ⟨g,1,none⟩=false
  f2:w1.frozen? ⟨g,2,none⟩=false
  f3:w1.frozen? ⟨g,3,none⟩=false
theorem box_new (w:World) (x0 x1 x2 x3:Value) (t:TypeId):Box (w.alloc (.cells #[x0,x1,x2,x3] t)) w.heap.size x0 x1 x2 x3 where
  c0:=World.cell?_alloc_mark w #[x0,x1,x2,x3] t (0,0) 0
  c1:=World.cell?_alloc_mark w #[x0,x1,x2,x3] t (0,0) 1
  c2:=World.cell?_alloc_mark w #[x0,x1,x2,x3] t (0,0) 2
  c3:=World.cell?_alloc_mark w #[x0,x1,x2,x3] t (0,0) 3
  f0:=by simp
  f1:=by simp
  f2:=by simp
  f3:=by simp
theorem Box.below {w w1:World} {g B:Nat} {x0 x1 x2 x3:Value} (h:Box w g x0 x1 x2 x3) (hb:Below B w w1) (hg:g < B):Box w1 g x0 x1 x2 x3 where
  c0:=(hb.cell (p:=⟨g,0,none⟩) hg).trans h.c0
  c1:=(hb.cell (p:=⟨g,1,none⟩) hg).trans h.c1
  c2:=(hb.cell (p:=⟨g,2,none⟩) hg).trans h.c2
  c3:=(hb.cell (p:=⟨g,3,none⟩) hg).trans h.c3
  f0:=(hb.frozen (p:=⟨g,0,none⟩) hg).trans h.f0
  f1:=(hb.frozen (p:=⟨g,1,none⟩) hg).trans h.f1
  f2:=(hb.frozen (p:=⟨g,2,none⟩) hg).trans h.f2
  f3:=(hb.frozen (p:=⟨g,3,none⟩) hg).trans h.f3
theorem box_after {w w1:World} {x0 x1 x2 x3:Value} {t:TypeId} (hb:Below (w.alloc (.cells #[x0,x1,x2,x3] t)).heap.size (w.alloc (.cells #[x0,x1,x2,x3] t)) w1):Box w1 w.heap.size x0 x1 x2 x3 :=
  (box_new w x0 x1 x2 x3 t).below hb (by simp)
theorem below_box {w w1:World} {o:Obj} (hb:Below (w.alloc o).heap.size (w.alloc o) w1):Below w.heap.size w w1 :=
  ((Below.refl _ _).alloc (Nat.le_refl _) _).trans (hb.mono (by simp))
theorem below_box' {w w1:World} {o:Obj} {g:Nat} {x0 x1 x2 x3:Value} (hx:Box (w.alloc o) g x0 x1 x2 x3) (hb:Below (w.alloc o).heap.size (w.alloc o) w1) (hg:g=w.heap.size:=by rfl):Box w1 g x0 x1 x2 x3∧Below w.heap.size w w1∧w.heap.size < w1.heap.size :=
  ⟨hx.below hb (by subst hg;simp),below_box hb,by have:=hb.size;simp at this;omega⟩
theorem new_row4 (w:World) (b:Nat) (hb:b=w.heap.size) (x0 x1 x2 x3:Value) (t:TypeId):∀ j u,[x0,x1,x2,x3][j]? = some u→(w.alloc (.cells #[x0,x1,x2,x3] t)).cell? ((⟨b,0,none⟩:Addr).add j)=some u:=by
  subst hb
  intro j u hj
  have e:=World.cell?_alloc_mark w #[x0,x1,x2,x3] t (0,0) (0 + j)
  have:((⟨w.heap.size,0,none⟩:Addr).add j)=⟨w.heap.size,0 + j,none⟩:=by
    unfold Addr.add;split
    · next h=>subst h;rfl
    · rfl
  rw [this,e]
  simpa using hj
theorem own_row_ge {w:World} {base:Nat} {e:TypeId} {size:Nat} {v:Value} {n:Nat} {xs:List Value} (h:w.ownsRow base e size v n xs):∀ g,v.ownBlock=some g→base≤g:=by
  intro g hg
  obtain ⟨_,⟨rfl,_⟩ | ⟨g',cap,cur,rfl,hb,_⟩⟩:=h
  · cases hg
  · cases hg;exact hb
theorem own_row_lt {w:World} {base:Nat} {e:TypeId} {size:Nat} {v:Value} {n:Nat} {xs:List Value} (h:w.ownsRow base e size v n xs):∀ g,v.ownBlock=some g→g < w.heap.size:=by
  intro g hg
  obtain ⟨_,⟨rfl,_⟩ | ⟨g',cap,cur,rfl,hb,hgg,_⟩⟩:=h
  · cases hg
  · injection hg with hg
    subst hg
    rcases Nat.lt_or_ge g' w.heap.size with hlt | hge
    · exact hlt
    · rw [Array.getElem?_eq_none hge] at hgg;cases hgg
structure Pair (w1:World) (g:Nat) (x0 x1:Value):Prop where
  c0:w1.cell? ⟨g,0,none⟩=some x0
  c1:w1.cell? ⟨g,1,none⟩=some x1
  f0:w1.frozen? ⟨g,0,none⟩=false
  f1:w1.frozen? ⟨g,1,none⟩=false
theorem pair_new (w:World) (x0 x1:Value) (t:TypeId):Pair (w.alloc (.cells #[x0,x1] t)) w.heap.size x0 x1 where
  c0:=World.cell?_alloc_mark w #[x0,x1] t (0,0) 0
  c1:=World.cell?_alloc_mark w #[x0,x1] t (0,0) 1
  f0:=by simp
  f1:=by simp
theorem Pair.below {w w1:World} {g B:Nat} {x0 x1:Value} (h:Pair w g x0 x1) (hb:Below B w w1) (hg:g < B):Pair w1 g x0 x1 where
  c0:=(hb.cell (p:=⟨g,0,none⟩) hg).trans h.c0
  c1:=(hb.cell (p:=⟨g,1,none⟩) hg).trans h.c1
  f0:=(hb.frozen (p:=⟨g,0,none⟩) hg).trans h.f0
  f1:=(hb.frozen (p:=⟨g,1,none⟩) hg).trans h.f1
theorem pair_after {w wr:World} {x0 x1:Value} {t:TypeId} (hb:Below (w.heap.size + 1) (w.alloc (.cells #[x0,x1] t)) wr):Pair wr w.heap.size x0 x1 :=
  (pair_new w x0 x1 t).below hb (by omega)
theorem below_pair {w wr:World} {o:Obj} (hb:Below (w.heap.size + 1) (w.alloc o) wr):Below w.heap.size w wr :=
  ((Below.refl _ _).alloc (Nat.le_refl _) _).trans (hb.mono (by omega))
theorem own_lower {w:World} {base b0:Nat} {e:TypeId} {size:Nat} {v:Value} {n:Nat} {xs:List Value} (h:w.ownsRow base e size v n xs) (hb:b0≤base):w.ownsRow b0 e size v n xs:=by
  obtain ⟨hn,h⟩:=h
  refine ⟨hn,?_⟩
  rcases h with h | ⟨g,cap,cur,rfl,hbb,hr⟩
  · exact .inl h
  · exact .inr ⟨g,cap,cur,rfl,Nat.le_trans hb hbb,hr⟩
theorem own_below {w w1:World} {base:Nat} {e:TypeId} {size:Nat} {v:Value} {n:Nat} {xs:List Value} (h:w.ownsRow base e size v n xs) (hb:Below w.heap.size w w1):w1.ownsRow base e size v n xs:=by
  obtain ⟨hn,h⟩:=h
  refine ⟨hn,?_⟩
  rcases h with h | ⟨g,cap,cur,rfl,hbb,hg,hr⟩
  · exact .inl h
  · refine .inr ⟨g,cap,cur,rfl,hbb,?_,hr⟩
    rcases Nat.lt_or_ge g w.heap.size with hlt | hge
    · rw [hb.block g hlt];exact hg
    · rw [Array.getElem?_eq_none hge] at hg;cases hg
theorem Box.grown {w w1:World} {g:Nat} {x0 x1 x2 x3:Value} {row:Option Nat} (h:Box w g x0 x1 x2 x3) (hg:w.grownBy w1 row) (hlt:g < w.heap.size) (hr:∀ k,row=some k→k≠g):w1.cell? ⟨g,1,none⟩=some x1:=by
  have hb:=hg.block g hlt (fun e=>hr g e.symm rfl)
  have:=World.cell?_of_block (w:=w) (w':=w1) (a:=⟨g,1,none⟩) hb
  rw [this];exact h.c1
theorem below_next {w w1 w2:World} (h:Below w.heap.size w w1) (h2:Below w1.heap.size w1 w2):Below w.heap.size w w2:=h.trans (h2.mono h.size)
end Go.Proofs.YtjcleokfpohpdaaGreatDoor
namespace Go.Proofs.YtjcleokfpohpdaaGreatDoor
open Go.RowKit
inductive Tm where
  | mk (kind:Int) (name:ByteArray) (n:Int) (args:List Tm)
def Tm.kind:Tm→Int | .mk k _ _ _=>k
def Tm.name:Tm→ByteArray | .mk _ s _ _=>s
def Tm.n:Tm→Int | .mk _ _ n _=>n
def Tm.args:Tm→List Tm | .mk _ _ _ xs=>xs
instance:Inhabited Tm:=⟨.mk 0 ⟨#[]⟩ 0 []⟩
mutual
def Tm.parts:Tm→Nat
  | .mk _ _ _ xs=>partsL xs + 1
def partsL:List Tm→Nat
  | []=>0
  | t :: r=>t.parts + partsL r
end
theorem parts_eq (t:Tm):t.parts=partsL t.args + 1:=by cases t;rw [Tm.parts];rfl
theorem parts_pos (t:Tm):1≤t.parts:=by rw [parts_eq];omega
theorem partsL_cons (t:Tm) (r:List Tm):partsL (t :: r)=t.parts + partsL r:=by rw [partsL]
theorem partsL_nil:partsL []=0:=by rw [partsL]
theorem partsL_append (a b:List Tm):partsL (a ++ b)=partsL a + partsL b:=by
  induction a with
  | nil=>rw [List.nil_append,partsL_nil];omega
  | cons t r ih=>rw [List.cons_append,partsL_cons,partsL_cons,ih];omega
theorem parts_get (l:List Tm) {j:Nat} (h:j < l.length):l[j].parts≤partsL l:=by
  induction l generalizing j with
  | nil=>simp at h
  | cons t r ih =>
    rw [partsL_cons]
    cases j with
    | zero=>simp
    | succ j=>have:=ih (j:=j) (by simpa using h);simp;omega
theorem parts_arg (t:Tm) {j:Nat} (h:j < t.args.length):t.args[j].parts < t.parts:=by
  rw [parts_eq t];have:=parts_get t.args h;omega
theorem partsL_length (l:List Tm):l.length≤partsL l:=by
  induction l with
  | nil=>simp
  | cons t r ih=>rw [partsL_cons,List.length_cons];have:=parts_pos t;omega
theorem partsL_take (l:List Tm) {k:Nat} (h:k < l.length):partsL (l.take (k + 1))=partsL (l.take k) + l[k].parts:=by
  rw [List.take_succ_eq_append_getElem h,partsL_append,partsL_cons,partsL_nil];omega
structure Fit (k:Int) (s:ByteArray) (n:Int):Prop where
  klo : -9223372036854775808≤k
  khi:k≤9223372036854775807
  nlo : -9223372036854775808≤n
  nhi:n≤9223372036854775807
  len:s.size≤9223372036854775807
mutual
def TmAt (w:World):Tm→Nat→Nat→Prop
  | .mk k s n xs,b,o=>Fit k s n∧w.cell? ⟨b,o,none⟩=some (.int .i64 k)∧w.cell? ⟨b,o + 1,none⟩=some (.string s)∧w.cell? ⟨b,o + 2,none⟩=some (.int .i64 n) ∧
    ∃ a c,w.cell? ⟨b,o + 3,none⟩=some (.slice a xs.length c)∧(xs.length≤9223372036854775807∧xs.length≤c)∧(xs=[]∨∃ b' o',a=some ⟨b',o',none⟩∧b' < w.heap.size∧RowAt w xs b' o')
def RowAt (w:World):List Tm→Nat→Nat→Prop
  | [],_,_=>True
  | t :: r,b,o=>TmAt w t b o∧RowAt w r b (o + 4)
end
def Args (w:World) (a:Option Addr) (c:Nat) (xs:List Tm):Prop:=(xs.length≤9223372036854775807∧xs.length≤c)∧(xs=[]∨∃ b o,a=some ⟨b,o,none⟩∧b < w.heap.size∧RowAt w xs b o)
theorem rowAt_get {w:World}:∀ {xs:List Tm} {b o:Nat},RowAt w xs b o→∀ {j:Nat} (h:j < xs.length),TmAt w xs[j] b (o + j * 4)
  | [],_,_,_,_,h=>by simp at h
  | t :: r,b,o,hr,0,_=>by rw [RowAt] at hr;simpa using hr.1
  | t :: r,b,o,hr,j + 1,h=>by
    rw [RowAt] at hr
    have:=rowAt_get hr.2 (j:=j) (by simpa using h)
    rw [show o + (j + 1) * 4=o + 4 + j * 4 from by omega]
    exact this
theorem rowAt_of {w:World}:∀ {xs:List Tm} {b o:Nat},(∀ {j:Nat} (h:j < xs.length),TmAt w xs[j] b (o + j * 4))→RowAt w xs b o
  | [],_,_,_=>by rw [RowAt];trivial
  | t :: r,b,o,h=>by
    rw [RowAt]
    refine ⟨(show TmAt w t b (o + 0 * 4) from h (j:=0) (by simp)),rowAt_of fun {j} hj=>?_⟩
    have:=h (j:=j + 1) (by simpa using hj)
    rw [show o + (j + 1) * 4=o + 4 + j * 4 from by omega] at this
    exact this
structure Tv where
  t:Tm
  a:Option Addr
  c:Nat
def Tv.val (v:Tv):Value:=.agg #[.int .i64 v.t.kind,.string v.t.name,.int .i64 v.t.n,.slice v.a v.t.args.length v.c]
def Tv.cells (v:Tv):List Value:=[.int .i64 v.t.kind,.string v.t.name,.int .i64 v.t.n,.slice v.a v.t.args.length v.c]
def Tv.ok (w:World) (v:Tv):Prop:=Fit v.t.kind v.t.name v.t.n∧Args w v.a v.c v.t.args
structure TvAt (w:World) (b o:Nat) (v:Tv):Prop where
  c0:w.cell? ⟨b,o,none⟩=some (.int .i64 v.t.kind)
  c1:w.cell? ⟨b,o + 1,none⟩=some (.string v.t.name)
  c2:w.cell? ⟨b,o + 2,none⟩=some (.int .i64 v.t.n)
  c3:w.cell? ⟨b,o + 3,none⟩=some (.slice v.a v.t.args.length v.c)
theorem tmAt_tv {w:World} {t:Tm} {b o:Nat} (h:TmAt w t b o):∃ v:Tv,v.t=t∧v.ok w∧TvAt w b o v:=by
  cases t with
  | mk k s n xs =>
    rw [TmAt] at h
    obtain ⟨hf,h0,h1,h2,a,c,h3,hl,hr⟩:=h
    exact ⟨⟨.mk k s n xs,a,c⟩,rfl,⟨hf,hl,hr⟩,h0,h1,h2,h3⟩
theorem tv_tmAt {w:World} {v:Tv} {b o:Nat} (hk:v.ok w) (h:TvAt w b o v):TmAt w v.t b o:=by
  obtain ⟨t,a,c⟩:=v
  cases t with
  | mk k s n xs =>
    rw [TmAt]
    exact ⟨hk.1,h.c0,h.c1,h.c2,a,c,h.c3,hk.2.1,hk.2.2⟩
theorem lt_of_cell {w:World} {b o:Nat} {x:Value} (h:w.cell? ⟨b,o,none⟩=some x):b < w.heap.size:=by
  rcases Nat.lt_or_ge b w.heap.size with hlt | hge
  · exact hlt
  · unfold World.cell? at h
    simp [Array.getElem?_eq_none hge] at h
mutual
theorem TmAt.below {w w':World} (hb:Below w.heap.size w w'):∀ {t:Tm} {b o:Nat},TmAt w t b o→TmAt w' t b o
  | .mk k s n xs,b,o,h=>by
    rw [TmAt] at h ⊢
    obtain ⟨hf,h0,h1,h2,a,c,h3,hl,hr⟩:=h
    have hlt:=lt_of_cell h0
    refine ⟨hf,(hb.cell (p:=⟨b,o,none⟩) hlt).trans h0,(hb.cell (p:=⟨b,o + 1,none⟩) hlt).trans h1,(hb.cell (p:=⟨b,o + 2,none⟩) hlt).trans h2,a,c,(hb.cell (p:=⟨b,o + 3,none⟩) hlt).trans h3,hl,?_⟩
    rcases hr with hr | ⟨b',o',ha,hb',hr⟩
    · exact .inl hr
    · exact .inr ⟨b',o',ha,Nat.lt_of_lt_of_le hb' hb.size,RowAt.below hb hr⟩
theorem RowAt.below {w w':World} (hb:Below w.heap.size w w'):∀ {xs:List Tm} {b o:Nat},RowAt w xs b o→RowAt w' xs b o
  | [],_,_,_=>by rw [RowAt];trivial
  | t :: r,b,o,h=>by
    rw [RowAt] at h ⊢
    exact ⟨TmAt.below hb h.1,RowAt.below hb h.2⟩
end
theorem Args.below {w w':World} {a:Option Addr} {c:Nat} {xs:List Tm} (h:Args w a c xs) (hb:Below w.heap.size w w'):Args w' a c xs:=by
  obtain ⟨hl,h⟩:=h
  refine ⟨hl,?_⟩
  rcases h with h | ⟨b,o,ha,hlt,hr⟩
  · exact .inl h
  · exact .inr ⟨b,o,ha,Nat.lt_of_lt_of_le hlt hb.size,hr.below hb⟩
theorem Tv.ok.below {w w':World} {v:Tv} (h:v.ok w) (hb:Below w.heap.size w w'):v.ok w':=⟨h.1,Args.below h.2 hb⟩
def Tms (w:World) (v:Value) (ts:List Tm):Prop:=∃ a c,v=.slice a ts.length c∧Args w a c ts
theorem Tms.below {w w':World} {v:Value} {ts:List Tm} (h:Tms w v ts) (hb:Below w.heap.size w w'):Tms w' v ts:=by
  obtain ⟨a,c,hv,h⟩:=h
  exact ⟨a,c,hv,h.below hb⟩
theorem Tms.none_ (w:World) (a:Option Addr) (c:Nat):Tms w (.slice a 0 c) []:=⟨a,c,rfl,by simp,.inl rfl⟩
noncomputable def eqT (t u:Tm):Bool:=@decide (t=u) (Classical.propDecidable _)
theorem eqT_true {t u:Tm} (h:t=u):eqT t u=true:=by unfold eqT;simp [h]
theorem eqT_false {t u:Tm} (h:t≠u):eqT t u=false:=by unfold eqT;simp [h]
theorem eqT_iff {t u:Tm}:eqT t u=true ↔ t=u:=by unfold eqT;simp
noncomputable def eqTs (ts us:List Tm):Bool:=@decide (ts=us) (Classical.propDecidable _)
theorem eqTs_true {ts us:List Tm} (h:ts=us):eqTs ts us=true:=by unfold eqTs;simp [h]
theorem eqTs_false {ts us:List Tm} (h:ts≠us):eqTs ts us=false:=by unfold eqTs;simp [h]
theorem Tv.val_shape (x:Tv):∃ (k:Int) (s:ByteArray) (n:Int) (a:Option Addr) (l c:Nat),x.val=.agg #[.int .i64 k,.string s,.int .i64 n,.slice a l c]:=⟨_,_,_,_,_,_,rfl⟩
theorem TvAt.below {w w':World} {b o:Nat} {v:Tv} (h:TvAt w b o v) (hb:Below w.heap.size w w'):TvAt w' b o v where
  c0:=(hb.cell (p:=⟨b,o,none⟩) (lt_of_cell h.c0)).trans h.c0
  c1:=(hb.cell (p:=⟨b,o + 1,none⟩) (lt_of_cell h.c0)).trans h.c1
  c2:=(hb.cell (p:=⟨b,o + 2,none⟩) (lt_of_cell h.c0)).trans h.c2
  c3:=(hb.cell (p:=⟨b,o + 3,none⟩) (lt_of_cell h.c0)).trans h.c3
end Go.Proofs.YtjcleokfpohpdaaGreatDoor
namespace Go.Proofs.YtjcleokfpohpdaaGreatDoor
open Go.RowKit
mutual
def Tm.all:Tm→List Tm
  | .mk k s n xs=>.mk k s n xs :: allL xs
def allL:List Tm→List Tm
  | []=>[]
  | t :: r=>t.all ++ allL r
end
theorem all_eq (t:Tm):t.all=t :: allL t.args:=by cases t;rw [Tm.all];rfl
theorem allL_append (a b:List Tm):allL (a ++ b)=allL a ++ allL b:=by
  induction a with
  | nil=>rw [List.nil_append,allL];rfl
  | cons t r ih=>rw [List.cons_append,allL,allL,ih,List.append_assoc]
theorem allL_take {l:List Tm} {k:Nat} (h:k < l.length):allL (l.take (k + 1))=allL (l.take k) ++ l[k].all:=by
  rw [List.take_succ_eq_append_getElem h,allL_append]
  congr 1
  rw [allL,allL,List.append_nil]
mutual
theorem all_length:∀ t:Tm,t.all.length=t.parts
  | .mk k s n xs=>by rw [Tm.all,List.length_cons,allL_length xs,Tm.parts]
theorem allL_length:∀ l:List Tm,(allL l).length=partsL l
  | []=>by rw [allL,partsL];rfl
  | t :: r=>by rw [allL,List.length_append,all_length t,allL_length r,partsL]
end
theorem termInfo:(Tryz.prog.info? 70).map (fun i=>(i.zero,i.size,i.bytes))=some (some (.agg #[.int .i64 0,.string ⟨#[]⟩,.int .i64 0,.slice none 0 0]),4,56):=by kernel_rfl
def rowTv (vs:List Tv):List Value:=vs.flatMap Tv.cells
theorem rowTv_length (vs:List Tv):(rowTv vs).length=vs.length * 4:=by
  unfold rowTv
  induction vs with
  | nil=>rfl
  | cons t r ih=>rw [List.flatMap_cons,List.length_append,ih];simp [Tv.cells];omega
theorem rowTv_append (a b:List Tv):rowTv (a ++ b)=rowTv a ++ rowTv b:=by unfold rowTv;rw [List.flatMap_append]
theorem rowTv_one (v:Tv):rowTv [v]=v.cells:=by unfold rowTv;simp
theorem rowTv_get (vs:List Tv) (j:Nat) (h:j < vs.length) (i:Nat) (hi:i < 4):(rowTv vs)[j * 4 + i]? = vs[j].cells[i]? := by
  induction vs generalizing j with
  | nil=>simp at h
  | cons t r ih =>
    unfold rowTv
    rw [List.flatMap_cons]
    cases j with
    | zero=>rw [Nat.zero_mul,Nat.zero_add,List.getElem?_append_left (by simp [Tv.cells];omega)];rfl
    | succ j =>
      rw [List.getElem?_append_right (by simp [Tv.cells];omega)]
      have:=ih j (by simpa using h)
      rw [show (j + 1) * 4 + i - t.cells.length=j * 4 + i from by simp [Tv.cells];omega]
      exact this
theorem rowTv_one' (vs:List Tv):∀ u ∈ rowTv vs,u.oneCell'=true:=by
  intro u hu
  unfold rowTv at hu
  obtain ⟨v,_,hv⟩:=List.mem_flatMap.1 hu
  simp [Tv.cells] at hv
  rcases hv with rfl | rfl | rfl | rfl<;>rfl
def OwnTv (w0 w:World) (base:Nat) (v:Value) (ts:List Tm):Prop :=
  ∃ vs:List Tv,vs.map Tv.t=ts∧(∀ x ∈ vs,x.ok w0)∧w.ownsRow base 70 4 v ts.length (rowTv vs)
theorem OwnTv.tms {w0 w:World} {base:Nat} {v:Value} {ts:List Tm} (h:OwnTv w0 w base v ts) (hb:Below w0.heap.size w0 w) (hl:ts.length≤9223372036854775807):Tms w v ts:=by
  obtain ⟨vs,rfl,hok,hn,h⟩:=h
  rcases h with ⟨rfl,h0⟩ | ⟨g,cap,cur,rfl,_,hg,hcap,hmax,hsz,htake⟩
  · have:vs=[]:=by simpa using h0
    subst this
    exact Tms.none_ _ _ _
  · refine ⟨_,cap,rfl,⟨hl,hcap⟩,?_⟩
    by_cases h0:vs=[]
    · left;rw [h0];rfl
    right
    have hlt:g < w.heap.size:=by
      rcases Nat.lt_or_ge g w.heap.size with hlt | hge
      · exact hlt
      · rw [Array.getElem?_eq_none hge] at hg;cases hg
    refine ⟨g,0,rfl,hlt,rowAt_of fun {j} hj=>?_⟩
    have hjv:j < vs.length:=by simpa using hj
    rw [List.getElem_map]
    have cell:∀ i,i < 4→w.cell? ⟨g,0 + j * 4 + i,none⟩=vs[j].cells[i]? := by
      intro i hi
      rw [cell_of_row w g (0 + j * 4 + i) cur _ (0,0) hg,← rowTv_get vs j hjv i hi,← htake,List.getElem?_take,if_pos (by simp;omega),Nat.zero_add]
      simp
    exact tv_tmAt ((hok _ (List.getElem_mem hjv)).below hb) ⟨cell 0 (by omega),cell 1 (by omega),cell 2 (by omega),cell 3 (by omega)⟩
theorem own_first (w:World) (base:Nat) (hb:base≤w.heap.size) (v:Tv):(w.alloc (.cells #[.int .i64 v.t.kind,.string v.t.name,.int .i64 v.t.n,.slice v.a v.t.args.length v.c] 70)).ownsRow base 70 4 (.slice (some ⟨w.heap.size,0,none⟩) 1 1) 1 (rowTv [v]):=by
  refine ⟨rfl,.inr ⟨w.heap.size,1,_,rfl,hb,heap_alloc_new w _,Nat.le_refl _,by unfold maxLen;omega,rfl,?_⟩⟩
  rw [rowTv_one];rfl
end Go.Proofs.YtjcleokfpohpdaaGreatDoor
namespace Go.Proofs.YtjcleokfpohpdaaGreatDoor
open Go.RowKit
def cnt (p:Nat) (most:Int):Int:=if (p:Int)≤most then p else most + 1
theorem cnt_in {p:Nat} {most:Int} (h:(p:Int)≤most):cnt p most=p:=by unfold cnt;rw [if_pos h]
theorem cnt_out {p:Nat} {most:Int} (h:¬ (p:Int)≤most):cnt p most=most + 1:=by unfold cnt;rw [if_neg h]
theorem cnt_one {most:Int} (h:0≤most):cnt 1 most=1:=by unfold cnt;split<;>omega
theorem cnt_step {p q:Nat} {most:Int} (_h:(p:Int)≤most):(p:Int) + cnt q (most - p)=cnt (p + q) most:=by
  by_cases hq:(q:Int)≤most - p
  · rw [cnt_in hq,cnt_in (by omega)];omega
  · rw [cnt_out hq,cnt_out (by omega)];omega
theorem cnt_bd {p:Nat} {most:Int} (h:0≤most):0≤cnt p most∧cnt p most≤most + 1:=by
  unfold cnt;split<;>omega
end Go.Proofs.YtjcleokfpohpdaaGreatDoor
namespace Go.Proofs.YtjcleokfpohpdaaGreatDoor
open Go.RowKit
theorem Tv.ok.drew {w:World} {v:Tv} (h:v.ok w):v.ok w.drew:=h.below ((Below.refl _ _).drew)
theorem box_next (w:World) (g:Nat) (hg:g=w.heap.size) (x0 x1 x2 x3:Value) (t:TypeId):Box (w.alloc (.cells #[x0,x1,x2,x3] t)) g x0 x1 x2 x3:=by
  subst hg;exact box_new w x0 x1 x2 x3 t
def TmsTo (xs ys:List Tm) (k:Nat):Prop:=∀ j (h1:j < xs.length) (h2:j < ys.length),j < k→xs[j]=ys[j]
theorem TmsTo.succ {xs ys:List Tm} {k:Nat} (h:TmsTo xs ys k) (h1:k < xs.length) (h2:k < ys.length) (hk:xs[k]=ys[k]):TmsTo xs ys (k + 1):=by
  intro j a b hj
  by_cases e:j=k
  · subst e;exact hk
  · exact h j a b (by omega)
theorem TmsTo.all {xs ys:List Tm} (h:TmsTo xs ys xs.length) (hl:xs.length=ys.length):xs=ys :=
  List.ext_getElem hl fun j h1 h2=>h j h1 h2 h1
theorem tm_ways (k k':Int) (s s':ByteArray) (n n':Int) (l l':Nat):(k=k'∧s=s'∧n=n'∧l=l')∨(¬ (k=k'∧s=s'∧n=n'∧l=l')∧((k != k')=true∨((k != k')=false∧((n != n')=true∨((n != n')=false∧(((s.toList==s'.toList)=false)∨((s.toList==s'.toList)=true∧((l:Int) != (l':Int))=true))))))):=by
  by_cases h0:k=k'
  · by_cases h2:n=n'
    · by_cases h1:s=s'
      · by_cases h3:l=l'
        · exact .inl ⟨h0,h1,h2,h3⟩
        · exact .inr ⟨fun h=>h3 h.2.2.2,.inr ⟨by simp [h0],.inr ⟨by simp [h2],.inr ⟨by simp [h1],by rw [bne_iff_ne];omega⟩⟩⟩⟩
      · exact .inr ⟨fun h=>h1 h.2.1,.inr ⟨by simp [h0],.inr ⟨by simp [h2],.inl (by rw [Lib.bytes_beq_false_iff];exact h1)⟩⟩⟩
    · exact .inr ⟨fun h=>h2 h.2.2.1,.inr ⟨by simp [h0],.inl (by rw [bne_iff_ne];exact h2)⟩⟩
  · exact .inr ⟨fun h=>h0 h.1,.inl (by rw [bne_iff_ne];exact h0)⟩
end Go.Proofs.YtjcleokfpohpdaaGreatDoor
namespace Go.Proofs.YtjcleokfpohpdaaGreatDoor
open Go.RowKit
set_option maxRecDepth 100000 in
set_option maxHeartbeats 2000000 in
theorem count_tm (m:Nat):∀ (x:Tv) (most:Int) (w:World),x.t.parts≤m→x.ok w→0≤most→most≤1000000 →
    Calls Tryz.prog 127 #[x.val,.int .i64 most] w fun e w'=>e=.returned (.int .i64 (cnt x.t.parts most))∧Below w.heap.size w w':=by
  induction m with
  | zero=>intro x most w h;have:=parts_pos x.t;omega
  | succ m ih =>
    intro x most w hm hx hm0 hm1
    obtain ⟨⟨k,s,n,xs⟩,a,c⟩:=x
    obtain ⟨_,hxl,hxr⟩:=hx
    have hpe:(Tm.mk k s n xs).parts=partsL xs + 1:=parts_eq _
    simp only [Tv.val,Tm.kind,Tm.name,Tm.n,Tm.args] at hxl hxr ⊢
    have hpl:∀ j (h:j < xs.length),xs[j].parts≤m:=fun j h=>by
      have:=parts_arg (.mk k s n xs) (j:=j) h
      have e:(Tm.mk k s n xs).args[j]=xs[j]:=rfl
      rw [e] at this;simp only at hm;omega
    have IH:=Lib.hid ih
    have HP:=Lib.hid hpl
    have HE:=Lib.hid hpe
    clear ih hpl hm hpe
    rcases hxr with rfl | ⟨b,off,rfl,hlt,hr⟩
    · by_cases hmm:(1:Int)≤most
      · have hr:=Lib.hid (show cnt (Tm.mk k s n []).parts most=1 from by rw [HE.out,partsL_nil,cnt_in (by omega)];rfl)
        go_enter Tryz.func127,Tryz.ntmps127
        go_wp2
        refine wp_loop_rounds 1 ?_;rw [rounds_succ]
        go_wp2
        go_ret
        exact ⟨ret_int hr.out.symm,(Below.refl _ _).alloc (Nat.le_refl _) _⟩
      · have hr:=Lib.hid (show cnt (Tm.mk k s n []).parts most=most + 1 from by rw [HE.out,partsL_nil,cnt_out (by omega)])
        go_enter Tryz.func127,Tryz.ntmps127
        go_wp2
        refine wp_loop_rounds 1 ?_;rw [rounds_succ]
        go_wp2
        go_ret
        exact ⟨ret_int hr.out.symm,(Below.refl _ _).alloc (Nat.le_refl _) _⟩
    · have HR:=Lib.hid hr
      clear hr
      go_enter Tryz.func127,Tryz.ntmps127
      go_wp2
      go_loopw [5,11] (fun q i wr=>∃ j:Nat,j≤xs.length∧i=.int .i64 j∧q=.int .i64 (cnt (partsL (xs.take j) + 1) most)∧Below w.heap.size w wr) (fun _ i _=>xs.length - (intOf i).toNat)
      case atStart=>exact ⟨0,Nat.zero_le _,rfl,by rw [List.take_zero,partsL_nil,cnt_one hm0],(Below.refl _ _).alloc (Nat.le_refl _) _⟩
      case round =>
        obtain ⟨j,hj,rfl,rfl,hb⟩:=hrel
        have hbs:=hb.size
        by_cases hjl:j < xs.length
        · have hil:(j:Int) < (xs.length:Int):=by omega
          obtain ⟨u,hu,huk,d0,d1,d2,d3⟩:=tmAt_tv ((rowAt_get HR.out hjl).below hb)
          obtain ⟨p,hp⟩:∃ p,p=partsL (xs.take j) + 1:=⟨_,rfl⟩
          have hnext:partsL (xs.take (j + 1)) + 1=p + u.t.parts:=by rw [partsL_take xs hjl,hp,hu];omega
          have hall:p + u.t.parts≤partsL xs + 1:=by
            rw [← hnext]
            have e:=partsL_append (xs.take (j + 1)) (xs.drop (j + 1))
            rw [List.take_append_drop] at e;omega
          rw [← hp]
          by_cases hpm:(p:Int)≤most
          · rw [cnt_in hpm]
            have hcb:=cnt_bd (p:=u.t.parts) (most:=most - p) (by omega)
            have C:=Lib.hid (fun w' (h:Below wr.heap.size wr w')=>IH.out u (most - p) w' (by rw [hu];exact HP.out j hjl) (huk.below h) (by omega) (by omega))
            have hst:=cnt_step (q:=u.t.parts) hpm
            obtain ⟨r,hr⟩:∃ r,r=cnt u.t.parts (most - p):=⟨_,rfl⟩
            rw [← hr] at C hcb hst
            have HS:=Lib.hid hst
            have HN:=Lib.hid hnext
            clear hu hp hnext huk hr hst hall
            go_wp2_with fail
            refine (C.out _ ((Below.refl _ _).alloc (Nat.le_refl _) _)).mono ?_;rintro e w1 ⟨rfl,hb1⟩
            go_wp2_with fail
            go_roundw
            case rel=>exact ⟨j + 1,by omega,by go_num,by rw [HN.out,← HS.out],(hb.alloc hb.size _).trans (hb1.mono (by simp;omega))⟩
            case measure=>simp [intOf];omega
          · rw [cnt_out hpm]
            have hr:=Lib.hid (show cnt (Tm.mk k s n xs).parts most=most + 1 from by rw [HE.out,cnt_out (by omega)])
            clear hu hp hnext huk hall
            go_wp2_with fail
            go_ret
            exact ⟨ret_int hr.out.symm,hb.alloc hb.size _⟩
        · obtain rfl:j=xs.length:=by omega
          rw [List.take_length,← HE.out]
          by_cases hpm:((Tm.mk k s n xs).parts:Int)≤most
          · have hr:=Lib.hid (cnt_in hpm)
            rw [hr.out]
            obtain ⟨p,hp⟩:∃ p,p=(Tm.mk k s n xs).parts:=⟨_,rfl⟩
            rw [← hp] at hr hpm ⊢
            have HQ:=Lib.hid hp
            clear hp
            go_wp2_with fail
            go_ret
            exact ⟨ret_int (by rw [← HQ.out];exact hr.out.symm),hb⟩
          · have hr:=Lib.hid (cnt_out hpm)
            rw [hr.out]
            clear hpm
            go_wp2_with fail
            go_ret
            exact ⟨ret_int hr.out.symm,hb⟩
end Go.Proofs.YtjcleokfpohpdaaGreatDoor
namespace Go.Proofs.YtjcleokfpohpdaaGreatDoor
open Go.RowKit
set_option maxRecDepth 100000 in
set_option maxHeartbeats 2000000 in
theorem all_tm (m:Nat):∀ (x:Tv) (w0 w:World),x.t.parts≤m→m≤2300000000000→x.ok w0→Below w0.heap.size w0 w →
    Calls Tryz.prog 69 #[x.val] w fun e w'=>∃ v,e=.returned v∧OwnTv w0 w' w.heap.size v x.t.all∧v.ownBlock≠none∧Below w.heap.size w w':=by
  induction m with
  | zero=>intro x w0 w h;have:=parts_pos x.t;omega
  | succ m ih =>
    intro x w0 w hm hm1 hx hb0
    obtain ⟨i0,hi,hz0,hz1,hz2⟩:=info_parts termInfo
    have hxw:=hx.below hb0
    have hX:=hx
    obtain ⟨⟨k,s,n,xs⟩,a,c⟩:=x
    obtain ⟨_,hxl,hxr⟩:=hx
    have hpe:(Tm.mk k s n xs).parts=partsL xs + 1:=parts_eq _
    simp only [Tv.val,Tm.kind,Tm.name,Tm.n,Tm.args] at hxl hxr hm ⊢
    have hpl:∀ j (h:j < xs.length),xs[j].parts≤m:=fun j h=>by
      have:=parts_arg (.mk k s n xs) (j:=j) h
      have e:(Tm.mk k s n xs).args[j]=xs[j]:=rfl
      rw [e] at this;omega
    have HX:=Lib.hid hX
    have hwz:Below w.heap.size w ((w.alloc (.cells #[.int .i64 k,.string s,.int .i64 n,.slice a xs.length c] 70)).alloc (.cells #[.int .i64 k,.string s,.int .i64 n,.slice a xs.length c] 70)):=((Below.refl _ _).alloc (Nat.le_refl _) _).alloc (by simp) _
    have hown0:((w.alloc (.cells #[.int .i64 k,.string s,.int .i64 n,.slice a xs.length c] 70)).alloc (.cells #[.int .i64 k,.string s,.int .i64 n,.slice a xs.length c] 70)).ownsRow w.heap.size 70 4 (.slice (some ⟨w.heap.size + 1,0,none⟩) 1 1) 1 (rowTv [⟨.mk k s n xs,a,c⟩]):=by
      have:=own_first (w.alloc (.cells #[.int .i64 k,.string s,.int .i64 n,.slice a xs.length c] 70)) w.heap.size (by simp) ⟨.mk k s n xs,a,c⟩
      rw [show (w.alloc (.cells #[.int .i64 k,.string s,.int .i64 n,.slice a xs.length c] 70)).heap.size=w.heap.size + 1 from by simp] at this
      exact this
    have hpr:=partsL_length xs
    have HE:=Lib.hid hpe
    have hps:partsL xs + 1≤2300000000000:=by omega
    have IH:=Lib.hid (fun x w0 w h1 h2 h3=>ih x w0 w h1 (by omega) h2 h3)
    have HP:=Lib.hid hpl
    have HO:=Lib.hid hown0
    clear ih hpl hm hpe hX hown0 hxw
    rcases hxr with rfl | ⟨b,off,rfl,hlt,hr⟩
    · go_enter Tryz.func69,Tryz.ntmps69
      go_wp2
      refine wp_loop_rounds 1 ?_;rw [rounds_succ]
      go_wp2
      go_ret
      exact ⟨_,rfl,⟨[⟨.mk k s n [],a,c⟩],by rw [Tm.all,allL];rfl,by intro x hx;rw [List.mem_singleton.1 hx];exact HX.out,by rw [Tm.all,allL];exact HO.out⟩,by simp [Value.ownBlock],hwz⟩
    · have HR:=Lib.hid hr
      have HB0:=Lib.hid hb0
      have hlt0:b < w.heap.size:=Nat.lt_of_lt_of_le hlt hb0.size
      clear hr hb0
      go_enter Tryz.func69,Tryz.ntmps69
      go_wp2
      go_loopw [3,11] (fun o i wr=>∃ (j:Nat) (vs:List Tv),j≤xs.length∧i=.int .i64 j∧vs.length=partsL (xs.take j) + 1∧vs.map Tv.t=Tm.mk k s n xs :: allL (xs.take j)∧(∀ x ∈ vs,x.ok w0) ∧
        wr.ownsRow w.heap.size 70 4 o vs.length (rowTv vs)∧o.ownBlock≠none∧Below w.heap.size w wr) (fun _ i _=>xs.length - (intOf i).toNat)
      case atStart=>exact ⟨0,[⟨.mk k s n xs,some ⟨b,off,none⟩,c⟩],Nat.zero_le _,rfl,by rw [List.take_zero,partsL_nil];rfl,by rw [List.take_zero,allL];rfl,by intro x hx;rw [List.mem_singleton.1 hx];exact HX.out,HO.out,by simp [Value.ownBlock],hwz⟩
      case round =>
        obtain ⟨j,vs,hj,rfl,hvl,hvt,hvo,hown,hnn,hb⟩:=hrel
        have hbs:=hb.size
        by_cases hjl:j < xs.length
        · have hil:(j:Int) < (xs.length:Int):=by omega
          obtain ⟨u,hu,huk,hat⟩:=tmAt_tv (rowAt_get HR.out hjl)
          obtain ⟨d0,d1,d2,d3⟩:=(hat.below HB0.out).below hb
          have hup:u.t.parts≤partsL xs:=by rw [hu];exact parts_get xs hjl
          have hnx:=partsL_take xs hjl
          rw [← hu] at hnx
          have hall:partsL (xs.take (j + 1))≤partsL xs:=by
            have e:=partsL_append (xs.take (j + 1)) (xs.drop (j + 1))
            rw [List.take_append_drop] at e;omega
          have hat2:=allL_take hjl
          rw [← hu] at hat2
          have C:=Lib.hid (fun w' (h:Below wr.heap.size wr w')=>IH.out u w0 w' (by rw [hu];exact HP.out j hjl) huk (HB0.out.trans ((hb.mono (by exact HB0.out.size)).trans (h.mono (by have:=HB0.out.size;omega)))))
          have HVT:=Lib.hid hvt
          have HVO:=Lib.hid hvo
          have HA:=Lib.hid hat2
          have HN:=Lib.hid hnx
          have HL:=Lib.hid hvl
          have hvb:vs.length + u.t.parts≤2300000000000:=by omega
          have hvb2:vs.length≤2300000000000:=by omega
          clear hvt hvo hat2 hnx hvl hat hu huk hall hup
          go_wp2_with fail
          refine (C.out _ ((Below.refl _ _).alloc (Nat.le_refl _) _)).mono ?_;rintro e w1 ⟨v1,rfl,⟨us,hut,huo,hown1⟩,hnn1,hb1⟩
          have hbw1:Below wr.heap.size wr w1:=((Below.refl _ _).alloc (Nat.le_refl _) _).trans (hb1.mono (by simp))
          have hown2:=own_below (hown.alloc _) hb1
          have hge1:=own_row_ge hown1
          have hlt1:=own_row_lt hown1
          have hown1':=hown1
          rw [all_length] at hown1
          obtain ⟨hrl,hv1 | ⟨g,cap,cur,rfl,hg1,hgc,hgn,hgm,hgs,hgt⟩⟩:=hown1
          · rw [hv1.1] at hnn1;exact absurd rfl hnn1
          have hnews:∀ q x,(rowTv us)[q]? = some x→w1.cell? ((⟨g,0,none⟩:Addr).add q)=some x:=by
            intro q x hq
            have hql:q < (rowTv us).length:=(List.getElem?_eq_some_iff.1 hq).1
            have e:((⟨g,0,none⟩:Addr).add q)=⟨g,q,none⟩:=by
              unfold Addr.add;split
              · next h=>subst h;rfl
              · simp
            rw [e,cell_of_row w1 g q cur _ (0,0) hgc,← hq,← hgt,List.getElem?_take,if_pos (by omega)]
            simp
          have hn1:=rowTv_one' us
          have hbs1:=hbw1.size
          have HNW:=Lib.hid hnews
          have HN1:=Lib.hid hn1
          have hpp:∃ p,p=u.t.parts:=⟨_,rfl⟩
          obtain ⟨p,hp⟩:=hpp
          rw [← hp] at hvb hgn hgt hrl ⊢
          have HPP:=Lib.hid hp
          have HUT:=Lib.hid hut
          have HUO:=Lib.hid huo
          have HRL:=Lib.hid hrl
          clear hnews hn1 hgt hgs hgc hp hut huo hrl hown hown1' hge1 hlt1
          go_wp2_with (at_builtin;refine wpList_append_own _ rfl _ _ 63 rfl w.heap.size 70 i0 (.agg #[.int .i64 0,.string ⟨#[]⟩,.int .i64 0,.slice none 0 0]) 4 56 Tryz.underlying63 hi hz0 hz1 hz2 rfl (by decide) _ vs.length _ rfl hown2 ⟨g,0,none⟩ p cap (rowTv us) rfl HRL.out HNW.out HN1.out ?c3 ?c4 ?c5 ?_)
          case c3=>unfold maxLen;omega
          case c4=>omega
          case c5=>omega
          intro v' w2 hown3 hgrow hnil
          have hb2:Below w.heap.size w w2:=(hb.trans (hbw1.mono hbs)).grown hgrow (by omega) (own_row_ge hown2)
          have hnn2:v'.ownBlock≠none:=by
            obtain ⟨_,h⟩:=hown3
            rcases h with ⟨rfl,h0⟩ | ⟨g',cap',cur',rfl,_⟩
            · have:=HL.out;omega
            · simp [Value.ownBlock]
          have hrel:(vs ++ us).length=partsL (xs.take (j + 1)) + 1∧(vs ++ us).map Tv.t=Tm.mk k s n xs :: allL (xs.take (j + 1))∧(∀ x ∈ vs ++ us,x.ok w0)∧w2.ownsRow w.heap.size 70 4 v' (vs ++ us).length (rowTv (vs ++ us)):=by
            have hul:us.length=p:=by
              have:=congrArg List.length HUT.out
              rw [List.length_map,all_length] at this
              rw [this,HPP.out]
            refine ⟨?_,?_,?_,?_⟩
            · rw [List.length_append,hul,HN.out,HL.out,← HPP.out];omega
            · rw [List.map_append,HVT.out,HUT.out,HA.out];rfl
            · intro x hx
              rcases List.mem_append.1 hx with h | h
              · exact HVO.out x h
              · exact HUO.out x h
            · rw [rowTv_append,List.length_append,hul];exact hown3
          have HREL:=Lib.hid hrel
          clear hown3 hgrow hnil hown2 hrel hb1 hbw1 hb
          go_wp2_with fail
          go_roundw
          case rel=>exact ⟨j + 1,vs ++ us,by omega,by go_num,HREL.out.1,HREL.out.2.1,HREL.out.2.2.1,HREL.out.2.2.2,hnn2,hb2⟩
          case measure=>simp [intOf];omega
        · obtain rfl:j=xs.length:=by omega
          rw [List.take_length] at hvl hvt
          have hown':wr.ownsRow w.heap.size 70 4 u3 (Tm.mk k s n xs).all.length (rowTv vs):=by
            rw [all_length,HE.out,← hvl];exact hown
          have hvt':vs.map Tv.t=(Tm.mk k s n xs).all:=by rw [hvt,Tm.all]
          have HVT:=Lib.hid hvt'
          have HVO:=Lib.hid hvo
          clear hvl hvt hvt' hvo hown
          go_wp2
          go_ret
          exact ⟨_,rfl,⟨vs,HVT.out,HVO.out,hown'⟩,hnn,hb⟩
end Go.Proofs.YtjcleokfpohpdaaGreatDoor
