/-
  What stands while a part of an item is read: the item, the answer's box, the token. No function of the program.
  What a shape's letter stands for, by the reference of layer 11: one.
-/
import Derived.Test.YtjcleokfpohpdaaGreatDoorU06
import Derived.Test.YtjcleokfpohpdaaGreatDoorU34
namespace Go.Proofs.YtjcleokfpohpdaaGreatDoor
open Go.RowKit
theorem Box.fill {w:World} {g:Nat} {x0 x1 x2 x3:Value} (h:Box w g x0 x1 x2 x3) (y0 y1 y2 y3:Value) :
    Box ((((w.setCell ⟨g,0,none⟩ y0).setCell ⟨g,1,none⟩ y1).setCell ⟨g,2,none⟩ y2).setCell ⟨g,3,none⟩ y3) g y0 y1 y2 y3 where
  c0:=by
    rw [World.cell?_setCell_other _ _ _ _ (fun e=>by cases e),World.cell?_setCell_other _ _ _ _ (fun e=>by cases e),World.cell?_setCell_other _ _ _ _ (fun e=>by cases e)]
    exact World.cell?_setCell_same _ _ _ h.c0
  c1:=by
    rw [World.cell?_setCell_other _ _ _ _ (fun e=>by cases e),World.cell?_setCell_other _ _ _ _ (fun e=>by cases e)]
    refine World.cell?_setCell_same (u:=x1) _ _ _ ?_
    rw [World.cell?_setCell_other _ _ _ _ (fun e=>by cases e)];exact h.c1
  c2:=by
    rw [World.cell?_setCell_other _ _ _ _ (fun e=>by cases e)]
    refine World.cell?_setCell_same (u:=x2) _ _ _ ?_
    rw [World.cell?_setCell_other _ _ _ _ (fun e=>by cases e),World.cell?_setCell_other _ _ _ _ (fun e=>by cases e)];exact h.c2
  c3:=by
    refine World.cell?_setCell_same (u:=x3) _ _ _ ?_
    rw [World.cell?_setCell_other _ _ _ _ (fun e=>by cases e),World.cell?_setCell_other _ _ _ _ (fun e=>by cases e),World.cell?_setCell_other _ _ _ _ (fun e=>by cases e)];exact h.c3
  f0:=by simp [h.f0]
  f1:=by simp [h.f1]
  f2:=by simp [h.f2]
  f3:=by simp [h.f3]
theorem Box.stays {w w1:World} {g:Nat} {x0 x1 x2 x3:Value} (h:Box w g x0 x1 x2 x3) (hb:w1.heap[g]? = w.heap[g]?):Box w1 g x0 x1 x2 x3:=by
  have hc:∀ i,w1.cell? ⟨g,i,none⟩=w.cell? ⟨g,i,none⟩:=fun i=>World.cell?_of_block (w:=w) (w':=w1) (a:=⟨g,i,none⟩) hb
  have hf:∀ i,w1.frozen? ⟨g,i,none⟩=w.frozen? ⟨g,i,none⟩:=fun i=>by simp [World.frozen?,hb]
  exact ⟨(hc 0).trans h.c0,(hc 1).trans h.c1,(hc 2).trans h.c2,(hc 3).trans h.c3,(hf 0).trans h.f0,(hf 1).trans h.f1,(hf 2).trans h.f2,(hf 3).trans h.f3⟩
theorem Box.put2 {w:World} {g:Nat} {x0 x1 x2 x3:Value} (h:Box w g x0 x1 x2 x3) (y:Value):Box (w.setCell ⟨g,2,none⟩ y) g x0 x1 y x3 where
  c0:=by rw [World.cell?_setCell_other _ _ _ _ (fun e=>by cases e)];exact h.c0
  c1:=by rw [World.cell?_setCell_other _ _ _ _ (fun e=>by cases e)];exact h.c1
  c2:=World.cell?_setCell_same (u:=x2) _ _ _ h.c2
  c3:=by rw [World.cell?_setCell_other _ _ _ _ (fun e=>by cases e)];exact h.c3
  f0:=by simp [h.f0]
  f1:=by simp [h.f1]
  f2:=by simp [h.f2]
  f3:=by simp [h.f3]
theorem Box.put3 {w:World} {g:Nat} {x0 x1 x2 x3:Value} (h:Box w g x0 x1 x2 x3) (y:Value):Box (w.setCell ⟨g,3,none⟩ y) g x0 x1 x2 y where
  c0:=by rw [World.cell?_setCell_other _ _ _ _ (fun e=>by cases e)];exact h.c0
  c1:=by rw [World.cell?_setCell_other _ _ _ _ (fun e=>by cases e)];exact h.c1
  c2:=by rw [World.cell?_setCell_other _ _ _ _ (fun e=>by cases e)];exact h.c2
  c3:=World.cell?_setCell_same (u:=x3) _ _ _ h.c3
  f0:=by simp [h.f0]
  f1:=by simp [h.f1]
  f2:=by simp [h.f2]
  f3:=by simp [h.f3]
def boxesP (g k:Nat):Prop:=g≤k∧k≤g + 2
def zP (Z:Nat→Prop) (g k:Nat):Prop:=Z k∨boxesP g k
structure OneSt (A:World) (R Z:Nat→Prop) (w0:World) (T:TypeId) (g:Nat) (x:It) (t:Tok) (vw vt:Value) (W:World):Prop where
  bel:Below A.heap.size A W
  arg:Box W g (.string x.key) (.int .i64 x.spot) vw vt
  res:∃ y0 y1 y2 y3,Box W (g + 1) y0 y1 y2 y3
  tok:Box W (g + 1 + 1) (.int .i64 t.kind) (.string t.text) (.int .i64 t.n) (.int .i64 t.place)
  ge:A.heap.size≤g
  zlt:∀ k,Z k→k < g
  rows:RowsI W (zP Z g) T A.heap.size vw x.words vt x.trees
  kept:∀ k,k < g→¬ R k→W.heap[k]? = w0.heap[k]?
  rin:∀ k,rowsP vw vt k→R k∨g≤k
theorem OneSt.lt {A w0:World} {R Z:Nat→Prop} {T:TypeId} {g:Nat} {x:It} {t:Tok} {vw vt:Value} {W:World} (h:OneSt A R Z w0 T g x t vw vt W):g + 2 < W.heap.size:=lt_of_cellR h.tok.c0
theorem OneSt.below {A w0:World} {R Z:Nat→Prop} {T:TypeId} {g:Nat} {x:It} {t:Tok} {vw vt:Value} {W W':World} (h:OneSt A R Z w0 T g x t vw vt W) (hb:Below W.heap.size W W'):OneSt A R Z w0 T g x t vw vt W':=by
  have hl:=h.lt
  have:=h.bel.size
  exact ⟨h.bel.trans (hb.mono (by omega)),h.arg.below hb (by omega),(by obtain ⟨y0,y1,y2,y3,hy⟩:=h.res;exact ⟨y0,y1,y2,y3,hy.below hb (by omega)⟩),h.tok.below hb (by omega),h.ge,h.zlt,h.rows.below hb,fun k hk q=>(hb.block k (by omega)).trans (h.kept k hk q),h.rin⟩
theorem OneSt.argGrown {A w0:World} {R Z:Nat→Prop} {T:TypeId} {g:Nat} {x:It} {t:Tok} {vw vt:Value} {W W':World} (h:OneSt A R Z w0 T g x t vw vt W) {o:Option Nat} (ho:∀ k,o=some k→rowsP vw vt k) (hg:W.grownBy W' o):Box W' g (.string x.key) (.int .i64 x.spot) vw vt :=
  h.arg.stays (hg.block g (by have:=h.lt;omega) fun e=>h.rows.out g (ho g e.symm) (.inr ⟨Nat.le_refl _,by omega⟩))
theorem OneSt.words {A w0:World} {R Z:Nat→Prop} {T:TypeId} {g:Nat} {x:It} {t:Tok} {vw vw' vt:Value} {W W':World} {vs news:List Rv} {n:Nat} (h:OneSt A R Z w0 T g x t vw vt W) (h1:vs.map Rv.t=x.words) (h2:∀ y ∈ vs,LiveA W (rowsZ (zP Z g) vw vt) A.heap.size y)
    (hy:∀ y ∈ news,LiveA W (rowsZ (zP Z g) vw vt) A.heap.size y) (hn:x.words.length + news.length=n) (hown:W'.ownsRow A.heap.size T 5 vw' n (rowRv vs ++ rowRv news)) (hg:W.grownBy W' vw.ownBlock) (hat:vw'.ownBlock=vw.ownBlock∨vw'.ownBlock=some W.heap.size) :
    OneSt A R Z w0 T g { x with words:=x.words ++ news.map Rv.t } t vw' vt (W'.setCell ⟨g,2,none⟩ vw'):=by
  have hl:=h.lt
  have hZ:∀ k,zP Z g k→k < W.heap.size:=fun k hk=>by
    rcases hk with hk | hk
    · have:=h.zlt k hk;omega
    · have:=hk.2;omega
  have hS:rowsZ (zP Z g) vt vw=rowsZ (zP Z g) vw vt:=by funext k;unfold rowsZ;rw [rowsP_swap]
  have hr:=(h.rows.swap.more h1 (by rw [hS];exact h2) (by rw [hS];exact hy) hn hown hg hat hZ).swap
  have hlt:=h.rows.lt
  have hout:=h.rows.out
  have hst:∀ k,boxesP g k→W'.heap[k]? = W.heap[k]? := fun k hk=>hg.block k (hZ k (.inr hk)) fun q=>hout k (.inl q.symm) (.inr hk)
  have hb':Below A.heap.size A W':=h.bel.grown hg h.bel.size fun k q=>(hlt k (.inl q)).1
  have hs:(W'.setCell ⟨g,2,none⟩ vw').heap.size=W'.heap.size:=by simp
  refine ⟨hb'.setCell (p:=⟨g,2,none⟩) h.ge _,(h.arg.stays (hst g ⟨Nat.le_refl _,by omega⟩)).put2 _,(by obtain ⟨y0,y1,y2,y3,hy'⟩:=h.res;exact ⟨y0,y1,y2,y3,(hy'.stays (hst _ ⟨by omega,by omega⟩)).stays (Below.heap_setCell _ _ _ _ (show g + 1≠g by omega))⟩),(h.tok.stays (hst _ ⟨by omega,by omega⟩)).stays (Below.heap_setCell _ _ _ _ (show g + 1 + 1≠g by omega)),h.ge,h.zlt,?_,fun k hk q=>?_,fun k e=>?_⟩
  · exact hr.aside (by rw [hs];exact Nat.le_refl _) fun k hk=>Below.heap_setCell _ _ _ _ (show k≠g from fun e=>hk (by rw [e];exact .inr ⟨Nat.le_refl _,by omega⟩))
  · rw [Below.heap_setCell _ _ _ _ (show k≠g by omega),hg.block k (by omega) fun e=>?_]
    · exact h.kept k hk q
    · rcases h.rin k (.inl e.symm) with r | r
      · exact q r
      · omega
  · rcases e with e | e
    · rcases hat with r | r
      · exact h.rin k (.inl (by rw [← r];exact e))
      · rw [r] at e;injection e with e;exact .inr (by omega)
    · exact h.rin k (.inr e)
theorem OneSt.terms {A w0:World} {R Z:Nat→Prop} {T:TypeId} {g:Nat} {x:It} {t:Tok} {vw vt vt':Value} {W W':World} {us news:List Rv} {n:Nat} (h:OneSt A R Z w0 T g x t vw vt W) (h1:us.map Rv.t=x.trees) (h2:∀ y ∈ us,LiveA W (rowsZ (zP Z g) vw vt) A.heap.size y)
    (hy:∀ y ∈ news,LiveA W (rowsZ (zP Z g) vw vt) A.heap.size y) (hn:x.trees.length + news.length=n) (hown:W'.ownsRow A.heap.size T 5 vt' n (rowRv us ++ rowRv news)) (hg:W.grownBy W' vt.ownBlock) (hat:vt'.ownBlock=vt.ownBlock∨vt'.ownBlock=some W.heap.size) :
    OneSt A R Z w0 T g { x with trees:=x.trees ++ news.map Rv.t } t vw vt' (W'.setCell ⟨g,3,none⟩ vt'):=by
  have hl:=h.lt
  have hZ:∀ k,zP Z g k→k < W.heap.size:=fun k hk=>by
    rcases hk with hk | hk
    · have:=h.zlt k hk;omega
    · have:=hk.2;omega
  have hr:=h.rows.more h1 h2 hy hn hown hg hat hZ
  have hlt:=h.rows.lt
  have hout:=h.rows.out
  have hst:∀ k,boxesP g k→W'.heap[k]? = W.heap[k]? := fun k hk=>hg.block k (hZ k (.inr hk)) fun q=>hout k (.inr q.symm) (.inr hk)
  have hb':Below A.heap.size A W':=h.bel.grown hg h.bel.size fun k q=>(hlt k (.inr q)).1
  have hs:(W'.setCell ⟨g,3,none⟩ vt').heap.size=W'.heap.size:=by simp
  refine ⟨hb'.setCell (p:=⟨g,3,none⟩) h.ge _,(h.arg.stays (hst g ⟨Nat.le_refl _,by omega⟩)).put3 _,(by obtain ⟨y0,y1,y2,y3,hy'⟩:=h.res;exact ⟨y0,y1,y2,y3,(hy'.stays (hst _ ⟨by omega,by omega⟩)).stays (Below.heap_setCell _ _ _ _ (show g + 1≠g by omega))⟩),(h.tok.stays (hst _ ⟨by omega,by omega⟩)).stays (Below.heap_setCell _ _ _ _ (show g + 1 + 1≠g by omega)),h.ge,h.zlt,?_,fun k hk q=>?_,fun k e=>?_⟩
  · exact hr.aside (by rw [hs];exact Nat.le_refl _) fun k hk=>Below.heap_setCell _ _ _ _ (show k≠g from fun e=>hk (by rw [e];exact .inr ⟨Nat.le_refl _,by omega⟩))
  · rw [Below.heap_setCell _ _ _ _ (show k≠g by omega),hg.block k (by omega) fun e=>?_]
    · exact h.kept k hk q
    · rcases h.rin k (.inr e.symm) with r | r
      · exact q r
      · omega
  · rcases e with e | e
    · exact h.rin k (.inl e)
    · rcases hat with r | r
      · exact h.rin k (.inr (by rw [← r];exact e))
      · rw [r] at e;injection e with e;exact .inr (by omega)
structure OneEnd (A:World) (R Z:Nat→Prop) (w0:World) (T:TypeId) (g:Nat) (x:It) (vw vt:Value) (W:World):Prop where
  bel:Below A.heap.size A W
  res:Box W (g + 1) (.string x.key) (.int .i64 x.spot) vw vt
  rows:RowsI W Z T A.heap.size vw x.words vt x.trees
  kept:∀ k,k < g→¬ R k→W.heap[k]? = w0.heap[k]?
  rin:∀ k,rowsP vw vt k→R k∨g≤k
theorem OneSt.filled {A w0:World} {R Z:Nat→Prop} {T:TypeId} {g:Nat} {x:It} {t:Tok} {vw vt:Value} {W:World} (h:OneSt A R Z w0 T g x t vw vt W) (z0 z1 z2 z3:Value) :
    OneSt A R Z w0 T g x t vw vt ((((W.setCell ⟨g + 1,0,none⟩ z0).setCell ⟨g + 1,1,none⟩ z1).setCell ⟨g + 1,2,none⟩ z2).setCell ⟨g + 1,3,none⟩ z3):=by
  have hge:=h.ge
  have hh:∀ k,k≠g + 1→((((W.setCell ⟨g + 1,0,none⟩ z0).setCell ⟨g + 1,1,none⟩ z1).setCell ⟨g + 1,2,none⟩ z2).setCell ⟨g + 1,3,none⟩ z3).heap[k]? = W.heap[k]? := fun k hk'=>by
    rw [Below.heap_setCell _ _ _ _ hk',Below.heap_setCell _ _ _ _ hk',Below.heap_setCell _ _ _ _ hk',Below.heap_setCell _ _ _ _ hk']
  refine ⟨(((h.bel.setCell (p:=⟨g + 1,0,none⟩) (by show _≤g + 1;omega) _).setCell (p:=⟨g + 1,1,none⟩) (by show _≤g + 1;omega) _).setCell (p:=⟨g + 1,2,none⟩) (by show _≤g + 1;omega) _).setCell (p:=⟨g + 1,3,none⟩) (by show _≤g + 1;omega) _,
    h.arg.stays (hh _ (by omega)),(by obtain ⟨y0,y1,y2,y3,hy⟩:=h.res;exact ⟨z0,z1,z2,z3,hy.fill _ _ _ _⟩),h.tok.stays (hh _ (by omega)),h.ge,h.zlt,?_,fun k hk q=>(hh k (by omega)).trans (h.kept k hk q),h.rin⟩
  exact h.rows.aside (by simp) fun k hk=>hh k fun e=>hk (by rw [e];exact .inr ⟨by omega,by omega⟩)
theorem OneSt.fill {A w0:World} {R Z:Nat→Prop} {T:TypeId} {g:Nat} {x:It} {t:Tok} {vw vt:Value} {W:World} (h:OneSt A R Z w0 T g x t vw vt W) :
    OneEnd A R Z w0 T g x vw vt ((((W.setCell ⟨g + 1,0,none⟩ (.string x.key)).setCell ⟨g + 1,1,none⟩ (.int .i64 x.spot)).setCell ⟨g + 1,2,none⟩ vw).setCell ⟨g + 1,3,none⟩ vt):=by
  have hf:=h.filled (.string x.key) (.int .i64 x.spot) vw vt
  obtain ⟨y0,y1,y2,y3,hy⟩:=h.res
  exact ⟨hf.bel,hy.fill _ _ _ _,hf.rows.beside (fun k hk=>.inl (.inl hk)),hf.kept,hf.rin⟩
theorem OneSt.cells {A w0:World} {R Z:Nat→Prop} {T:TypeId} {g:Nat} {x:It} {t:Tok} {vw vt:Value} {W:World} (h:OneSt A R Z w0 T g x t vw vt W):OneSt A R Z w0 T g x t vw vt W ∧
    W.cell? ⟨g,0,none⟩=some (.string x.key)∧W.cell? ⟨g,1,none⟩=some (.int .i64 x.spot)∧W.cell? ⟨g,2,none⟩=some vw∧W.cell? ⟨g,3,none⟩=some vt ∧
    W.cell? ⟨g + 1 + 1,0,none⟩=some (.int .i64 t.kind)∧W.cell? ⟨g + 1 + 1,1,none⟩=some (.string t.text)∧W.cell? ⟨g + 1 + 1,2,none⟩=some (.int .i64 t.n)∧W.cell? ⟨g + 1 + 1,3,none⟩=some (.int .i64 t.place) ∧
    W.frozen? ⟨g + 1,0,none⟩=false∧W.frozen? ⟨g + 1,1,none⟩=false∧W.frozen? ⟨g + 1,2,none⟩=false∧W.frozen? ⟨g + 1,3,none⟩=false∧W.frozen? ⟨g,2,none⟩=false∧W.frozen? ⟨g,3,none⟩=false:=by
  obtain ⟨y0,y1,y2,y3,hy⟩:=h.res
  exact ⟨h,h.arg.c0,h.arg.c1,h.arg.c2,h.arg.c3,h.tok.c0,h.tok.c1,h.tok.c2,h.tok.c3,hy.f0,hy.f1,hy.f2,hy.f3,h.arg.f2,h.arg.f3⟩
end Go.Proofs.YtjcleokfpohpdaaGreatDoor
namespace Go.Proofs.YtjcleokfpohpdaaGreatDoor
open Go.RowKit
theorem OneSt.start {A w:World} {Z:Nat→Prop} {T e1 e2 e3:TypeId} {x:It} {vw vt:Value} (t:Tok) (hA:Below A.heap.size A w) (hr:RowsI w Z T A.heap.size vw x.words vt x.trees) (hZ:∀ k,Z k→k < w.heap.size) {R:Nat→Prop} (hR:∀ k,rowsP vw vt k→R k) :
    OneSt A R Z w T w.heap.size x t vw vt (((w.alloc (.cells #[.string x.key,.int .i64 x.spot,vw,vt] e1)).alloc (.cells #[.string ⟨#[]⟩,.int .i64 0,.slice none 0 0,.slice none 0 0] e2)).alloc (.cells #[.int .i64 t.kind,.string t.text,.int .i64 t.n,.int .i64 t.place] e3)):=by
  have hs:=hA.size
  have hb:Below w.heap.size w (((w.alloc (.cells #[.string x.key,.int .i64 x.spot,vw,vt] e1)).alloc (.cells #[.string ⟨#[]⟩,.int .i64 0,.slice none 0 0,.slice none 0 0] e2)).alloc (.cells #[.int .i64 t.kind,.string t.text,.int .i64 t.n,.int .i64 t.place] e3)) :=
    (((Below.refl _ _).alloc (Nat.le_refl _) _).alloc (by simp) _).alloc (by simp;omega) _
  refine ⟨((hA.alloc (by omega) _).alloc (by simp;omega) _).alloc (by simp;omega) _,?_,?_,?_,hs,hZ,?_,fun k hk _=>hb.block k hk,fun k e=>.inl (hR k e)⟩
  · exact (box_new w _ _ _ _ e1).below (((Below.refl _ _).alloc (Nat.le_refl _) _).alloc (by simp) _) (by simp)
  · have:=box_new (w.alloc (.cells #[.string x.key,.int .i64 x.spot,vw,vt] e1)) (.string ⟨#[]⟩) (.int .i64 0) (.slice none 0 0) (.slice none 0 0) e2
    rw [show (w.alloc (.cells #[.string x.key,.int .i64 x.spot,vw,vt] e1)).heap.size=w.heap.size + 1 from by simp] at this
    exact ⟨_,_,_,_,this.below ((Below.refl _ _).alloc (Nat.le_refl _) _) (by simp)⟩
  · have:=box_new ((w.alloc (.cells #[.string x.key,.int .i64 x.spot,vw,vt] e1)).alloc (.cells #[.string ⟨#[]⟩,.int .i64 0,.slice none 0 0,.slice none 0 0] e2)) (.int .i64 t.kind) (.string t.text) (.int .i64 t.n) (.int .i64 t.place) e3
    rw [show ((w.alloc (.cells #[.string x.key,.int .i64 x.spot,vw,vt] e1)).alloc (.cells #[.string ⟨#[]⟩,.int .i64 0,.slice none 0 0,.slice none 0 0] e2)).heap.size=w.heap.size + 2 from by simp] at this
    exact this
  · exact (hr.beside (Z':=zP Z w.heap.size) fun k hk=>by
      rcases hk with hk | hk
      · exact .inl hk
      · exact .inr hk.1).below hb
theorem new_rowR (w:World) (b:Nat) (hb:b=w.heap.size) (x0 x1 x2 x3 x4:Value) (t:TypeId):∀ j u,[x0,x1,x2,x3,x4][j]? = some u→(w.alloc (.cells #[x0,x1,x2,x3,x4] t)).cell? ((⟨b,0,none⟩:Addr).add j)=some u:=by
  subst hb
  intro j u hj
  have e:=World.cell?_alloc_mark w #[x0,x1,x2,x3,x4] t (0,0) (0 + j)
  have:((⟨w.heap.size,0,none⟩:Addr).add j)=⟨w.heap.size,0 + j,none⟩:=by
    unfold Addr.add;split
    · next h=>subst h;rfl
    · rfl
  rw [this,e]
  simpa using hj
theorem RowsI.slices {W:World} {Z:Nat→Prop} {e:TypeId} {base:Nat} {vw vt:Value} {ws ts:List Tr} (h:RowsI W Z e base vw ws vt ts):(∃ a c,vw=.slice a ws.length c)∧∃ a c,vt=.slice a ts.length c:=by
  obtain ⟨⟨_,_,_,h1⟩,⟨_,_,_,h2⟩,_,_⟩:=h
  exact ⟨own_slice h1,own_slice h2⟩
def itVal (x:It) (vw vt:Value):Value:=.agg #[.string x.key,.int .i64 x.spot,vw,vt]
def OnePost (A:World) (R Z:Nat→Prop) (w:World) (x:It) (L:List Tok) (i:Nat) (c:UInt8) (e:Ending) (w':World):Prop :=
  ∃ vw vt,e=.returned (.tuple #[itVal x vw vt,.int .i64 (oneP x L i c).2.1,.bool (oneP x L i c).2.2])∧RowsI w' Z 51 A.heap.size vw (oneP x L i c).1.words vt (oneP x L i c).1.trees∧Below A.heap.size A w'∧(∀ k,k < w.heap.size→¬ R k→w'.heap[k]? = w.heap[k]?)∧(∀ k,rowsP vw vt k→R k∨w.heap.size≤k)∧w.heap.size≤w'.heap.size
set_option maxRecDepth 100000 in
set_option maxHeartbeats 4000000 in
theorem rone_word (v:Value) (L:List Tok) (A:World) (hv:Toks A v L) (x:It) (vw vt:Value) (hO:∀ i,TokOk (tkD L i)) (hl1:x.words.length≤100000) (i:Nat) (hlen:L.length≤100000) (hi:i < L.length) (w:World) (hA:Below A.heap.size A w)
    (R:Nat→Prop) (hR:∀ k,rowsP vw vt k→R k) (Z:Nat→Prop) (hZ:∀ k,Z k→k < w.heap.size) (hr:RowsI w Z 51 A.heap.size vw x.words vt x.trees) :
    Calls Tryz.prog 86 #[itVal x vw vt,v,.int .i64 i,.int .u8 119] w (OnePost A R Z w x L i 119):=by
  obtain ⟨i0,hti,hz0,hz1,hz2⟩:=info_parts treeInfo
  obtain ⟨⟨aw,cw,rfl⟩,at_,ct,rfl⟩:=hr.slices
  obtain ⟨a,c,rfl,hl,h⟩:=hv
  rcases h with h | ⟨b,off,rfl,hlt,hc⟩
  · subst h;cases hi
  obtain ⟨t,ht⟩:∃ t,tkD L i=t:=⟨_,rfl⟩
  have hok:=hO i
  have hti2:L[i]=t:=by rw [← ht,tkD_at hi]
  have hci:=hc i hi
  rw [hti2] at hci
  have HC:=Lib.hid (fun (W:World) (h:Below A.heap.size A W)=>hci.below h hlt)
  have HS:=Lib.hid (fun e1 e2 e3=>OneSt.start (e1:=e1) (e2:=e2) (e3:=e3) t hA hr hZ hR)
  have HOP:=Lib.hid (show oneP x L i 119=if wordK t=true then ({ x with words:=x.words ++ [.mk 5 t.text 0 t.place []] },i + 1,true) else (x,i,false) by unfold oneP;rw [if_pos rfl,ht])
  rw [ht] at hok
  have WK:=Lib.hid (fun (W:World)=>rwordk_any t W)
  have ST:=Lib.hid (fun (ok:Bool) (W:World)=>rstep_any i ok (by omega) W)
  have HA:=Lib.hid hA
  have hsz:=hA.size
  clear ht hti2 hc hci hr hA hR hZ
  obtain ⟨tk,tx,tn,tp⟩:=t
  obtain ⟨key,spot,ws,ts⟩:=x
  obtain ⟨ok1,ok2,ok3,ok4,ok5⟩:=hok
  unfold tokVal at WK
  unfold itVal
  simp only at HS HOP WK ok1 ok2 ok3 ok4 ok5 hl1
  have hk1:(i:Int) < (L.length:Int):=by omega
  have hk0:(0:Int)≤(i:Int):=by omega
  obtain ⟨m0,m1,m2,m3⟩:=HC.out _ ((HA.out.alloc hsz (.cells #[.string key,.int .i64 spot,.slice aw ws.length cw,.slice at_ ts.length ct] 53)).alloc (by simp;omega) (.cells #[.string ⟨#[]⟩,.int .i64 0,.slice none 0 0,.slice none 0 0] 53))
  simp only at m0 m1 m2 m3
  have KEEPS:=Lib.hid (fun (ws':List Tr) (vw:Value) (W:World) (h:OneSt A R Z w 51 w.heap.size ⟨key,spot,ws',ts⟩ ⟨tk,tx,tn,tp⟩ vw (.slice at_ ts.length ct) W)=>h.cells)
  have FILLS:=Lib.hid (fun (ws':List Tr) (vw:Value) (z0 z1 z2 z3:Value) (W:World) (h:OneSt A R Z w 51 w.heap.size ⟨key,spot,ws',ts⟩ ⟨tk,tx,tn,tp⟩ vw (.slice at_ ts.length ct) W)=>h.filled z0 z1 z2 z3)
  have FILL:=Lib.hid (fun (ws':List Tr) (vw:Value) (W:World) (h:OneSt A R Z w 51 w.heap.size ⟨key,spot,ws',ts⟩ ⟨tk,tx,tn,tp⟩ vw (.slice at_ ts.length ct) W)=>h.fill)
  simp only at KEEPS FILLS FILL
  cases hwk:wordK ⟨tk,tx,tn,tp⟩ with
  | false =>
    rw [hwk] at WK HOP
    replace HOP:=Lib.hid (HOP.out.trans (if_neg (by decide)))
    have WK2:=Lib.hid (fun (W:World) (h:OneSt A R Z w 51 w.heap.size ⟨key,spot,ws,ts⟩ ⟨tk,tx,tn,tp⟩ (.slice aw ws.length cw) (.slice at_ ts.length ct) W)=>(WK.out W).mono fun e w' hh=>(show e=.returned (.bool false)∧OneSt A R Z w 51 w.heap.size ⟨key,spot,ws,ts⟩ ⟨tk,tx,tn,tp⟩ (.slice aw ws.length cw) (.slice at_ ts.length ct) w' from ⟨hh.1,h.below hh.2⟩))
    have ST2:=Lib.hid (fun (W:World)=>(ST.out false W).mono fun e w' hh=>(show e=.returned (.int .i64 i)∧W=w' from hh))
    clear hwk
    go_enter Tryz.func86,Tryz.ntmps86
    go_wp2_with fail
    have h0:=HS.out 53 53 129
    refine (WK2.out _ h0).mono ?_;rintro e w1 ⟨rfl,h1⟩
    clear h0 m0 m1 m2 m3
    obtain ⟨k0,k1,k2,k3,k4,k5,k6,k7,k8,k9,k10,k11,k12,k13,k14⟩:=KEEPS.out _ _ _ h1
    go_wp2_with fail
    have h1d:=h1.below (Below.refl _ _).drew
    clear h1 k0 k1 k2 k3 k4 k5 k6 k7 k8 k9 k10 k11 k12 k13 k14
    go_region_held3 (fun W=>OneSt A R Z w 51 w.heap.size ⟨key,spot,ws,ts⟩ ⟨tk,tx,tn,tp⟩ (.slice aw ws.length cw) (.slice at_ ts.length ct) W ∧
      W.cell? ⟨w.heap.size,0,none⟩=some (.string key)∧W.cell? ⟨w.heap.size,1,none⟩=some (.int .i64 spot)∧W.cell? ⟨w.heap.size,2,none⟩=some (.slice aw ws.length cw)∧W.cell? ⟨w.heap.size,3,none⟩=some (.slice at_ ts.length ct) ∧
      W.cell? ⟨w.heap.size + 1 + 1,0,none⟩=some (.int .i64 tk)∧W.cell? ⟨w.heap.size + 1 + 1,1,none⟩=some (.string tx)∧W.cell? ⟨w.heap.size + 1 + 1,2,none⟩=some (.int .i64 tn)∧W.cell? ⟨w.heap.size + 1 + 1,3,none⟩=some (.int .i64 tp) ∧
      W.frozen? ⟨w.heap.size + 1,0,none⟩=false∧W.frozen? ⟨w.heap.size + 1,1,none⟩=false∧W.frozen? ⟨w.heap.size + 1,2,none⟩=false∧W.frozen? ⟨w.heap.size + 1,3,none⟩=false∧W.frozen? ⟨w.heap.size,2,none⟩=false∧W.frozen? ⟨w.heap.size,3,none⟩=false)
      (first
        | exact KEEPS.out _ _ _ (by assumption)
        | exact KEEPS.out _ _ _ (FILLS.out _ _ _ _ _ _ _ (by assumption)))
      ((first
        | (go_at_call 84;refine (WK2.out _ (by assumption)).mono ?_;rintro e w' ⟨rfl,hn⟩;obtain ⟨y0,y1,y2,y3,⟨q0,q1,q2,q3,_,_,_,_⟩⟩:=hn.res)
        | (go_at_call 141;refine (ST2.out _).mono ?_;rintro e w' ⟨rfl,rfl⟩)))
    have HE:=Lib.hid (FILL.out _ _ _ hn)
    go_wp2_with fail
    obtain ⟨hbel,⟨r0,r1,r2,r3,rf0,rf1,rf2,rf3⟩,hrw,hkp,hri⟩:=HE.out
    refine bodyPost_ret (v:=.tuple #[.agg #[.string key,.int .i64 spot,.slice aw ws.length cw,.slice at_ ts.length ct],.int .i64 (i:Int),.bool false]) (by simp [results,Tryz.results86,go_sem,r0,r1,r2,r3]) rfl ?_
    unfold OnePost
    rw [HOP.out]
    exact ⟨_,_,rfl,hrw,hbel,hkp,hri,Nat.le_of_lt (Nat.lt_of_succ_lt (lt_of_cellR r0))⟩
  | true =>
    rw [hwk] at WK HOP
    replace HOP:=Lib.hid (HOP.out.trans (if_pos rfl))
    have h0:=HS.out 53 53 129
    have WK1:=Lib.hid (fun (W:World) (h:OneSt A R Z w 51 w.heap.size ⟨key,spot,ws,ts⟩ ⟨tk,tx,tn,tp⟩ (.slice aw ws.length cw) (.slice at_ ts.length ct) W)=>(WK.out W).mono fun e w' hh=>(show e=.returned (.bool true)∧OneSt A R Z w 51 w.heap.size ⟨key,spot,ws,ts⟩ ⟨tk,tx,tn,tp⟩ (.slice aw ws.length cw) (.slice at_ ts.length ct) w' from ⟨hh.1,h.below hh.2⟩))
    have ST2:=Lib.hid (fun (W:World)=>(ST.out true W).mono fun e w' hh=>(show e=.returned (.int .i64 ((i:Int) + 1))∧W=w' from hh))
    clear hwk
    go_enter Tryz.func86,Tryz.ntmps86
    go_wp2_with fail
    refine (WK1.out _ h0).mono ?_;rintro e w1 ⟨rfl,h1⟩
    clear h0 m0 m1 m2 m3
    obtain ⟨_,k0,k1,k2,k3,k4,k5,k6,k7,k8,k9,k10,k11,k12,k13⟩:=KEEPS.out _ _ _ h1
    obtain ⟨vs,hvt,hvl,hown⟩:=h1.rows.wds
    have hb1:Below w1.heap.size w1 (w1.alloc (.cells #[.int .i64 5,.string tx,.int .i64 0,.int .i64 tp,.slice none 0 0] 51)):=(Below.refl _ _).alloc (Nat.le_refl _) _
    have hFit:FitR 5 tx 0 tp:=⟨by omega,by omega,by omega,by omega,ok3,ok4,ok5⟩
    have hsz1:=h1.bel.size
    have H1:=Lib.hid (h1.below hb1)
    have HNL:=Lib.hid (fun (P:Nat→Prop)=>live_plain hFit (w1.alloc (.cells #[.int .i64 5,.string tx,.int .i64 0,.int .i64 tp,.slice none 0 0] 51)) P (base:=A.heap.size) (by simp;omega))
    have HVT:=Lib.hid hvt
    have HVL:=Lib.hid (fun y hy=>(hvl y hy).below hb1)
    have hlt1:=h1.lt
    clear hvt hvl hb1 h1
    go_wp2_with (at_builtin;refine wpList_append_own_at _ rfl _ _ 46 rfl A.heap.size 51 i0 (.agg #[.int .i64 0,.string ⟨#[]⟩,.int .i64 0,.int .i64 0,.slice none 0 0]) 5 64 Tryz.underlying46 hti hz0 hz1 hz2 rfl (by decide) _ ws.length _ rfl (hown.alloc _) ⟨w1.heap.size,0,none⟩ 1 1 [.int .i64 5,.string tx,.int .i64 0,.int .i64 tp,.slice none 0 0] rfl rfl ?c1 ?c2 ?c3 ?c4 ?c5 ?_)
    case c1=>exact new_rowR _ _ rfl _ _ _ _ _ _
    case c2=>exact rv_one ⟨.mk 5 tx 0 tp [],none,0⟩
    case c3=>unfold maxLen;omega
    case c4=>omega
    case c5=>simp;omega
    intro v' w3 hown' hgrow _ hat
    obtain ⟨a3,c3,rfl⟩:=own_slice hown'
    have hN:=H1.out.words (news:=[⟨.mk 5 tx 0 tp [],none,0⟩]) HVT.out HVL.out (fun y hy=>by rw [List.mem_singleton.1 hy];exact HNL.out _) rfl hown' hgrow (by simpa using hat)
    obtain ⟨p0,p1,p2,p3,pf0,pf1,pf2,pf3⟩:=H1.out.argGrown (fun k e=>.inl e) hgrow
    simp only [List.map_cons,List.map_nil] at hN
    have HN:=Lib.hid hN
    clear hN hown' hgrow hat k0 k1 k2 k3 k4 k5 k6 k7 k8 k9 k10 k11 k12 k13
    obtain ⟨w4,hw4⟩:∃ w4,w3.setCell ⟨w.heap.size,2,none⟩ (.slice a3 (ws.length + 1) c3)=w4:=⟨_,rfl⟩
    rw [hw4] at HN
    have WK2:=Lib.hid (fun (W:World) (h:OneSt A R Z w 51 w.heap.size ⟨key,spot,ws ++ [.mk 5 tx 0 tp []],ts⟩ ⟨tk,tx,tn,tp⟩ (.slice a3 (ws.length + 1) c3) (.slice at_ ts.length ct) W)=>(WK.out W).mono fun e w' hh=>(show e=.returned (.bool true)∧OneSt A R Z w 51 w.heap.size ⟨key,spot,ws ++ [.mk 5 tx 0 tp []],ts⟩ ⟨tk,tx,tn,tp⟩ (.slice a3 (ws.length + 1) c3) (.slice at_ ts.length ct) w' from ⟨hh.1,h.below hh.2⟩))
    have h1d:=HN.out.below (Below.refl _ _).drew
    go_wp2_with fail
    (try rw [hw4])
    (try go_wp2_with fail)
    go_region_held3 (fun W=>OneSt A R Z w 51 w.heap.size ⟨key,spot,ws ++ [.mk 5 tx 0 tp []],ts⟩ ⟨tk,tx,tn,tp⟩ (.slice a3 (ws.length + 1) c3) (.slice at_ ts.length ct) W ∧
      W.cell? ⟨w.heap.size,0,none⟩=some (.string key)∧W.cell? ⟨w.heap.size,1,none⟩=some (.int .i64 spot)∧W.cell? ⟨w.heap.size,2,none⟩=some (.slice a3 (ws.length + 1) c3)∧W.cell? ⟨w.heap.size,3,none⟩=some (.slice at_ ts.length ct) ∧
      W.cell? ⟨w.heap.size + 1 + 1,0,none⟩=some (.int .i64 tk)∧W.cell? ⟨w.heap.size + 1 + 1,1,none⟩=some (.string tx)∧W.cell? ⟨w.heap.size + 1 + 1,2,none⟩=some (.int .i64 tn)∧W.cell? ⟨w.heap.size + 1 + 1,3,none⟩=some (.int .i64 tp) ∧
      W.frozen? ⟨w.heap.size + 1,0,none⟩=false∧W.frozen? ⟨w.heap.size + 1,1,none⟩=false∧W.frozen? ⟨w.heap.size + 1,2,none⟩=false∧W.frozen? ⟨w.heap.size + 1,3,none⟩=false∧W.frozen? ⟨w.heap.size,2,none⟩=false∧W.frozen? ⟨w.heap.size,3,none⟩=false)
      (first
        | exact KEEPS.out _ _ _ (by assumption)
        | exact KEEPS.out _ _ _ (FILLS.out _ _ _ _ _ _ _ (by assumption)))
      ((first
        | (go_at_call 84;refine (WK2.out _ (by assumption)).mono ?_;rintro e w' ⟨rfl,hn⟩;obtain ⟨y0,y1,y2,y3,⟨q0,q1,q2,q3,_,_,_,_⟩⟩:=hn.res)
        | (go_at_call 141;refine (ST2.out _).mono ?_;rintro e w' ⟨rfl,rfl⟩)))
    have HE:=Lib.hid (FILL.out _ _ _ hn)
    go_wp2_with fail
    obtain ⟨hbel,⟨r0,r1,r2,r3,rf0,rf1,rf2,rf3⟩,hrw,hkp,hri⟩:=HE.out
    refine bodyPost_ret (v:=.tuple #[.agg #[.string key,.int .i64 spot,.slice a3 (ws.length + 1) c3,.slice at_ ts.length ct],.int .i64 ((i:Int) + 1),.bool true]) (by simp [results,Tryz.results86,go_sem,r0,r1,r2,r3]) rfl ?_
    unfold OnePost
    rw [HOP.out]
    exact ⟨_,_,rfl,hrw,hbel,hkp,hri,Nat.le_of_lt (Nat.lt_of_succ_lt (lt_of_cellR r0))⟩
end Go.Proofs.YtjcleokfpohpdaaGreatDoor
